/- Lists of commands as arguments. No condition but those in each statement. -/
import Derived.Test.YtobechecnkmpaaaDoorRows
import Derived.Test.YtobechecnkmpaaaDoorOpen0
import Derived.Test.YtobechecnkmpaaaDoorBatA
namespace Go.Proofs.YtobechecnkmpaaaDoor.Bat
open Go.ChangeShapes Go.WideShapes Go.ChangeAt Go.RowKit

section
variable {H : Type} {enc : TypeId × Value → H} {W : World} {base : Nat} {spare : Nat → Bool} {held : Bool}
def cells3 (x : Cmdn) : List Value := [.int .i64 x.1, .string (str x.2.1), .float .f64 x.2.2]
set_option maxRecDepth 100000 in
/-- What reads as a command is its number, text and word. -/
theorem cmd_reads {n : Nat} {cs : List Value} {y : DataW H × List MemPlace} (h : DataW.trod enc Tryd.prog W base spare held n 26 cs = some y) : ∃ x : Cmdn, x.2.2 < 18446744073709551616 ∧ cs = cells3 x ∧ y.1 = .agg [.lit (.int .i64 x.1), .lit (.string x.2.1), .lit (.float .f64 x.2.2)] := by
  obtain ⟨y0, y1, y2, m, rfl, hl, h0, h1, h2⟩ := Go.Deep.trod_struct3 Tryd.underlying26 h
  rw [show Tryd.prog.cellsOf 26 = 3 by kernel_rfl] at hl
  have hC : Tryd.prog.cellsOf 3 = 1 := by kernel_rfl
  have hD : Tryd.prog.cellsOf 9 = 1 := by kernel_rfl
  have hE : Tryd.prog.cellsOf 22 = 1 := by kernel_rfl
  match cs, hl with
  | [c0, c1, c2], _ =>
    simp [hC] at h0
    simp [hD] at h1
    simp [hE] at h2
    obtain ⟨k, e0, rfl, -⟩ := DataW.trod_int Tryd.underlying3 h0
    obtain ⟨s, e1, rfl, -⟩ := DataW.trod_string Tryd.underlying9 h1
    obtain ⟨x, e2, rfl, hx⟩ := trod_float Tryd.underlying22 h2
    simp only [List.cons.injEq, and_true] at e0 e1 e2
    exact ⟨(k, s.data.toList, x), by simpa [Lit.wf] using hx, by rw [e0, e1, e2]; rfl, rfl⟩
theorem cmd_weight (x : Cmdn) : x.2.1.length ∈ (DataW.agg [.lit (.int .i64 x.1), .lit (.string x.2.1), .lit (.float .f64 x.2.2)] : DataW H).weights Tryd.prog 26 := by
  simp [DataW.weights, DataW.weightsEach, Tryd.underlying26]
set_option maxRecDepth 100000 in
theorem open_cmds {ts : List TypeId} {ds : List (DataW H)} (hz : (DataW.weightsEach Tryd.prog ts ds).all (· ≤ reachBytes) = true) {j : Nat} {r : Reach} {b0 : Nat} {v : Value} {d : DataW H} {p : List MemPlace} (ht : ts[j]? = some 34) (hd : ds[j]? = some d)
    (hv : Value.okWide Tryd.prog W r b0 34 v) (h : DataW.Trod enc Tryd.prog W base spare held 34 v d p) : ∃ zs : List Cmdn, layC.Row W v zs ∧ ∀ x ∈ zs, wfC x := by
  obtain ⟨a, len, cap, rfl⟩ := okWide_slice Tryd.underlying34 hv
  obtain ⟨h1, h2, h4⟩ := open_rowsD Tryd.underlying34 (c := 3) (by kernel_rfl) (by decide) h (fun cs D => ∃ x : Cmdn, x.2.2 < 18446744073709551616 ∧ cs = cells3 x ∧ D = .agg [.lit (.int .i64 x.1), .lit (.string x.2.1), .lit (.float .f64 x.2.2)]) fun n cs y h => cmd_reads h
  unfold maxLen at h2
  by_cases hl0 : len = 0
  · subst hl0
    exact ⟨[], ⟨a, cap, rfl, h1, by omega, fun h => absurd rfl h⟩, fun x hx => by cases hx⟩
  · obtain ⟨b, off, rfl, hlt, elems, rest, rfl, hall⟩ := h4 (by omega)
    obtain ⟨zs, hl, hzs⟩ := choose_list ((0, [], 0) : Cmdn) len (fun i x => wfC x ∧ layC.lies W b (layC.pos off i) x) fun i hi => by
      obtain ⟨cs, D, hD, ⟨x, hx, rfl, rfl⟩, hc⟩ := hall i hi
      have hw := sized_elem hz ht hd Tryd.underlying34 hD (cmd_weight x)
      exact ⟨x, ⟨hx, hw⟩, hc 0 (by decide), hc 1 (by decide), hc 2 (by decide)⟩
    refine ⟨zs, ⟨some ⟨b, off, none⟩, cap, by rw [hl], by rw [hl]; exact h1, by omega, fun _ => ⟨b, off, rfl, hlt, fun j hj => (hzs j (by omega)).2⟩⟩, fun x hx => ?_⟩
    obtain ⟨j, hj, rfl⟩ := (Lay.mem (L := layC)).1 hx
    exact (hzs j (by omega)).1
end
end Go.Proofs.YtobechecnkmpaaaDoor.Bat
