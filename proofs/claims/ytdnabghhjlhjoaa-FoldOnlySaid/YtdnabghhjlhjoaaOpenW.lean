/- Arguments opened, at their cells: a list of writers. No condition but those in each statement. -/
import Derived.Test.YtdnabghhjlhjoaaOpenT
namespace Go.Proofs.Ytdnabghhjlhjoaa.Vau
open Go.ChangeShapes Go.WideShapes Go.ChangeAt Go.RowKit Cmd Bat
set_option linter.unusedVariables false
set_option linter.unusedSimpArgs false

section
variable {H : Type} {enc : TypeId × Value → H} {W : World} {base : Nat} {spare : Nat → Bool} {held : Bool}
set_option maxRecDepth 100000 in
theorem wr_reads {n : Nat} {cs : List Value} {y : DataW H × List MemPlace} (h : DataW.trod enc Try.prog W base spare held n 63 cs = some y) : ∃ a b c : Int, cs = [.int .i64 a, .int .i64 b, .int .i64 c] ∧ in64 a ∧ in64 b ∧ in64 c := by
  obtain ⟨y0, y1, m, rfl, hl, h0, h1⟩ := trod_struct2 Try.underlying63 h
  rw [show Try.prog.cellsOf 63 = 3 by kernel_rfl] at hl
  have hI : Try.prog.cellsOf 46 = 2 := by kernel_rfl
  have hC : Try.prog.cellsOf 3 = 1 := by kernel_rfl
  match cs, hl with
  | [c0, c1, c2], _ =>
    simp [hI] at h0
    simp [hI] at h1
    obtain ⟨a, b, e0, ia, ib⟩ := id_reads' h0
    obtain ⟨c, rfl, ic⟩ := int_reads' h1
    simp only [List.cons.injEq, and_true] at e0
    exact ⟨a, b, c, by rw [e0.1, e0.2], ia, ib, ic⟩
set_option maxRecDepth 100000 in
theorem open_wrsN {r : Reach} {b0 : Nat} {z : Value} {d : DataW H} {p : List MemPlace} (hv : Value.okWide Try.prog W r b0 34 z) (h : DataW.Trod enc Try.prog W base spare held 34 z d p) : ∃ ws : List Wr, layW.Row W z ws ∧ ∀ x ∈ ws, in64 x.1.1 ∧ in64 x.1.2 ∧ in64 x.2 := by
  obtain ⟨a', n', c', rfl⟩ := okWide_slice Try.underlying34 hv
  obtain ⟨fuel, h⟩ := h
  obtain ⟨a, len, cap, e, h1, h2, -, h4⟩ := slice_reads Try.underlying34 (c := 3) (by kernel_rfl) (by decide) h (fun cs D => ∃ a b c : Int, cs = [.int .i64 a, .int .i64 b, .int .i64 c] ∧ in64 a ∧ in64 b ∧ in64 c) fun n cs y h => wr_reads h
  rw [e]
  unfold maxLen at h2
  by_cases hl0 : len = 0
  · subst hl0
    exact ⟨[], ⟨a, cap, rfl, h1, by omega, fun h => absurd rfl h⟩, fun x hx => by cases hx⟩
  · obtain ⟨b, off, rfl, hlt, elems, rest, hy, hall⟩ := h4 (by omega)
    obtain ⟨zs, hl, hzs⟩ := choose_list (((0, 0), 0) : Wr) len (fun i x => (in64 x.1.1 ∧ in64 x.1.2 ∧ in64 x.2) ∧ layW.lies W b (layW.pos off i) x) fun i hi => by
      obtain ⟨cs, D, hD, ⟨x1, x2, x3, rfl, hi64⟩, hc⟩ := hall i hi
      exact ⟨((x1, x2), x3), hi64, hc 0 (by decide), hc 1 (by decide), hc 2 (by decide)⟩
    refine ⟨zs, ⟨some ⟨b, off, none⟩, cap, by rw [hl], by rw [hl]; exact h1, by omega, fun _ => ⟨b, off, rfl, hlt, fun j hj => (hzs j (by omega)).2⟩⟩, fun x hx => ?_⟩
    obtain ⟨j, hj, rfl⟩ := (Lay.mem (L := layW)).1 hx
    exact (hzs j (by omega)).1
set_option maxRecDepth 100000 in
theorem open_wrs {r : Reach} {b0 : Nat} {z : Value} {d : DataW H} {p : List MemPlace} (hv : Value.okWide Try.prog W r b0 34 z) (h : DataW.Trod enc Try.prog W base spare held 34 z d p) : ∃ ws : List Wr, layW.Row W z ws := by
  obtain ⟨ws, h1, -⟩ := open_wrsN hv h
  exact ⟨ws, h1⟩
end
end Go.Proofs.Ytdnabghhjlhjoaa.Vau
