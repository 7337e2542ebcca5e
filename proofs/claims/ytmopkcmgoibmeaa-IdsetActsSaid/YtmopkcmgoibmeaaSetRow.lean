/- Arguments opened: a list of what is put in and taken out. No condition but those in each statement. -/
import Derived.Test.YtmopkcmgoibmeaaOpen
import Derived.Test.YtmopkcmgoibmeaaSetF
namespace Go.Proofs.Ytmopkcmgoibmeaa
open Go.ChangeShapes Go.WideShapes Go.ChangeAt Go.RowKit

section
variable {H : Type} {enc : TypeId × Value → H} {W : World} {base : Nat} {spare : Nat → Bool} {held : Bool}
theorem bool_reads {n : Nat} {c : Value} {y : DataW H × List MemPlace} (h : DataW.trod enc Try.prog W base spare held n 4 [c] = some y) : ∃ a, c = .bool a := by
  obtain ⟨a, e, -⟩ := DataW.trod_bool Try.underlying4 h
  simp only [List.cons.injEq, and_true] at e
  exact ⟨a, e⟩
theorem act_reads {n : Nat} {cs : List Value} {y : DataW H × List MemPlace} (h : DataW.trod enc Try.prog W base spare held n 31 cs = some y) : ∃ x : Actn, wfId x.2 ∧ cs = [.bool x.1, .int .i64 x.2.1, .int .i64 x.2.2] := by
  obtain ⟨xs, m, rfl, -, hl, hxl, hf⟩ := DataW.trod_struct Try.underlying31 h
  rw [show Try.prog.cellsOf 31 = 3 by kernel_rfl] at hl
  have hC : Try.prog.cellsOf 4 = 1 := by kernel_rfl
  have hD : Try.prog.cellsOf 29 = 2 := by kernel_rfl
  match cs, hl with
  | [c0, c1, c2], _ =>
    have h0 := hf 0 _ rfl
    have h1 := hf 1 _ rfl
    simp [hC, hD] at h0 h1
    simp at hxl
    obtain ⟨a, rfl⟩ := bool_reads (h0.trans (List.getElem?_eq_getElem (by omega)))
    obtain ⟨x, hx, e⟩ := id_reads (h1.trans (List.getElem?_eq_getElem (by omega)))
    exact ⟨(a, x), hx, by rw [e]; rfl⟩
theorem open_acts {r : Reach} {b0 : Nat} {v : Value} {d : DataW H} {p : List MemPlace} (hv : Value.okWide Try.prog W r b0 23 v) (h : DataW.Trod enc Try.prog W base spare held 23 v d p) : ∃ l : List Actn, ActAt W v l ∧ ∀ x ∈ l, wfId x.2 := by
  obtain ⟨a, len, cap, rfl⟩ := okWide_slice Try.underlying23 hv
  obtain ⟨h1, h2, h3, h4⟩ := open_rows Try.underlying23 (c := 3) (by kernel_rfl) (by decide) h (fun cs => ∃ x : Actn, wfId x.2 ∧ cs = [.bool x.1, .int .i64 x.2.1, .int .i64 x.2.2]) fun n cs y h => act_reads h
  unfold maxLen at h2
  by_cases hz : len = 0
  · subst hz
    exact ⟨[], ⟨a, cap, rfl, h1, by omega, fun h => absurd rfl h⟩, fun x hx => by cases hx⟩
  · obtain ⟨b, off, rfl, hlt, hall⟩ := h4 (by omega)
    obtain ⟨l, hl, hz⟩ := choose_list ((false, (0, 0)) : Actn) len (fun i x => wfId x.2 ∧ W.cell? ⟨b, off + i * 3, none⟩ = some (.bool x.1) ∧ W.cell? ⟨b, off + i * 3 + 1, none⟩ = some (.int .i64 x.2.1) ∧ W.cell? ⟨b, off + i * 3 + 2, none⟩ = some (.int .i64 x.2.2)) fun i hi => by
      obtain ⟨cs, ⟨x, hx, rfl⟩, hc⟩ := hall i hi
      exact ⟨x, hx, hc 0 (by decide), hc 1 (by decide), hc 2 (by decide)⟩
    refine ⟨l, ⟨some ⟨b, off, none⟩, cap, by rw [hl], by rw [hl]; exact h1, by omega, fun _ => ⟨b, off, rfl, hlt, fun j hj => (hz j (by omega)).2.1, fun j hj => (hz j (by omega)).2.2.1, fun j hj => (hz j (by omega)).2.2.2⟩⟩, fun x hx => ?_⟩
    obtain ⟨j, hj, rfl⟩ := List.getElem_of_mem hx
    have := (hz j (by omega)).1
    rwa [List.getD_eq_getElem?_getD, List.getElem?_eq_getElem hj] at this
end
end Go.Proofs.Ytmopkcmgoibmeaa
