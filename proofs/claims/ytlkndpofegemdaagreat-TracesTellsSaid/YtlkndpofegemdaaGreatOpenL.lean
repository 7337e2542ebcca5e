/- Arguments opened, at their cells: a list of lists of ids. No condition but those in each statement. -/
import Derived.Test.YtlkndpofegemdaaGreatOpenG
import Derived.Test.YtlkndpofegemdaaGreatCpsA
namespace Go.Proofs.YtlkndpofegemdaaGreat.Cps
open Go.ChangeShapes Go.WideShapes Go.ChangeAt Go.RowKit Cmd Bat Ids Rec Wid Gra Rea
set_option linter.unusedVariables false
set_option linter.unusedSimpArgs false

section
variable {H : Type} {enc : TypeId × Value → H} {W : World} {base : Nat} {spare : Nat → Bool} {held : Bool}
set_option maxRecDepth 100000 in
theorem one_reads {n : Nat} {cs : List Value} {y : DataW H × List MemPlace} (h : DataW.trod enc Tryz.prog W base spare held n 36 cs = some y) : ∃ (v : Value) (zs : List Idn), cs = [v] ∧ RowAt W v zs ∧ ∀ x ∈ zs, wfId x := by
  have hc : ∃ v, cs = [v] := by
    rcases Go.Deep.open_slice Tryz.underlying36 h with ⟨h0, -⟩ | ⟨a', len', cap', m, n, D, Pl, h0, -⟩
    · exact ⟨_, h0⟩
    · exact ⟨_, h0⟩
  obtain ⟨v, rfl⟩ := hc
  obtain ⟨zs, h1, h2⟩ := ids_read h
  exact ⟨v, zs, rfl, h1, h2⟩
set_option maxRecDepth 100000 in
theorem open_lls {r : Reach} {b0 : Nat} {v : Value} {d : DataW H} {p : List MemPlace} (hv : Value.okWide Tryz.prog W r b0 23 v) (h : DataW.Trod enc Tryz.prog W base spare held 23 v d p) : ∃ ls : List (List Idn), layLL.Row W v ls ∧ ∀ c ∈ ls, ∀ x ∈ c, wfId x := by
  obtain ⟨a, len, cap, rfl⟩ := okWide_slice Tryz.underlying23 hv
  obtain ⟨h1, h2, -, h4⟩ := open_rows Tryz.underlying23 (c := 1) (by kernel_rfl) (by decide) h (fun cs => ∃ (v : Value) (zs : List Idn), cs = [v] ∧ RowAt W v zs ∧ ∀ x ∈ zs, wfId x) fun n cs y h => one_reads h
  unfold maxLen at h2
  by_cases hz : len = 0
  · subst hz
    exact ⟨[], ⟨a, cap, rfl, h1, by omega, fun h => absurd rfl h⟩, fun x hx => by cases hx⟩
  · obtain ⟨b, off, rfl, hlt, hall⟩ := h4 (by omega)
    obtain ⟨zs, hl, hz⟩ := choose_list ([] : List Idn) len (fun i x => (∀ y ∈ x, wfId y) ∧ layLL.lies W b (off + i) x) fun i hi => by
      obtain ⟨cs, ⟨v, x, rfl, hx, hw⟩, hc⟩ := hall i hi
      have h0 := hc 0 (by decide)
      rw [Nat.mul_one, Nat.add_zero] at h0
      exact ⟨x, hw, v, h0, hx⟩
    refine ⟨zs, ⟨some ⟨b, off, none⟩, cap, by rw [hl], by rw [hl]; exact h1, by omega, fun _ => ⟨b, off, rfl, hlt, fun j hj => (hz j (by omega)).2⟩⟩, fun x hx => ?_⟩
    obtain ⟨j, hj, rfl⟩ := (Lay.mem (L := layLL)).1 hx
    exact (hz j (by omega)).1
set_option maxRecDepth 100000 in
theorem open_i64 {r : Reach} {b0 : Nat} {v : Value} {d : DataW H} {p : List MemPlace} (hv : Value.okWide Tryz.prog W r b0 3 v) (h : DataW.Trod enc Tryz.prog W base spare held 3 v d p) : ∃ a : Int, v = .int .i64 a ∧ (-9223372036854775808 ≤ a ∧ a ≤ 9223372036854775807) := by
  obtain ⟨a, rfl, -, -, hw⟩ := open_int Tryz.underlying3 hv h
  have : -9223372036854775808 ≤ a ∧ a ≤ 9223372036854775807 := by simpa [Lit.wf, IntKind.min, IntKind.max, IntKind.signed, IntKind.bits] using hw
  exact ⟨a, rfl, this⟩
end
end Go.Proofs.YtlkndpofegemdaaGreat.Cps
