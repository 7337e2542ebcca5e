/- Arguments opened, at their cells: a list of records. No condition but those in each statement. -/
import Derived.Test.YthcejcffnjhomaaGreatOpenC
import Derived.Test.YthcejcffnjhomaaGreatGraA
namespace Go.Proofs.YthcejcffnjhomaaGreat.Gra
open Go.ChangeShapes Go.WideShapes Go.ChangeAt Go.RowKit Cmd Bat Ids Rec Wid
set_option linter.unusedVariables false
set_option linter.unusedSimpArgs false

section
variable {H : Type} {enc : TypeId × Value → H} {W : World} {base : Nat} {spare : Nat → Bool} {held : Bool}
set_option maxRecDepth 100000 in
theorem recs_read {n : Nat} {v : Value} {y : DataW H × List MemPlace} (h : DataW.trod enc Tryz.prog W base spare held n 22 [v] = some y) (hw : ∀ k ∈ y.1.weights Tryz.prog 22, k ≤ reachBytes) : ∃ rs : List Rcd, layG.Row W v rs ∧ ∀ x ∈ rs, wfG x := by
  obtain ⟨a, len, cap, rfl, h1, h2, -, h4⟩ := slice_reads Tryz.underlying22 (c := 5) (by kernel_rfl) (by decide) h (fun cs D => (∀ k ∈ D.weights Tryz.prog 48, k ≤ reachBytes) → ∃ (a b q : Int) (v u : Value) (ds : List Idn) (bs : List Cmdn), cs = [.int .i64 a, .int .i64 b, .int .i64 q, v, u] ∧ wfId (a, b) ∧ wfI q ∧ RowAt W v ds ∧ (∀ x ∈ ds, wfId x) ∧ layC.Row W u bs ∧ ∀ x ∈ bs, wfC x) fun n cs y h hk => rec_reads h hk
  unfold maxLen at h2
  by_cases hl0 : len = 0
  · subst hl0
    exact ⟨[], ⟨a, cap, rfl, h1, by omega, fun h => absurd rfl h⟩, fun x hx => (by cases hx)⟩
  · obtain ⟨b, off, rfl, hlt, elems, rest, hy, hall⟩ := h4 (by omega)
    rw [hy] at hw
    obtain ⟨zs, hl, hzs⟩ := choose_list (((0, 0), 0, [], []) : Rcd) len (fun i x => wfG x ∧ layG.lies W b (layG.pos off i) x) fun i hi => by
      obtain ⟨cs, D, hD, hp, hc⟩ := hall i hi
      obtain ⟨x1, x2, q, v, u, ds, bs, rfl, i1, i2, r1, w1, r2, w2⟩ := hp (sized_in Tryz.underlying22 hw hD)
      exact ⟨((x1, x2), q, ds, bs), ⟨i1, w1, w2⟩, hc 0 (by decide), hc 1 (by decide), hc 2 (by decide), ⟨v, hc 3 (by decide), r1⟩, u, hc 4 (by decide), r2⟩
    refine ⟨zs, ⟨some ⟨b, off, none⟩, cap, by rw [hl], by rw [hl]; exact h1, by omega, fun _ => ⟨b, off, rfl, hlt, fun j hj => (hzs j (by omega)).2⟩⟩, fun x hx => ?_⟩
    obtain ⟨j, hj, rfl⟩ := (Lay.mem (L := layG)).1 hx
    exact (hzs j (by omega)).1
set_option maxRecDepth 100000 in
theorem open_recs {r : Reach} {b0 : Nat} {z : Value} {d : DataW H} {p : List MemPlace} (hv : Value.okWide Tryz.prog W r b0 22 z) (h : DataW.Trod enc Tryz.prog W base spare held 22 z d p) (hw : ∀ k ∈ d.weights Tryz.prog 22, k ≤ reachBytes) : ∃ rs : List Rcd, layG.Row W z rs ∧ ∀ x ∈ rs, wfG x := by
  obtain ⟨a, n, c, rfl⟩ := okWide_slice Tryz.underlying22 hv
  obtain ⟨fuel, h⟩ := h
  exact recs_read h hw
end
end Go.Proofs.YthcejcffnjhomaaGreat.Gra
