/- Arguments opened: a slice of structs as the list of what its elements hold; an id, a list of ids. No condition but those in each statement. -/
import Derived.Test.YthcejcffnjhomaaGreatIdA
import Derived.Test.YthcejcffnjhomaaGreatOpen0
import Derived.Deep.Slices
import Derived.Lib.SmallJoins
namespace Go.Proofs.YthcejcffnjhomaaGreat.Ids
open Go.ChangeShapes Go.WideShapes Go.ChangeAt Go.RowKit

section
variable {H : Type} {enc : TypeId × Value → H} {P : Program} {w : World} {base : Nat} {spare : Nat → Bool} {held : Bool}
/-- A slice of elements of c cells each, of which each reads: it is empty, or lies in memory, its elements' cells as p says. -/
theorem open_rows {t e : TypeId} {c : Nat} (ht : P.underlying t = some (.slice e)) (hC : P.cellsOf e = c) (hc : 0 < c) {a : Option Addr} {len cap : Nat} {d : DataW H} {ps : List MemPlace} (h : DataW.Trod enc P w base spare held t (.slice a len cap) d ps)
    (p : List Value → Prop) (hp : ∀ n cs y, DataW.trod enc P w base spare held n e cs = some y → p cs) :
    len ≤ cap ∧ cap ≤ maxLen ∧ (a = none → cap = 0) ∧ (0 < len → ∃ b off, a = some ⟨b, off, none⟩ ∧ b < w.heap.size ∧ ∀ i, i < len → ∃ cs, p cs ∧ ∀ j, j < c → w.cell? ⟨b, off + i * c + j, none⟩ = cs[j]?) := by
  obtain ⟨fuel, h⟩ := h
  have hcs : (Value.slice a len cap).cells.toList = [.slice a len cap] := rfl
  rw [hcs] at h
  rcases Go.Deep.open_slice ht h with ⟨h0, -⟩ | ⟨a', len', cap', m, n, D, Pl, h0, hb, hl, hm, hmm, -, hall⟩
  · simp only [List.cons.injEq, and_true] at h0
    cases h0
    exact ⟨Nat.le_refl _, by unfold maxLen; omega, fun _ => rfl, fun h => absurd h (Nat.lt_irrefl 0)⟩
  · simp only [List.cons.injEq, and_true] at h0
    cases h0
    refine ⟨hl, hm, (fun e => by cases e), fun hpos => ?_⟩
    have hlm : len ≤ m := by rw [hmm]; split <;> omega
    rw [hC] at hall
    have key : ∀ i, i < len → ∃ cs, cs.length = c ∧ p cs ∧ ∀ j, j < c → w.cell? ((a'.add (i * c)).add j) = cs[j]? := fun i hi => by
      obtain ⟨cs, h1, h2⟩ := hall i (by omega)
      obtain ⟨-, h3, h4⟩ := World.cells?_some h1
      exact ⟨cs, h3, hp _ _ _ h2, h4⟩
    obtain ⟨cs, h1, -, h3⟩ := key 0 hpos
    have h4 := h3 0 hc
    have h5 : cs[0]? = some (cs[0]'(by omega)) := List.getElem?_eq_getElem (by omega)
    rw [h5] at h4
    have ha : (a'.add (0 * c)).add 0 = a' := by simp [Addr.add]
    rw [ha] at h4
    have hs := World.cell?_spot h4
    obtain ⟨b, off, sp⟩ := a'
    simp only at hs
    subst hs
    refine ⟨b, off, rfl, World.block_lt_of_cell? _ _ h4, fun i hi => ?_⟩
    obtain ⟨cs, -, h6, h7⟩ := key i hi
    refine ⟨cs, h6, fun j hj => ?_⟩
    have := h7 j hj
    rw [Addr.add_lit, Addr.add_lit] at this
    exact this
end

section
variable {H : Type} {enc : TypeId × Value → H} {W : World} {base : Nat} {spare : Nat → Bool} {held : Bool}
set_option maxRecDepth 100000 in
theorem int_reads {n : Nat} {c : Value} {y : DataW H × List MemPlace} (h : DataW.trod enc Tryz.prog W base spare held n 3 [c] = some y) : ∃ a, c = .int .i64 a ∧ wfI a := by
  obtain ⟨a, e, -, hw⟩ := DataW.trod_int Tryz.underlying3 h
  simp only [List.cons.injEq, and_true] at e
  exact ⟨a, e, wf_i64.1 hw⟩
set_option maxRecDepth 100000 in
/-- What reads as an id is its two numbers. -/
theorem id_reads {n : Nat} {cs : List Value} {y : DataW H × List MemPlace} (h : DataW.trod enc Tryz.prog W base spare held n 41 cs = some y) : ∃ x : Idn, wfId x ∧ cs = ids x := by
  obtain ⟨xs, m, rfl, -, hl, hxl, hf⟩ := DataW.trod_struct Tryz.underlying41 h
  rw [show Tryz.prog.cellsOf 41 = 2 by kernel_rfl] at hl
  have hC : Tryz.prog.cellsOf 3 = 1 := by kernel_rfl
  match cs, hl with
  | [c0, c1], _ =>
    have h0 := hf 0 _ rfl
    have h1 := hf 1 _ rfl
    simp [hC] at h0 h1
    simp at hxl
    obtain ⟨a, rfl, wa⟩ := int_reads (h0.trans (List.getElem?_eq_getElem (by omega)))
    obtain ⟨b, rfl, wb⟩ := int_reads (h1.trans (List.getElem?_eq_getElem (by omega)))
    exact ⟨(a, b), ⟨wa, wb⟩, rfl⟩
set_option maxRecDepth 100000 in
theorem open_idl {r : Reach} {b0 : Nat} {v : Value} {d : DataW H} {p : List MemPlace} (hv : Value.okWide Tryz.prog W r b0 41 v) (h : DataW.Trod enc Tryz.prog W base spare held 41 v d p) : ∃ x y : Int, v = .agg #[.int .i64 x, .int .i64 y] ∧ wfId (x, y) := by
  obtain ⟨cs, rfl, -⟩ := okWide_struct Tryz.underlying41 hv
  obtain ⟨fuel, h⟩ := h
  have hc : (Value.agg cs).cells.toList = cs.toList := by simp [Value.cells]
  rw [hc] at h
  obtain ⟨x, hx, e⟩ := id_reads h
  exact ⟨x.1, x.2, by rw [show cs = (ids x).toArray by rw [← e]]; rfl, hx⟩
set_option maxRecDepth 100000 in
theorem open_list {r : Reach} {b0 : Nat} {v : Value} {d : DataW H} {p : List MemPlace} (hv : Value.okWide Tryz.prog W r b0 35 v) (h : DataW.Trod enc Tryz.prog W base spare held 35 v d p) : ∃ zs : List Idn, RowAt W v zs ∧ ∀ x ∈ zs, wfId x := by
  obtain ⟨a, len, cap, rfl⟩ := okWide_slice Tryz.underlying35 hv
  obtain ⟨h1, h2, h3, h4⟩ := open_rows Tryz.underlying35 (c := 2) (by kernel_rfl) (by decide) h (fun cs => ∃ x : Idn, wfId x ∧ cs = ids x) fun n cs y h => id_reads h
  unfold maxLen at h2
  by_cases hz : len = 0
  · subst hz
    exact ⟨[], ⟨a, cap, rfl, h1, by omega, h3, fun h => absurd rfl h⟩, fun x hx => by cases hx⟩
  · obtain ⟨b, off, rfl, hlt, hall⟩ := h4 (by omega)
    obtain ⟨zs, hl, hz⟩ := choose_list ((0, 0) : Idn) len (fun i x => wfId x ∧ W.cell? ⟨b, off + i * 2, none⟩ = some (.int .i64 x.1) ∧ W.cell? ⟨b, off + i * 2 + 1, none⟩ = some (.int .i64 x.2)) fun i hi => by
      obtain ⟨cs, ⟨x, hx, rfl⟩, hc⟩ := hall i hi
      exact ⟨x, hx, hc 0 (by decide), hc 1 (by decide)⟩
    refine ⟨zs, ⟨some ⟨b, off, none⟩, cap, by rw [hl], by rw [hl]; exact h1, by omega, (fun e => by cases e), fun _ => ⟨b, off, rfl, hlt, fun j hj => (hz j (by omega)).2⟩⟩, fun x hx => ?_⟩
    obtain ⟨j, hj, rfl⟩ := mem_nth.1 hx
    exact (hz j (by omega)).1
end
end Go.Proofs.YthcejcffnjhomaaGreat.Ids
