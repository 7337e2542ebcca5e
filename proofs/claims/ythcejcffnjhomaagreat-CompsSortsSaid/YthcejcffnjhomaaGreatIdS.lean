/- What the library's sort gives at ids, by the program's Compare (the row is the call's own): the same ids, not falling. Conditions: the row is one of the call's own, and not longer than 100000. -/
import Derived.Test.YthcejcffnjhomaaGreatIdA
import Derived.Test.YthcejcffnjhomaaGreatShelfG
import Derived.Shelf.SlSortCmp.NoneTotal
import Derived.Lib.OwnBridge
import Derived.Lib.AppendIntMem
namespace Go.Proofs.YthcejcffnjhomaaGreat.Ids
open Go.RowKit Go.Lib Go.Sort
set_option linter.unusedVariables false

/-! ### The order -/
theorem ltOf_id (x y : Idn) : ltOf idCmp x y = idLt x y := by
  unfold ltOf
  rw [cmp_lt]
  cases h : idLt x y with
  | true => rfl
  | false => simp only [Bool.false_eq_true, if_false]; split <;> decide
theorem swo_id : SWO (ltOf idCmp) where
  irrefl x := by rw [ltOf_id]; exact lt_irr x
  trans x y z h1 h2 := by rw [ltOf_id] at *; exact lt_tr h1 h2
  ntrans x y z h1 h2 := by
    rw [ltOf_id] at *
    cases h : idLt x z with
    | false => rfl
    | true =>
      cases h3 : idLt z y with
      | true => rw [lt_tr h h3] at h1; cases h1
      | false =>
        have e := lt_tot h2 h3
        subst e
        rw [h] at h1; cases h1
theorem two_grow (w : World) (a b c d : Int) : two w a b c d = grow (w.drewN 0) #[cells a b, cells c d] := by unfold two; rw [alloc_eq_grow, alloc_eq_grow, grow_grow]; rfl
theorem cmp_lays (blk off size : Nat) (w : World) : CmpLays Tryz.prog 72 #[] ids 2 idCmp blk off size w := fun _ _ _ _ x y =>
  (compare_any x.1 x.2 y.1 y.2 _).mono fun e w' ⟨he, hw⟩ => ⟨he, 0, _, hw.trans (two_grow _ _ _ _ _)⟩

theorem nth_arr (d : Array Idn) (j : Nat) : nth d.toList j = d[j]! := by
  rw [← nth_bang]
  by_cases h : j < d.size
  · rw [getElem!_pos d j h, getElem!_pos d.toList j (by simpa using h)]; simp
  · rw [getElem!_neg d j h, getElem!_neg d.toList j (by simpa using h)]
/-! ### From an owned row to the sort's, and back -/
theorem frozen_row {w : World} {g : Nat} {cur : Array Value} {t : TypeId} (h : w.heap[g]? = some (.cells cur t (0, 0))) (j : Nat) : w.frozen? ⟨g, j, none⟩ = false := by
  simp [World.frozen?, h]
theorem Owns.hold {w : World} {base : Nat} {v : Value} {zs : List Idn} (h : Owns w base v zs) (hz : zs ≠ []) : ∃ g cap, v = .slice (some ⟨g, 0, none⟩) zs.length cap ∧ base ≤ g ∧ g < w.heap.size ∧ zs.length ≤ cap ∧ cap ≤ 9223372036854775807 ∧ HoldsK ids 2 w g 0 zs.toArray := by
  have hr := h.row
  have hc := fun g hg => World.ownsRow.cells h (g := g) hg
  have hlt := World.ownsRow.lt h
  rcases h.2 with ⟨rfl, h0⟩ | ⟨g, cap, cur, rfl, hb, hg, hn, hm, -, -⟩
  · exact absurd (List.eq_nil_of_length_eq_zero h0) hz
  · refine ⟨g, cap, rfl, hb, (hlt g rfl).2, hn, by unfold maxLen at hm; omega, fun t ht => ⟨?_, frozen_row hg _⟩⟩
    rw [size_flatK] at ht
    have hj : t / 2 < zs.length := by simp at ht; omega
    rw [get_flatK _ _ _ _ ht, Nat.zero_add]
    have e : (zs.toArray)[t / 2]! = nth zs (t / 2) := by rw [← nth_arr]
    rw [e]
    have h1 := flat_at zs (t / 2) hj
    rcases Nat.mod_two_eq_zero_or_one t with h2 | h2
    · have e1 := hc g rfl _ _ h1.1
      rw [add_lit, show t / 2 * 2 = t by omega] at e1
      rw [e1, h2]; rfl
    · have e1 := hc g rfl _ _ h1.2
      rw [add_lit, show t / 2 * 2 + 1 = t by omega] at e1
      rw [e1, h2]; rfl
theorem below_gr {B : Nat} {a w : World} (h : Below B a w) (hB : B ≤ w.heap.size) (os : Array Obj) : Below B a (grow w os) :=
  h.trans (Lib.below_grow B w hB 0 os)
theorem row_nil (w : World) : RowAt w (.slice none 0 0) [] := ⟨none, 0, rfl, Nat.le_refl _, by omega, fun _ => rfl, fun h => absurd rfl h⟩

theorem flat_of_sorted {n : Nat} {zs : List Idn} {d : Array Idn} (hn : n = zs.length) (hp : PermIn 0 n zs.toArray d) (hs : SortedIn (ltOf idCmp) 0 n d) : d.size = n ∧ Flat d.toList ∧ d.toList.Perm zs := by
  obtain ⟨p1, -, p3⟩ := hp
  have hds : d.size = n := by rw [p1, hn]; simp
  have e1 : d.extract 0 n = d := by rw [← hds]; simp
  have e2 : (zs.toArray).extract 0 n = zs.toArray := by rw [hn]; simp
  rw [e1, e2] at p3
  refine ⟨hds, ?_, p3⟩
  refine List.pairwise_iff_getElem.2 fun i j hi hj hij => ?_
  have hi' : i < d.size := by simpa using hi
  have hj' : j < d.size := by simpa using hj
  have := hs i j (Nat.zero_le _) hij (by omega)
  rw [ltOf_id, getElem!_pos d i hi', getElem!_pos d j hj'] at this
  simpa using this
theorem row_of_hold {w : World} {g cap : Nat} {d : Array Idn} (h : HoldsK ids 2 w g 0 d) (hlt : g < w.heap.size) (hc : d.size ≤ cap) (hm : cap ≤ 9223372036854775807) : RowAt w (.slice (some ⟨g, 0, none⟩) d.size cap) d.toList := by
  refine ⟨some ⟨g, 0, none⟩, cap, by simp, by simpa using hc, hm, (fun e => by cases e), fun _ => ⟨g, 0, rfl, hlt, fun j hj => ?_⟩⟩
  have hj' : j < d.size := by simpa using hj
  have h0 := HoldsK.cell h (i := j) (c := 0) hj' (by omega)
  have h1 := HoldsK.cell h (i := j) (c := 1) hj' (by omega)
  rw [nth_arr]
  simp only [Nat.zero_add, Nat.add_zero] at h0 h1 ⊢
  exact ⟨h0.1, h1.1⟩
def Sorts (base : Nat) (v : Value) (zs : List Idn) (w : World) (e : Ending) (w' : World) : Prop := e = .returned (.tuple #[]) ∧ ∃ d : List Idn, Flat d ∧ d.Perm zs ∧ RowAt w' v d ∧ Go.RowKit.Below base w w'
theorem sort_own (base : Nat) (v : Value) (zs : List Idn) (w : World) (h : Owns w base v zs) (hl : zs.length ≤ 100000) : Calls Tryz.prog 32 #[v, .func (.func 72) #[] #[]] w (Sorts base v zs w) := by
  have eg : ∀ args w, (callFunc 72 args).run Tryz.prog w = .ok (.enter 72 args) w := enters_of Tryz.func72 (by kernel_rfl) rfl
  by_cases hz : zs = []
  · subst hz
    have hs : ∃ p cap, v = .slice p 0 cap := by obtain ⟨p, cap, e, _⟩ := h.row; exact ⟨p, cap, e⟩
    obtain ⟨p, cap, rfl⟩ := hs
    exact (AnyF.slices_SortFunc_none Tryz.sortId p cap _ w).mono fun e w' ⟨he, hw⟩ => ⟨he, [], .nil, .nil, by rw [hw]; exact h.row, by rw [hw]; exact Go.RowKit.Below.refl _ _⟩
  · obtain ⟨g, cp, rfl, hg0, hg, hcp, hcm, hh⟩ := Owns.hold h hz
    have hsz : zs.toArray.size = zs.length := by simp
    have hcon := AnyQ.slices_SortFunc Tryz.sortId 2 Tryz.isAgg41 Tryz.sizeOf41 ids (fun _ => rfl) (fun x v hv => by simp [ids] at hv; rcases hv with rfl | rfl <;> rfl) idCmp swo_id 72 #[] g 0 cp zs.toArray w eg (cmp_lays g 0 zs.toArray.size w) hh hg (by rw [hsz]; omega)
    rw [hsz] at hcon
    refine hcon.mono fun e w' ⟨he, d', m, os, hp, hs, hw⟩ => ?_
    obtain ⟨h1, h2, h3⟩ := flat_of_sorted rfl hp hs
    have hps : (putRowK ids 2 (Sort.ahead w m) g 0 d').heap.size = w.heap.size := by unfold putRowK; simp
    have k1 := holdsK_putRowK ids 2 (Sort.ahead w m) g 0 zs.toArray d' (holdsK_ahead ids 2 w m g 0 zs.toArray hh) (by rw [hsz]; exact h1)
    have k2 := holdsK_grow ids 2 _ os g 0 d' (by rw [hps]; exact hg) k1
    have hb2 : Go.RowKit.Below base w (putRowK ids 2 (Sort.ahead w m) g 0 d') := Lib.below_putRow (enc := id) (Go.RowKit.Below.refl _ _) hg0
    have hb3 := below_gr hb2 (by rw [hps]; omega) os
    subst hw
    have hr := row_of_hold (cap := cp) k2 (by
      show g < ((putRowK ids 2 (Sort.ahead w m) g 0 d').heap ++ os).size
      rw [Array.size_append, hps]; omega) (by omega) hcm
    rw [h1] at hr
    exact ⟨he, d'.toList, h2, h3, hr, hb3⟩
end Go.Proofs.YthcejcffnjhomaaGreat.Ids
