/- What the program's Minus, List and Same give (layer 4, idset), in whatever order the map is gone over. Condition: the sets lie in memory as their cells and their maps say. -/
import Derived.Test.YthcejcffnjhomaaGreatSetA
import Derived.Test.YthcejcffnjhomaaGreatIdS
namespace Go.Proofs.YthcejcffnjhomaaGreat.Ids
open Go.RowKit Go.Maps
set_option linter.unusedVariables false

/-! ### What has been collected -/
def minus (zs ys : List Idn) : List Idn := zs.filter fun x => decide (x ∉ ys)
theorem minus_mem (zs ys : List Idn) (x : Idn) : x ∈ minus zs ys ↔ x ∈ zs ∧ x ∉ ys := by unfold minus; rw [List.mem_filter, decide_eq_true_eq]
theorem minus_nil (zs : List Idn) : minus zs [] = zs := by unfold minus; simp
/-- Of those that are no longer to come just those are collected that the other set has not. -/
structure Coll (zs ys : List Idn) (left : Lit → Bool) (cnt : Nat) (out : List Idn) : Prop where
  nodup : out.Nodup
  mem : ∀ x, x ∈ out ↔ x ∈ zs ∧ left (litId x) = false ∧ x ∉ ys
  len : out.length + cnt ≤ zs.length
theorem Coll.start {D : DataW Unit} {zs : List Idn} (t : Told D zs) (ys : List Idn) : Coll zs ys (Maps.has D) (Maps.size D) [] :=
  ⟨List.nodup_nil, fun x => ⟨fun h => (by cases h), fun ⟨h1, h2, _⟩ => (by rw [(t.has _).2 ⟨x, h1, rfl⟩] at h2; cases h2)⟩, by rw [t.size]; simp⟩
theorem same_lit {zs : List Idn} (hw : ∀ x ∈ zs, wfId x) {x y : Idn} (hx : x ∈ zs) (hy : y ∈ zs) : (litId y).sameKey (litId x) = decide (y = x) := by
  by_cases e : y = x
  · subst e; rw [WideAt.sameKey_self (lit_key y)]; simp
  · rw [sameKey_ne fun h => e (litId_inj (hw y hy) (hw x hx) h)]; simp [e]
theorem Coll.step {D : DataW Unit} {zs ys out : List Idn} {left : Lit → Bool} {cnt cnt1 : Nat} (t : Told D zs) (h : Coll zs ys left cnt out) {x : Idn} (hx : x ∈ zs) (hl : left (litId x) = true) (hc : cnt1 < cnt) :
    (x ∈ ys → Coll zs ys (fun z => left z && !z.sameKey (litId x)) cnt1 out) ∧ (x ∉ ys → Coll zs ys (fun z => left z && !z.sameKey (litId x)) cnt1 (out ++ [x])) := by
  have key : ∀ y ∈ zs, (left (litId y) && !(litId y).sameKey (litId x)) = false ↔ left (litId y) = false ∨ y = x := fun y hy => by
    rw [same_lit t.wf hx hy]
    by_cases e : y = x <;> simp [e]
  have hno : x ∉ out := fun hm => by have := ((h.mem x).1 hm).2.1; rw [hl] at this; cases this
  refine ⟨fun hy => ⟨h.nodup, fun y => ?_, by have := h.len; omega⟩, fun hy => ⟨?_, fun y => ?_, by have := h.len; simp; omega⟩⟩
  · rw [h.mem]
    constructor
    · rintro ⟨h1, h2, h3⟩; exact ⟨h1, (key y h1).2 (.inl h2), h3⟩
    · rintro ⟨h1, h2, h3⟩
      rcases (key y h1).1 h2 with h2 | rfl
      · exact ⟨h1, h2, h3⟩
      · exact absurd hy h3
  · rw [List.nodup_append]
    refine ⟨h.nodup, by simp, fun a ha b hb e => ?_⟩
    simp at hb
    exact hno (hb ▸ e ▸ ha)
  · rw [List.mem_append, h.mem, List.mem_singleton]
    constructor
    · rintro (⟨h1, h2, h3⟩ | rfl)
      · exact ⟨h1, (key y h1).2 (.inl h2), h3⟩
      · exact ⟨hx, (key y hx).2 (.inr rfl), hy⟩
    · rintro ⟨h1, h2, h3⟩
      rcases (key y h1).1 h2 with h2 | rfl
      · exact .inl ⟨h1, h2, h3⟩
      · exact .inr rfl
theorem flat_rise {l : List Idn} (h : Flat l) (hd : l.Nodup) : Rise l := by
  have := List.Pairwise.and h hd
  exact this.imp fun {a b} ⟨h1, h2⟩ => by
    cases hk : idLt a b with
    | true => rfl
    | false => exact absurd (lt_tot hk h1) h2
theorem Coll.done {zs ys out d : List Idn} {left : Lit → Bool} {cnt : Nat} (hr : Rise zs) (h : Coll zs ys left cnt out) (hl : ∀ k, left k = false) (hf : Flat d) (hp : d.Perm out) : d = minus zs ys := by
  refine rise_eq (flat_rise hf (hp.nodup_iff.2 h.nodup)) (hr.filter _) fun x => ?_
  rw [hp.mem_iff, h.mem, minus_mem]
  exact ⟨fun ⟨h1, _, h3⟩ => ⟨h1, h3⟩, fun ⟨h1, h3⟩ => ⟨h1, hl _, h3⟩⟩

theorem Owns.on {w w' : World} {base : Nat} {v : Value} {zs : List Idn} (h : Owns w base v zs) (hb : Below w.heap.size w w') : Owns w' base v zs :=
  World.ownsRow.kept h (row := none) ⟨hb.os, hb.tape, hb.output, hb.size, fun k hk _ => hb.block k hk⟩ (by cases hv : v.ownBlock <;> simp)
theorem Owns.low {w : World} {base : Nat} {v : Value} {zs : List Idn} (h : Owns w base v zs) {j : Nat} (hj : j < base) : some j ≠ v.ownBlock := fun e => by
  have := (World.ownsRow.lt h j e.symm).1; omega
theorem below_grown {w w' : World} (hb : Below w.heap.size w w') : w.grownBy w' none := ⟨hb.os, hb.tape, hb.output, hb.size, fun k hk _ => hb.block k hk⟩

set_option maxHeartbeats 2000000 in
set_option maxRecDepth 100000 in
theorem minus_p (g m : Nat) (zs : List Idn) (u : Value) (ys : List Idn) (w : World) (h : SetP w g m zs) (hu : SetAt w u ys) (hl : zs.length ≤ 100000) : Calls Tryz.prog 94 #[.pointer (some ⟨g, 0, none⟩), u] w (GivesRow (minus zs ys) w) := by
  obtain ⟨i0, hi, hz0, hz1, hz2⟩ := info_parts info_id
  have c0 := h.cell
  have HW := Lib.hid h.set.wf
  obtain ⟨D, hown, ht⟩ := h.set
  have HT := Lib.hid ht
  have HM := Lib.hid hown.lt
  obtain ⟨N, hN⟩ : ∃ N, zs.length = N := ⟨_, rfl⟩
  rw [hN] at hown hl
  have HN := Lib.hid hN
  have HU := Lib.hid hu
  have HH : Hid (∀ W x y, Below w.heap.size w W → wfId (x, y) → Calls Tryz.prog 93 #[u, .agg #[.int .i64 x, .int .i64 y]] W fun e w' => e = .returned (.bool (decide ((x, y) ∈ ys))) ∧ Below W.heap.size W w') := Lib.hid fun W x y hb hx => sethas_any u ys x y W (HU.out.on hb) hx
  clear ht h hu hN
  go_enter Tryz.func94, Tryz.ntmps94
  go_wp2_with (first
    | (at_range; refine wpList_range_own _ rfl _ 110 rfl 41 4 law_id und_map boolElem m N D rfl hown ?_; intro w0 hrg0 hg0 hs0; have HRG := Lib.hid hrg0; have HG0 := Lib.hid hg0; have HS0 := Lib.hid hs0; clear hrg0 hg0 hs0)
    | fail)
  go_frame
  go_loopw [5] (fun o wr => ∃ (left : Lit → Bool) (cnt : Nat) (out : List Idn), Hid (Going wr m w.heap.size N D left cnt) ∧ Hid (Owns wr (w.heap.size + 1) o out) ∧ Hid (Below w.heap.size w wr) ∧ Hid (w.heap.size + 1 ≤ wr.heap.size) ∧ Hid (Coll zs ys left cnt out)) (fun _ wr => wr.rangeLeft m w.heap.size)
  case atStart =>
    exact ⟨_, _, [], HRG, Lib.hid (World.ownsRow_nil _ _ _ _), Lib.hid (Below.grown (Below.refl _ _) HG0.out (Nat.le_refl _) (fun k hk => by cases hk)), Lib.hid (by rw [HS0.out]; exact Nat.le_refl _), Lib.hid (Coll.start HT.out ys)⟩
  case round =>
    obtain ⟨left, cnt, out, hrg, hrow, hbw, hsz, hC⟩ := hrel
    go_wp2_with (first
      | (at_next; refine wp_next_ids rfl _ rfl m w.heap.size N D zs HT.out left cnt rfl hrg.out ?_ ?_)
      | fail)
    · refine Lib.hid fun hl0 => ?_
      have HL := Lib.hid hl0
      have HS := Lib.hid (sort_own (w.heap.size + 1) u5 out wr hrow.out (by have := hC.out.len; rw [HN.out] at this; omega))
      clear hl0
      go_wp2_with (go_at_call 32; ((with_reducible refine HS.out.mono ?_); rintro e w3 ⟨rfl, d, hd1, hd2, hd3, hd4⟩; have HD := Lib.hid (And.intro hd1 (And.intro hd2 (And.intro hd3 hd4))); clear hd1 hd2 hd3 hd4))
      go_ret
      obtain ⟨hd1, hd2, hd3, hd4⟩ := HD.out
      have hd := hC.out.done HT.out.rise HL.out hd1 hd2
      subst hd
      exact ⟨_, rfl, hd3, hbw.out.trans (hd4.mono (by omega))⟩
    · refine Lib.hid ?_
      intro x y w2 cnt2 hmem hlk hrg2 hlt hg2 hs2 hen
      have hsz2 : w.heap.size + 1 ≤ w2.heap.size := by rw [hs2]; exact hsz.out
      have hb2 : Below w.heap.size w w2 := Below.grown hbw.out hg2 hbw.out.size (fun k hk => by cases hk; exact Nat.le_refl _)
      have HB2 : Hid (Below w.heap.size w (w2.alloc (.cells #[.int .i64 x, .int .i64 y] 41))) := Lib.hid (hb2.alloc (by omega) _)
      have HHx := Lib.hid (HH.out _ x y HB2.out (HW.out _ hmem))
      have HX := Lib.hid (Boxed.start w2 x y)
      have HO2 : Hid (Owns (w2.alloc (.cells #[.int .i64 x, .int .i64 y] 41)) (w.heap.size + 1) u5 out) := Lib.hid (World.ownsRow.alloc (World.ownsRow.kept hrow.out hg2 (.inr (Owns.low hrow.out (by omega)).symm)) _)
      have HG2 : Hid (Going (w2.alloc (.cells #[.int .i64 x, .int .i64 y] 41)) m w.heap.size N D (fun z => left z && !z.sameKey (litId (x, y))) cnt2) := Lib.hid (hrg2.alloc _)
      have HC2 := Lib.hid (hC.out.step HT.out hmem hlk hlt)
      have HSZ : Hid (w.heap.size + 1 ≤ w2.heap.size) := Lib.hid hsz2
      have HLT := Lib.hid hlt
      have HLE : Hid (out.length + cnt ≤ N) := Lib.hid (by rw [← HN.out]; exact hC.out.len)
      clear hrg2 hlt hg2 hs2 hsz2 hb2 hmem hlk
      by_cases hy : (x, y) ∈ ys
      · have HC3 := Lib.hid (HC2.out.1 hy)
        rw [decide_eq_true hy] at HHx
        clear hy HC2
        go_wp2_with (go_at_call 93; ((with_reducible refine HHx.out.mono ?_); rintro e w3 ⟨rfl, hb⟩; have HB3 := Lib.hid hb; clear hb))
        go_roundw
        case rel => exact ⟨_, cnt2, out, Lib.hid (HG2.out.kept (below_grown HB3.out) (by simp) (by simp)), Lib.hid (Owns.on HO2.out HB3.out), Lib.hid (HB2.out.trans (HB3.out.mono HB2.out.size)), Lib.hid (by have := HB3.out.size; have := HSZ.out; simp at this ⊢; simp at *; omega), HC3⟩
        case measure => rw [(HG2.out.kept (below_grown HB3.out) (by simp) (by simp)).left_eq, hrg.out.left_eq]; exact HLT.out
      · have HC3 := Lib.hid (HC2.out.2 hy)
        rw [decide_eq_false hy] at HHx
        have hol : out.length ≤ 100000 := by have := HLE.out; omega
        clear hy HC2
        go_wp2_with (first
          | (go_at_call 93; ((with_reducible refine HHx.out.mono ?_); rintro e w3 ⟨rfl, hb⟩; have HB3 := Lib.hid hb; have hx3 := HX.out.on hb; have d0 := hx3.fst; have d1 := hx3.snd; have HO3 := Lib.hid (Owns.on HO2.out hb); have HSZ3 : Hid (w.heap.size + 1 ≤ w3.heap.size) := Lib.hid (by have h1 := hb.size; have h2 := HSZ.out; simp at h1; omega); clear hb hx3))
          | (at_builtin; refine wpList_append_own _ rfl _ _ 35 rfl (w.heap.size + 1) 41 i0 (.agg #[.int .i64 0, .int .i64 0]) 2 16 Tryz.underlying35 hi hz0 hz1 hz2 rfl (by decide) _ _ _ rfl (World.ownsRow.alloc HO3.out _) ⟨w3.heap.size, 0, none⟩ 1 1 [.int .i64 x, .int .i64 y] rfl rfl (cell_two_new _ _ _ _) (fun u hu => by simp at hu; rcases hu with rfl | rfl <;> rfl) (by unfold maxLen; omega) (by omega) (by have := HSZ3.out; simp; omega) ?_; intro v1 w4 hown1 hgrow1 hnil1; have HO4 := Lib.hid (Owns.snoc hown1); have HGR := Lib.hid hgrow1; clear hown1 hgrow1 hnil1))
        have hg3 : Going w3 m w.heap.size N D (fun z => left z && !z.sameKey (litId (x, y))) cnt2 := HG2.out.kept (below_grown HB3.out) (by simp) (by simp)
        have hg4 := (hg3.alloc (cells x y)).kept HGR.out (Owns.low HO3.out (Nat.lt_succ_of_lt HM.out)) (Owns.low HO3.out (Nat.lt_succ_self _))
        have HG4 := Lib.hid hg4
        clear hg3 hg4
        go_roundw
        case rel => exact ⟨_, cnt2, out ++ [(x, y)], HG4, HO4, Lib.hid (Below.grown ((HB2.out.trans (HB3.out.mono HB2.out.size)).alloc (by have := HSZ3.out; omega) _) HGR.out (by have := HSZ3.out; simp; omega) (fun k hk => by have := (World.ownsRow.lt HO3.out k hk).1; omega)), Lib.hid (by have h1 := HGR.out.size; have h2 := HSZ3.out; simp at h1; omega), HC3⟩
        case measure => rw [HG4.out.left_eq, hrg.out.left_eq]; exact HLT.out

theorem minus_any (v u : Value) (zs ys : List Idn) (w : World) (h : SetAt w v zs) (hu : SetAt w u ys) (hl : zs.length ≤ 100000) : Calls Tryz.prog 94 #[v, u] w (GivesRow (minus zs ys) w) := by
  rcases h with ⟨rfl, rfl⟩ | ⟨g, m, rfl, h⟩
  · go_enter Tryz.func94, Tryz.ntmps94
    go_wp2
    go_ret
    exact ⟨_, rfl, row_nil _, Below.refl _ _⟩
  · exact minus_p g m zs u ys w h hu hl
theorem setlist_any (v : Value) (zs : List Idn) (w : World) (h : SetAt w v zs) (hl : zs.length ≤ 100000) : Calls Tryz.prog 59 #[v] w (GivesRow zs w) := by
  have HM := Lib.hid (minus_any v (.pointer none) zs [] w h (.inl ⟨rfl, rfl⟩) hl)
  rw [minus_nil] at HM
  clear h
  go_enter Tryz.func59, Tryz.ntmps59
  go_wp2_with (go_at_call 94; ((with_reducible refine HM.out.mono ?_); rintro e w1 ⟨r, rfl, hr, hb⟩; have HR := Lib.hid (And.intro hr hb); clear hr hb))
  go_ret
  exact ⟨_, rfl, HR.out⟩

/-! ### Same -/
theorem sub_len : ∀ (a b : List Idn), a.Nodup → b.Nodup → (∀ x ∈ a, x ∈ b) → a.length ≤ b.length
  | [], b, _, _, _ => Nat.zero_le _
  | x :: t, b, ha, hb, h => by
    obtain ⟨h1, h2⟩ := List.nodup_cons.1 ha
    have hx := h x (by simp)
    have hd := del_len (x := x) hb
    rw [if_pos hx] at hd
    have := sub_len t (del b x) h2 (hb.filter _) fun y hy => (del_mem b x y).2 ⟨h y (by simp [hy]), fun e => h1 (e ▸ hy)⟩
    rw [List.length_cons]; omega
theorem eq_of_sub {zs ys : List Idn} (hz : Rise zs) (hy : Rise ys) (hl : zs.length = ys.length) (h : ∀ x ∈ zs, x ∈ ys) : zs = ys := by
  refine rise_eq hz hy fun x => ⟨h x, fun hx => ?_⟩
  by_cases hn : x ∈ zs
  · exact hn
  · have hd := del_len (x := x) (rise_nodup hy)
    rw [if_pos hx] at hd
    have := sub_len zs (del ys x) (rise_nodup hz) ((rise_nodup hy).filter _) fun y hy => (del_mem ys x y).2 ⟨h y hy, fun e => hn (e ▸ hy)⟩
    omega
theorem SetAt.rise {w : World} {v : Value} {zs : List Idn} (h : SetAt w v zs) : Rise zs := by
  rcases h with ⟨-, rfl⟩ | ⟨g, b, -, h⟩
  · exact .nil
  · exact h.set.rise
structure Met (zs ys : List Idn) (left : Lit → Bool) : Prop where
  sub : ∀ x ∈ zs, left (litId x) = false → x ∈ ys
end Go.Proofs.YthcejcffnjhomaaGreat.Ids
