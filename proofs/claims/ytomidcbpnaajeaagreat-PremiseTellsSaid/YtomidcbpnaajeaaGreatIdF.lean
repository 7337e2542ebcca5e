/- What the library's sort gives at ids, by the program's Compare (the row is the call's own): the same ids, not falling. Conditions: the row is one of the call's own, and not longer than 100000. -/
import Derived.Test.YtomidcbpnaajeaaGreatIdA
import Derived.Test.YtomidcbpnaajeaaGreatShelfG
import Derived.Shelf.SlSortCmp.NoneTotal
import Derived.Lib.OwnBridge
import Derived.Lib.AppendIntMem
import Derived.Lib.SlicesCompact
import Derived.Laws.AppendOwnNone
namespace Go.Proofs.YtomidcbpnaajeaaGreat.Ids
open Go.RowKit Go.Lib Go.Sort
set_option linter.unusedVariables false

/-! ### The order -/
theorem ltOf_id (x y : Idn) : ltOf idCmp x y = idLt x y := by
  unfold ltOf
  rw [cmp_lt]
  cases h : idLt x y with
  | true => rfl
  | false => simp only [Bool.false_eq_true, if_false]; split <;> decide
theorem swo_id : SWO (ltOf idCmp) where
  irrefl x := by rw [ltOf_id]; exact lt_irr x
  trans x y z h1 h2 := by rw [ltOf_id] at *; exact lt_tr h1 h2
  ntrans x y z h1 h2 := by
    rw [ltOf_id] at *
    cases h : idLt x z with
    | false => rfl
    | true =>
      cases h3 : idLt z y with
      | true => rw [lt_tr h h3] at h1; cases h1
      | false =>
        have e := lt_tot h2 h3
        subst e
        rw [h] at h1; cases h1
theorem two_grow (w : World) (a b c d : Int) : two w a b c d = grow (w.drewN 0) #[cells a b, cells c d] := by unfold two; rw [alloc_eq_grow, alloc_eq_grow, grow_grow]; rfl
theorem cmp_lays (blk off size : Nat) (w : World) : CmpLays Tryz.prog 56 #[] ids 2 idCmp blk off size w := fun _ _ _ _ x y =>
  (compare_any x.1 x.2 y.1 y.2 _).mono fun e w' ⟨he, hw⟩ => ⟨he, 0, _, hw.trans (two_grow _ _ _ _ _)⟩

theorem nth_arr (d : Array Idn) (j : Nat) : nth d.toList j = d[j]! := by
  rw [← nth_bang]
  by_cases h : j < d.size
  · rw [getElem!_pos d j h, getElem!_pos d.toList j (by simpa using h)]; simp
  · rw [getElem!_neg d j h, getElem!_neg d.toList j (by simpa using h)]
/-! ### From an owned row to the sort's, and back -/
theorem frozen_row {w : World} {g : Nat} {cur : Array Value} {t : TypeId} (h : w.heap[g]? = some (.cells cur t (0, 0))) (j : Nat) : w.frozen? ⟨g, j, none⟩ = false := by
  simp [World.frozen?, h]
theorem Owns.hold {w : World} {base : Nat} {v : Value} {zs : List Idn} (h : Owns w base v zs) (hz : zs ≠ []) : ∃ g cap, v = .slice (some ⟨g, 0, none⟩) zs.length cap ∧ base ≤ g ∧ g < w.heap.size ∧ zs.length ≤ cap ∧ cap ≤ 9223372036854775807 ∧ HoldsK ids 2 w g 0 zs.toArray := by
  have hr := h.row
  have hc := fun g hg => World.ownsRow.cells h (g := g) hg
  have hlt := World.ownsRow.lt h
  rcases h.2 with ⟨rfl, h0⟩ | ⟨g, cap, cur, rfl, hb, hg, hn, hm, -, -⟩
  · exact absurd (List.eq_nil_of_length_eq_zero h0) hz
  · refine ⟨g, cap, rfl, hb, (hlt g rfl).2, hn, by unfold maxLen at hm; omega, fun t ht => ⟨?_, frozen_row hg _⟩⟩
    rw [size_flatK] at ht
    have hj : t / 2 < zs.length := by simp at ht; omega
    rw [get_flatK _ _ _ _ ht, Nat.zero_add]
    have e : (zs.toArray)[t / 2]! = nth zs (t / 2) := by rw [← nth_arr]
    rw [e]
    have h1 := flat_at zs (t / 2) hj
    rcases Nat.mod_two_eq_zero_or_one t with h2 | h2
    · have e1 := hc g rfl _ _ h1.1
      rw [add_lit, show t / 2 * 2 = t by omega] at e1
      rw [e1, h2]; rfl
    · have e1 := hc g rfl _ _ h1.2
      rw [add_lit, show t / 2 * 2 + 1 = t by omega] at e1
      rw [e1, h2]; rfl
theorem below_gr {B : Nat} {a w : World} (h : Below B a w) (hB : B ≤ w.heap.size) (os : Array Obj) : Below B a (grow w os) :=
  h.trans (Lib.below_grow B w hB 0 os)
theorem row_nil (w : World) : RowAt w (.slice none 0 0) [] := ⟨none, 0, rfl, Nat.le_refl _, by omega, fun _ => rfl, fun h => absurd rfl h⟩

theorem flat_of_sorted {n : Nat} {zs : List Idn} {d : Array Idn} (hn : n = zs.length) (hp : PermIn 0 n zs.toArray d) (hs : SortedIn (ltOf idCmp) 0 n d) : d.size = n ∧ Flat d.toList ∧ d.toList.Perm zs := by
  obtain ⟨p1, -, p3⟩ := hp
  have hds : d.size = n := by rw [p1, hn]; simp
  have e1 : d.extract 0 n = d := by rw [← hds]; simp
  have e2 : (zs.toArray).extract 0 n = zs.toArray := by rw [hn]; simp
  rw [e1, e2] at p3
  refine ⟨hds, ?_, p3⟩
  refine List.pairwise_iff_getElem.2 fun i j hi hj hij => ?_
  have hi' : i < d.size := by simpa using hi
  have hj' : j < d.size := by simpa using hj
  have := hs i j (Nat.zero_le _) hij (by omega)
  rw [ltOf_id, getElem!_pos d i hi', getElem!_pos d j hj'] at this
  simpa using this
theorem row_of_hold {w : World} {g cap : Nat} {d : Array Idn} (h : HoldsK ids 2 w g 0 d) (hlt : g < w.heap.size) (hc : d.size ≤ cap) (hm : cap ≤ 9223372036854775807) : RowAt w (.slice (some ⟨g, 0, none⟩) d.size cap) d.toList := by
  refine ⟨some ⟨g, 0, none⟩, cap, by simp, by simpa using hc, hm, (fun e => by cases e), fun _ => ⟨g, 0, rfl, hlt, fun j hj => ?_⟩⟩
  have hj' : j < d.size := by simpa using hj
  have h0 := HoldsK.cell h (i := j) (c := 0) hj' (by omega)
  have h1 := HoldsK.cell h (i := j) (c := 1) hj' (by omega)
  rw [nth_arr]
  simp only [Nat.zero_add, Nat.add_zero] at h0 h1 ⊢
  exact ⟨h0.1, h1.1⟩
def Sorts (base : Nat) (v : Value) (zs : List Idn) (w : World) (e : Ending) (w' : World) : Prop := e = .returned (.tuple #[]) ∧ ∃ d : List Idn, Flat d ∧ d.Perm zs ∧ RowAt w' v d ∧ Go.RowKit.Below base w w'
theorem sort_own (base : Nat) (v : Value) (zs : List Idn) (w : World) (h : Owns w base v zs) (hl : zs.length ≤ 100000) : Calls Tryz.prog 55 #[v, .func (.func 56) #[] #[]] w (Sorts base v zs w) := by
  have eg : ∀ args w, (callFunc 56 args).run Tryz.prog w = .ok (.enter 56 args) w := enters_of Tryz.func56 (by kernel_rfl) rfl
  by_cases hz : zs = []
  · subst hz
    have hs : ∃ p cap, v = .slice p 0 cap := by obtain ⟨p, cap, e, _⟩ := h.row; exact ⟨p, cap, e⟩
    obtain ⟨p, cap, rfl⟩ := hs
    exact (AnyF.slices_SortFunc_none Tryz.sortId p cap _ w).mono fun e w' ⟨he, hw⟩ => ⟨he, [], .nil, .nil, by rw [hw]; exact h.row, by rw [hw]; exact Go.RowKit.Below.refl _ _⟩
  · obtain ⟨g, cp, rfl, hg0, hg, hcp, hcm, hh⟩ := Owns.hold h hz
    have hsz : zs.toArray.size = zs.length := by simp
    have hcon := AnyQ.slices_SortFunc Tryz.sortId 2 Tryz.isAgg32 Tryz.sizeOf32 ids (fun _ => rfl) (fun x v hv => by simp [ids] at hv; rcases hv with rfl | rfl <;> rfl) idCmp swo_id 56 #[] g 0 cp zs.toArray w eg (cmp_lays g 0 zs.toArray.size w) hh hg (by rw [hsz]; omega)
    rw [hsz] at hcon
    refine hcon.mono fun e w' ⟨he, d', m, os, hp, hs, hw⟩ => ?_
    obtain ⟨h1, h2, h3⟩ := flat_of_sorted rfl hp hs
    have hps : (putRowK ids 2 (Sort.ahead w m) g 0 d').heap.size = w.heap.size := by unfold putRowK; simp
    have k1 := holdsK_putRowK ids 2 (Sort.ahead w m) g 0 zs.toArray d' (holdsK_ahead ids 2 w m g 0 zs.toArray hh) (by rw [hsz]; exact h1)
    have k2 := holdsK_grow ids 2 _ os g 0 d' (by rw [hps]; exact hg) k1
    have hb2 : Go.RowKit.Below base w (putRowK ids 2 (Sort.ahead w m) g 0 d') := Lib.below_putRow (enc := id) (Go.RowKit.Below.refl _ _) hg0
    have hb3 := below_gr hb2 (by rw [hps]; omega) os
    subst hw
    have hr := row_of_hold (cap := cp) k2 (by
      show g < ((putRowK ids 2 (Sort.ahead w m) g 0 d').heap ++ os).size
      rw [Array.size_append, hps]; omega) (by omega) hcm
    rw [h1] at hr
    exact ⟨he, d'.toList, h2, h3, hr, hb3⟩
end Go.Proofs.YtomidcbpnaajeaaGreat.Ids

/- What the program's Has gives (layer 3, ident), by the library's search with a predicate. Condition: the list lies in memory as its cells say. -/
namespace Go.Proofs.YtomidcbpnaajeaaGreat.Ids
open Go.RowKit Go.Lib
set_option linter.unusedVariables false

theorem hasfn (a b : Int) (B : Nat) (w : World) (hB : B < w.heap.size) (h0 : w.cell? ⟨B, 0, none⟩ = some (.int .i64 a)) (h1 : w.cell? ⟨B, 1, none⟩ = some (.int .i64 b)) :
    PredBelow Tryz.prog 73 #[.pointer (some ⟨B, 0, none⟩)] (fun x : Idn => .agg (ids x).toArray) (fun x => decide (x = (a, b))) w := fun W x hb => by
  have c0 : W.cell? ⟨B, 0, none⟩ = some (.int .i64 a) := (hb.cell (p := ⟨B, 0, none⟩) hB).trans h0
  have c1 : W.cell? ⟨B, 1, none⟩ = some (.int .i64 b) := (hb.cell (p := ⟨B, 1, none⟩) hB).trans h1
  have hBW : B < W.heap.size := Nat.lt_of_lt_of_le hB hb.size
  have hne : B ≠ W.heap.size := by omega
  have HB := Lib.hid hb
  obtain ⟨x, y⟩ := x
  show Calls Tryz.prog 73 #[.agg #[.int .i64 x, .int .i64 y], .pointer (some ⟨B, 0, none⟩)] W _
  have hd : (x == a && y == b) = decide ((x, y) = (a, b)) := by
    rw [Bool.eq_iff_iff, Bool.and_eq_true, beq_iff_eq, beq_iff_eq, decide_eq_true_eq, Prod.mk.injEq]
  have hq : ∀ w, (binOp .eql 32 (.agg #[.int .i64 x, .int .i64 y]) (.agg #[.int .i64 a, .int .i64 b])).run Tryz.prog w = .ok (.bool (decide ((x, y) = (a, b)))) w := fun w => by rw [eql_id, hd]
  obtain ⟨r, hr⟩ : ∃ r, decide ((x, y) = (a, b)) = r := ⟨_, rfl⟩
  rw [hr] at hq
  have HR := Lib.hid hr
  clear hd h0 h1 hb hr
  go_enter Tryz.func73, Tryz.ntmps73
  go_wp2
  go_ret
  exact ⟨ret_bool HR.out.symm, HB.out.alloc HB.out.size _⟩

theorem index_none (p : Option Addr) (cap : Nat) (g : Value) (w : World) : Calls Tryz.prog 87 #[.slice p 0 cap, g] w fun e w' => e = .returned (.int .i64 (-1)) ∧ w = w' := by
  go_enter Tryz.func87, Tryz.ntmps87
  go_wp2
  go_loopw [8] (fun i wr => i = .int .i64 0 ∧ wr = w) (fun _ _ => 0)
  case atStart => exact ⟨rfl, rfl⟩
  case round =>
    obtain ⟨rfl, rfl⟩ := hrel
    go_wp2
    go_ret
    exact ⟨rfl, rfl⟩
theorem contains_none (p : Option Addr) (cap : Nat) (g : Value) (w : World) : Calls Tryz.prog 72 #[.slice p 0 cap, g] w fun e w' => e = .returned (.bool false) ∧ w = w' := by
  go_enter Tryz.func72, Tryz.ntmps72
  go_wp2_with (go_at_call 87; refine (index_none _ _ _ _).mono ?_; rintro e w' ⟨rfl, rfl⟩)
  go_ret
  exact ⟨rfl, rfl⟩

set_option maxHeartbeats 1000000 in
theorem has_any (v : Value) (zs : List Idn) (a b : Int) (w : World) (h : RowAt w v zs) : Calls Tryz.prog 51 #[v, .agg #[.int .i64 a, .int .i64 b]] w fun e w' => e = .returned (.bool (decide ((a, b) ∈ zs))) ∧ Below w.heap.size w w' := by
  obtain ⟨p, cap, rfl, h1, h2, -, h3⟩ := h
  by_cases hz : zs = []
  · subst hz
    clear h3
    go_enter Tryz.func51, Tryz.ntmps51
    go_wp2_with (go_at_call 72; refine (contains_none _ _ _ _).mono ?_; rintro e w' ⟨rfl, rfl⟩)
    go_ret
    exact ⟨rfl, below_one _ _⟩
  · obtain ⟨B, off, rfl, hlt, hc⟩ := h3 hz
    have hbx := Boxed.start w a b
    have eg : ∀ args w, (callFunc 73 args).run Tryz.prog w = .ok (.enter 73 args) w := enters_of Tryz.func73 (by kernel_rfl) rfl
    have hcon := AnyQ.slices_ContainsFunc Tryz.hasId 2 Tryz.isAgg32 Tryz.sizeOf32 ids (fun _ => rfl) (fun x : Idn => decide (x = (a, b))) 73 #[.pointer (some ⟨w.heap.size, 0, none⟩)] eg B off zs.length cap zs (w.alloc (cells a b))
      (hasfn a b w.heap.size _ hbx.lt hbx.fst hbx.snd) (Nat.le_refl _) (by omega) (Nat.lt_trans hlt hbx.lt) (fun j hj i u hi => by
        have hj2 := hc j hj
        rw [← nth_bang] at hj2
        refine Lib.cell?_alloc_some _ ?_
        generalize zs[j]! = y at hi hj2
        match i, hi with
        | 0, hi => simp [ids] at hi; rw [← hi]; exact hj2.1
        | 1, hi => simp [ids] at hi; rw [← hi]; exact hj2.2
        | i + 2, hi => simp [ids] at hi)
    change Calls Tryz.prog 72 _ _ _ at hcon
    have hr : ((zs.take zs.length).any fun x => decide (x = (a, b))) = decide ((a, b) ∈ zs) := by
      rw [List.take_length, Bool.eq_iff_iff, List.any_eq_true, decide_eq_true_eq]
      exact ⟨fun ⟨x, hx, e⟩ => by rw [decide_eq_true_eq] at e; exact e ▸ hx, fun hm => ⟨_, hm, decide_eq_true rfl⟩⟩
    rw [hr] at hcon
    have hcon := Lib.hid hcon
    obtain ⟨r, hr2⟩ : ∃ r, decide ((a, b) ∈ zs) = r := ⟨_, rfl⟩
    rw [hr2] at hcon ⊢
    obtain ⟨n, hn⟩ : ∃ n, zs.length = n := ⟨_, rfl⟩
    rw [hn] at hcon h1 ⊢
    clear hr hc hbx h3 hz eg hr2
    go_enter Tryz.func51, Tryz.ntmps51
    go_wp2_with (go_at_call 72; refine hcon.out.mono ?_; rintro e w' ⟨rfl, hb⟩; have HB := Lib.hid hb; clear hb)
    go_ret
    exact ⟨rfl, (below_one w (cells a b)).trans (HB.out.mono (by simp))⟩
end Go.Proofs.YtomidcbpnaajeaaGreat.Ids

/- What slices.Compact gives at ids (layer 3, ident): one of each run, ahead in the same row; nothing under the row turns. Condition: the row lies in memory and may be written. -/
namespace Go.Proofs.YtomidcbpnaajeaaGreat.Ids
open Go.RowKit Go.Lib
set_option linter.unusedVariables false

/-- A row that may be written. -/
structure RowM (w : World) (g : Nat) (d : Array Idn) : Prop where
  lt : g < w.heap.size
  fst : ∀ j, j < d.size → w.cell? ⟨g, j * 2, none⟩ = some (.int .i64 d[j]!.1)
  snd : ∀ j, j < d.size → w.cell? ⟨g, j * 2 + 1, none⟩ = some (.int .i64 d[j]!.2)
  fr0 : ∀ j, j < d.size → w.frozen? ⟨g, j * 2, none⟩ = false
  fr1 : ∀ j, j < d.size → w.frozen? ⟨g, j * 2 + 1, none⟩ = false
theorem RowM.drawn {w : World} {g : Nat} {d : Array Idn} (h : RowM w g d) (n : Nat) : RowM (w.drewN n) g d := ⟨h.lt, h.fst, h.snd, h.fr0, h.fr1⟩
theorem size_setCell (w : World) (a : Addr) (v : Value) : (w.setCell a v).heap.size = w.heap.size := by simp [World.setCell]
theorem bang_set (d : Array Idn) (k : Nat) (x : Idn) (hk : k < d.size) (j : Nat) (hj : j < d.size) : (d.setIfInBounds k x)[j]! = if j = k then x else d[j]! := by
  by_cases e : j = k
  · subst e; rw [if_pos rfl, Go.Sort.getElem!_set_same d j x hk]
  · rw [if_neg e, Go.Sort.getElem!_set_other d k j x e]
def put2 (w : World) (g k : Nat) (x y : Int) : World := (w.setCell ⟨g, k * 2, none⟩ (.int .i64 x)).setCell ⟨g, k * 2 + 1, none⟩ (.int .i64 y)
theorem RowM.set {w : World} {g : Nat} {d : Array Idn} (h : RowM w g d) {k : Nat} (hk : k < d.size) (x y : Int) : RowM (put2 w g k x y) g (d.setIfInBounds k (x, y)) := by
  have hs : (d.setIfInBounds k (x, y)).size = d.size := by simp
  refine ⟨by unfold put2; rw [size_setCell, size_setCell]; exact h.lt, ?_, ?_, ?_, ?_⟩
  · intro j hj
    rw [hs] at hj
    rw [bang_set d k _ hk j hj]
    unfold put2
    rw [World.cell?_setCell_other _ _ _ _ (by intro e; injection e with _ e _; omega)]
    by_cases e : j = k
    · subst e
      rw [World.cell?_setCell_same _ _ _ (h.fst j hj), if_pos rfl]
    · rw [World.cell?_setCell_other _ _ _ _ (by intro e; injection e with _ e _; omega), if_neg e]; exact h.fst j hj
  · intro j hj
    rw [hs] at hj
    rw [bang_set d k _ hk j hj]
    unfold put2
    by_cases e : j = k
    · subst e
      rw [World.cell?_setCell_same _ _ _ (show (w.setCell ⟨g, j * 2, none⟩ (.int .i64 x)).cell? ⟨g, j * 2 + 1, none⟩ = some (.int .i64 d[j]!.2) by
        rw [World.cell?_setCell_other _ _ _ _ (by intro e; injection e with _ e _; omega)]; exact h.snd j hj), if_pos rfl]
    · rw [World.cell?_setCell_other _ _ _ _ (by intro e; injection e with _ e _; omega), World.cell?_setCell_other _ _ _ _ (by intro e; injection e with _ e _; omega), if_neg e]; exact h.snd j hj
  · intro j hj; rw [hs] at hj; unfold put2; rw [World.frozen?_setCell, World.frozen?_setCell]; exact h.fr0 j hj
  · intro j hj; rw [hs] at hj; unfold put2; rw [World.frozen?_setCell, World.frozen?_setCell]; exact h.fr1 j hj
theorem below_put2 {B : Nat} {a w : World} (h : Below B a w) {g : Nat} (hg : B ≤ g) (k : Nat) (x y : Int) : Below B a (put2 w g k x y) := (h.setCell (p := ⟨g, k * 2, none⟩) hg _).setCell (p := ⟨g, k * 2 + 1, none⟩) hg _

/-! ### clear -/
def zeros (n : Nat) : List Value := List.replicate (n * 2) (.int .i64 0)
theorem zero_id (w : World) : (zeroValue 32).run Tryz.prog w = .ok (.agg #[.int .i64 0, .int .i64 0]) w := by go_simp
theorem run_clear_ids (w : World) (ty : TypeId) (g o n c : Nat) (hn : 0 < n) (hc : ∀ j, j < n * 2 → (w.cell? ⟨g, o + j, none⟩).isSome = true) (hf : ∀ j, j < n * 2 → w.frozen? ⟨g, o + j, none⟩ = false) :
    (Builtin.clear_ #[23] ty #[.slice (some ⟨g, o, none⟩) n c]).run Tryz.prog w = .ok (.tuple #[]) (w.setCells g o (zeros n)) := by
  have hzc : (Builtin.zeroCells (Value.agg #[.int .i64 0, .int .i64 0]).cells n).toList = zeros n := by
    unfold zeros
    apply List.ext_getElem
    · simp [Builtin.zeroCells, Value.cells]
    · intro i h1 h2
      rcases Nat.mod_two_eq_zero_or_one i with h | h <;> simp [Builtin.zeroCells, Value.cells, h]
  have hst := run_storeCells_cells (P := Tryz.prog) g o (zeros n) 0 w (by simpa [zeros] using hc) (by simpa [zeros] using hf) (by intro v hv'; rw [List.eq_of_mem_replicate hv']; rfl)
  simp only [Nat.add_zero] at hst
  obtain ⟨m, rfl⟩ : ∃ m, n = m + 1 := ⟨n - 1, by omega⟩
  simp [Builtin.clear_, run_underlying Tryz.underlying23, hzc, hst]
theorem below_setCells {B : Nat} {g : Nat} (hg : B ≤ g) : ∀ (vs : List Value) (o : Nat) {a w : World}, Below B a w → Below B a (w.setCells g o vs)
  | [], _, _, _, h => h
  | v :: vs, o, a, w, h => below_setCells hg vs (o + 1) (h.setCell (p := ⟨g, o, none⟩) hg v)

/-! ### What Compact keeps -/
theorem cup_mem (d : Array Idn) : ∀ (n j : Nat), j < n → d[j]! ∈ compactUpTo d n
  | n, 0, h => by
    unfold compactUpTo
    rw [List.mem_map]
    exact ⟨0, List.mem_filter.2 ⟨List.mem_range.2 h, keeps_lt_one d 0 (by omega)⟩, rfl⟩
  | n, j + 1, h => by
    by_cases e : d[j + 1]! = d[j]!
    · rw [e]; exact cup_mem d n j (by omega)
    · unfold compactUpTo
      rw [List.mem_map]
      exact ⟨j + 1, List.mem_filter.2 ⟨List.mem_range.2 h, keeps_pos e⟩, rfl⟩
theorem cup_sub (d : Array Idn) (n : Nat) (x : Idn) (h : x ∈ compactUpTo d n) : ∃ j, j < n ∧ d[j]! = x := by
  unfold compactUpTo at h
  rw [List.mem_map] at h
  obtain ⟨j, hj, e⟩ := h
  exact ⟨j, List.mem_range.1 (List.mem_filter.1 hj).1, e⟩
theorem cup_rise (d : Array Idn) (n : Nat) (h : ∀ i j, i < j → j < n → idLt d[j]! d[i]! = false) : Rise (compactUpTo d n) := by
  unfold compactUpTo Rise
  rw [List.pairwise_map, List.pairwise_filter]
  refine List.Pairwise.imp_of_mem ?_ List.pairwise_lt_range
  intro i j hi hj hij _ hk
  have hjn := List.mem_range.1 hj
  unfold keeps at hk
  rw [decide_eq_true_eq] at hk
  have hne : d[j]! ≠ d[j - 1]! := hk.resolve_left (by omega)
  have h1 : idLt d[j - 1]! d[j]! = true := by
    cases hx : idLt d[j - 1]! d[j]! with
    | true => rfl
    | false => exact absurd (lt_tot hx (h (j - 1) j (by omega) hjn)).symm hne
  by_cases e : i = j - 1
  · rw [e]; exact h1
  · have h2 := h i (j - 1) (by omega) (by omega)
    cases hx : idLt d[i]! d[j]! with
    | true => rfl
    | false =>
      have e2 := lt_tot hx (h i j hij hjn)
      rw [e2] at h2
      rw [h2] at h1; cases h1

theorem cup_all {d : Array Idn} {n : Nat} (hn : n = d.size) (h : ∀ j, j < n → keeps d j = true) : compactUpTo d n = d.toList := by
  subst hn; rw [compactUpTo_all d _ h, range_map_get]
theorem RowM.row {w : World} {g : Nat} {d : Array Idn} (h : RowM w g d) : Row2 w g 0 d.toList :=
  ⟨h.lt, fun j hj => by rw [Nat.zero_add, nth_arr]; exact h.fst j (by simpa using hj), fun j hj => by rw [Nat.zero_add, nth_arr]; exact h.snd j (by simpa using hj)⟩
theorem cut_row {w : World} {g n : Nat} {d dk : Array Idn} {k : Nat} (h : RowM w g dk) (hI : CompInv d n k dk) (hn : n = d.size) (hk : k < n) : Row2 (w.setCells g (k * 2) (zeros (n - k))) g 0 (compactUpTo d n) := by
  have hs := hI.size
  have hg : ∀ j, j < k → nth (compactUpTo d n) j = dk[j]! := fun j hj => by
    have := hI.low j hj
    unfold nth
    rw [List.getD_eq_getElem?_getD, this]; rfl
  have e : ∀ (l : List Value) (o : Nat) (w : World), (w.setCells g o l).heap.size = w.heap.size := by
    intro l
    induction l with
    | nil => intro o w; rfl
    | cons v l ih => intro o w; rw [World.setCells, ih, size_setCell]
  refine ⟨by rw [e]; exact h.lt, ?_, ?_⟩
  · intro j hj
    rw [hI.len] at hj
    rw [Nat.zero_add, World.cell?_setCells_out g _ _ _ _ (fun _ _ => Or.inl (show j * 2 < k * 2 by omega)), hg j hj]
    exact h.fst j (by omega)
  · intro j hj
    rw [hI.len] at hj
    rw [Nat.zero_add, World.cell?_setCells_out g _ _ _ _ (fun _ _ => Or.inl (show j * 2 + 1 < k * 2 by omega)), hg j hj]
    exact h.snd j (by omega)

theorem cut_rowM {w : World} {g n : Nat} {d dk : Array Idn} {k : Nat} (h : RowM w g dk) (hI : CompInv d n k dk) (hn : n = d.size) (hk : k < n) : RowM (w.setCells g (k * 2) (zeros (n - k))) g (compactUpTo d n).toArray := by
  have h2 := cut_row h hI hn hk
  have hs := hI.size
  have hl := hI.len
  have e : ∀ j, (compactUpTo d n).toArray[j]! = nth (compactUpTo d n) j := fun j => by
    have := nth_arr (compactUpTo d n).toArray j
    rw [← this]
  refine ⟨h2.lt, fun j hj => ?_, fun j hj => ?_, fun j hj => ?_, fun j hj => ?_⟩
  · rw [e]
    have := h2.fst j (by simpa using hj)
    rwa [Nat.zero_add] at this
  · rw [e]
    have := h2.snd j (by simpa using hj)
    rwa [Nat.zero_add] at this
  · rw [World.frozen?_setCells]
    exact h.fr0 j (by have : j < (compactUpTo d n).length := by simpa using hj
                      omega)
  · rw [World.frozen?_setCells]
    exact h.fr1 j (by have : j < (compactUpTo d n).length := by simpa using hj
                      omega)
/-- A block's kind and size stay. -/
def Shp (g : Nat) (w w' : World) : Prop := ∀ cur t, w.heap[g]? = some (.cells cur t (0, 0)) → ∃ cur', w'.heap[g]? = some (.cells cur' t (0, 0)) ∧ cur'.size = cur.size
theorem Shp.set {g : Nat} {a w : World} (h : Shp g a w) (j : Nat) (v : Value) : Shp g a (w.setCell ⟨g, j, none⟩ v) := fun cur t hb => by
  obtain ⟨c, h1, h2⟩ := h cur t hb
  exact ⟨_, heap_setCell_same _ _ _ _ _ _ h1, by simp [h2]⟩
/-- Nothing under a row turns; the row's block is as long as it was. -/
structure BelowS (g : Nat) (a w : World) : Prop where
  b : Below g a w
  s : Shp g a w
theorem BelowS.refl (g : Nat) (w : World) : BelowS g w w := ⟨Below.refl _ _, fun cur t h => ⟨cur, h, rfl⟩⟩
theorem BelowS.drN {g : Nat} {a w : World} (h : BelowS g a w) (n : Nat) : BelowS g a (w.drewN n) := ⟨below_drN h.b _, h.s⟩
theorem BelowS.set {g : Nat} {a w : World} (h : BelowS g a w) (j : Nat) (v : Value) : BelowS g a (w.setCell ⟨g, j, none⟩ v) := ⟨h.b.setCell (p := ⟨g, j, none⟩) (Nat.le_refl _) v, h.s.set j v⟩
theorem BelowS.put2 {g : Nat} {a w : World} (h : BelowS g a w) (k : Nat) (x y : Int) : BelowS g a (Ids.put2 w g k x y) := (h.set _ _).set _ _
theorem BelowS.setCells {g : Nat} : ∀ (vs : List Value) (o : Nat) {a w : World}, BelowS g a w → BelowS g a (w.setCells g o vs)
  | [], _, _, _, h => h
  | v :: vs, o, a, w, h => BelowS.setCells vs (o + 1) (h.set o v)
set_option maxHeartbeats 4000000 in
set_option maxRecDepth 100000 in
theorem compactS_any (d : Array Idn) (n g cap : Nat) (w : World) (hd : n = d.size) (h : RowM w g d) (hn : n ≤ cap) (hc : cap ≤ 9223372036854775807) :
    Calls Tryz.prog 57 #[.slice (some ⟨g, 0, none⟩) n cap] w fun e w' => e = .returned (.slice (some ⟨g, 0, none⟩) (compactUpTo d n).length cap) ∧ (RowM w' g (compactUpTo d n).toArray ∧ BelowS g w w') := by
  have HD := Lib.hid hd
  have HH := Lib.hid h
  have full : (∀ j, j < n → keeps d j = true) → ∀ w', RowM w' g d → (compactUpTo d n).length = n ∧ RowM w' g (compactUpTo d n).toArray := fun ha w' hw => by
    rw [cup_all hd ha]
    exact ⟨by rw [hd]; simp, by rw [Array.toArray_toList]; exact hw⟩
  have HF := Lib.hid full
  clear full h hd
  by_cases h2 : n < 2
  · have h3 : (n : Int) < 2 := by omega
    obtain ⟨q, hq⟩ : ∃ q, compactUpTo d n = q := ⟨_, rfl⟩
    have HQ := Lib.hid hq
    rw [hq]
    clear hq
    go_enter Tryz.func57, Tryz.ntmps57
    go_wp2
    go_ret
    have hf := HF.out (fun j hj => keeps_lt_one d j (by omega)) w HH.out
    rw [HQ.out] at hf
    exact ⟨by rw [hf.1]; rfl, hf.2, BelowS.refl _ _⟩
  · have h3 : ¬ (n : Int) < 2 := by omega
    obtain ⟨q, hq⟩ : ∃ q, compactUpTo d n = q := ⟨_, rfl⟩
    have HQ := Lib.hid hq
    rw [hq]
    clear hq
    go_enter Tryz.func57, Tryz.ntmps57
    go_wp2
    go_loopw [3] (fun i wr => ∃ k : Nat, k + 1 ≤ n ∧ i = .int .i64 ((k : Int) + 1) ∧ Hid (RowM wr g d) ∧ Hid (BelowS g w wr) ∧ Hid (∀ j, j < k + 1 → keeps d j = true)) (fun i _ => n - (intOf i).toNat)
    case atStart => exact ⟨0, by omega, rfl, HH, Lib.hid (BelowS.refl _ _), Lib.hid (keeps_lt_one d)⟩
    case round =>
      obtain ⟨k, hk, rfl, hrow, hbw, hall⟩ := hrel
      by_cases hkn : k + 1 < n
      · have c1 := hrow.out.fst k (by rw [← HD.out]; omega)
        have c2 := hrow.out.snd k (by rw [← HD.out]; omega)
        have c3 := hrow.out.fst (k + 1) (by rw [← HD.out]; omega)
        have c4 := hrow.out.snd (k + 1) (by rw [← HD.out]; omega)
        have k0 : (0 : Int) ≤ k := by omega
        have kn : (k : Int) + 1 < n := by omega
        have kn' : (k : Int) < n := by omega
        have k1 : (0 : Int) ≤ (k : Int) + 1 := by omega
        have kw : IntKind.i64.wrap ((k : Int) + 1 - 1) = k := by rw [Int.add_sub_cancel]; exact IntWalk.i64_in _ (by omega)
        have kw2 : IntKind.i64.wrap (k : Int) = k := IntWalk.i64_in _ (by omega)
        have kt : ((k : Int) + 1).toNat = k + 1 := by omega
        obtain ⟨x, y, hxy⟩ : ∃ x y, d[k]! = (x, y) := ⟨_, _, rfl⟩
        obtain ⟨x', y', hxy'⟩ : ∃ x y, d[k + 1]! = (x, y) := ⟨_, _, rfl⟩
        rw [hxy] at c1 c2
        rw [hxy'] at c3 c4
        by_cases he : (x', y') = (x, y)
        · have h3 : (x' == x && y' == y) = true := by
            rw [Prod.mk.injEq] at he; rw [he.1, he.2]; simp
          have HX : Hid (keeps d (k + 1) = false) := Lib.hid (keeps_neg (by omega) (by rw [hxy', Nat.add_sub_cancel, hxy]; exact he))
          have hq : ∀ w, (binOp .eql 32 (.agg #[.int .i64 x', .int .i64 y']) (.agg #[.int .i64 x, .int .i64 y])).run Tryz.prog w = .ok (.bool true) w := fun w => by rw [eql_id, h3]
          clear he hxy hxy' h3
          go_wp2
          go_quiet (fail)
          go_wp2
          clear c1 c2 c3 c4 hq kw kw2 kt
          go_loopw [3, 5] (fun i i2 wr => ∃ (kk k2 : Nat) (dk : Array Idn), i = .int .i64 kk ∧ i2 = .int .i64 ((k2 : Int) + 1) ∧ k + 1 + (k2 + 1) ≤ n ∧ kk < k + 1 + (k2 + 1) ∧ Hid (RowM wr g dk) ∧ Hid (CompInv d (k + 1 + (k2 + 1)) kk dk) ∧ Hid (BelowS g w wr)) (fun _ i2 _ => n - (intOf i2).toNat)
          case atStart => exact ⟨k + 1, 0, d, rfl, rfl, by omega, by omega, Lib.hid (hrow.out.drawn _), Lib.hid (CompInv.start hall.out HX.out), Lib.hid (hbw.out.drN _)⟩
          case round =>
            clear hrow hbw
            obtain ⟨kk, k2, dk, rfl, rfl, hle, hkk, hrow, hI, hbw⟩ := hrel
            have hds : dk.size = n := by rw [hI.out.size, ← HD.out]
            have z0 : (0 : Int) ≤ k2 := by omega
            have z1 : (0 : Int) ≤ (k2 : Int) + 1 := by omega
            have z2 : (0 : Int) ≤ kk := by omega
            have z3 : (kk : Int) < n := by omega
            have zw : IntKind.i64.wrap ((k2 : Int) + 1 - 1) = k2 := by rw [Int.add_sub_cancel]; exact IntWalk.i64_in _ (by omega)
            have zw2 : IntKind.i64.wrap (k2 : Int) = k2 := IntWalk.i64_in _ (by omega)
            have zt : ((k2 : Int) + 1).toNat = k2 + 1 := by omega
            by_cases hlt : k + 1 + (k2 + 1) < n
            · have b1 : (k2 : Int) + 1 < ((n - (k + 1) : Nat) : Int) := by omega
              have b2 : (k2 : Int) < ((n - (k + 1) : Nat) : Int) := by omega
              have c1 := hrow.out.fst (k + 1 + k2) (by omega)
              have c2 := hrow.out.snd (k + 1 + k2) (by omega)
              have c3 := hrow.out.fst (k + 1 + (k2 + 1)) (by omega)
              have c4 := hrow.out.snd (k + 1 + (k2 + 1)) (by omega)
              have c5 := hrow.out.fst kk (by omega)
              have c6 := hrow.out.snd kk (by omega)
              have f5 := hrow.out.fr0 kk (by omega)
              have f6 := hrow.out.fr1 kk (by omega)
              rw [hI.out.high _ (by omega)] at c1 c2 c3 c4
              rw [show (k + 1 + k2) * 2 = (k + 1) * 2 + k2 * 2 by omega] at c1 c2
              rw [show (k + 1 + (k2 + 1)) * 2 = (k + 1) * 2 + (k2 + 1) * 2 by omega] at c3 c4
              obtain ⟨x, y, hxy⟩ : ∃ x y, d[k + 1 + k2]! = (x, y) := ⟨_, _, rfl⟩
              obtain ⟨x', y', hxy'⟩ : ∃ x y, d[k + 1 + (k2 + 1)]! = (x, y) := ⟨_, _, rfl⟩
              obtain ⟨o1, ho1⟩ : ∃ o, dk[kk]!.1 = o := ⟨_, rfl⟩
              obtain ⟨o2, ho2⟩ : ∃ o, dk[kk]!.2 = o := ⟨_, rfl⟩
              rw [hxy] at c1 c2
              rw [hxy'] at c3 c4
              rw [ho1] at c5
              rw [ho2] at c6
              have hx2 : d[k + 1 + (k2 + 1) - 1]! = (x, y) := by rw [show k + 1 + (k2 + 1) - 1 = k + 1 + k2 by omega]; exact hxy
              by_cases he : (x', y') = (x, y)
              · have h3 : (x' == x && y' == y) = true := by
                  rw [Prod.mk.injEq] at he; rw [he.1, he.2]; simp
                have HY : Hid (keeps d (k + 1 + (k2 + 1)) = false) := Lib.hid (keeps_neg (by omega) (by rw [hxy', hx2]; exact he))
                have hq : ∀ w, (binOp .neq 32 (.agg #[.int .i64 x', .int .i64 y']) (.agg #[.int .i64 x, .int .i64 y])).run Tryz.prog w = .ok (.bool false) w := fun w => by rw [neq_id, h3]; rfl
                clear he hxy hxy' h3 hx2 c5 c6 f5 f6 ho1 ho2 hds
                go_wp2
                go_quiet (fail)
                go_wp2
                go_roundw
                case rel => exact ⟨kk, k2 + 1, dk, rfl, by go_num, by omega, by omega, Lib.hid (hrow.out.drawn _), Lib.hid (hI.out.skip HY.out), Lib.hid (hbw.out.drN _)⟩
                case measure => simp [intOf]; omega
              · have h3 : (x' == x && y' == y) = false := by
                  rw [Bool.eq_false_iff]; intro h; rw [Bool.and_eq_true, beq_iff_eq, beq_iff_eq] at h; exact he (by rw [h.1, h.2])
                have HY : Hid (keeps d (k + 1 + (k2 + 1)) = true) := Lib.hid (keeps_pos (by rw [hxy', hx2]; exact he))
                have hq : ∀ w, (binOp .neq 32 (.agg #[.int .i64 x', .int .i64 y']) (.agg #[.int .i64 x, .int .i64 y])).run Tryz.prog w = .ok (.bool true) w := fun w => by rw [neq_id, h3]; rfl
                have HXY := Lib.hid hxy'
                have HS := Lib.hid hds
                clear he hxy hxy' h3 hx2 ho1 ho2 hds
                go_wp2
                go_quiet (fail)
                go_wp2
                go_roundw
                case rel => exact ⟨kk + 1, k2 + 1, dk.setIfInBounds kk (x', y'), by go_num, by go_num, by omega, by omega, Lib.hid ((hrow.out.drawn _).set (by rw [HS.out]; omega) x' y'), Lib.hid (by have := hI.out.keep (by rw [← HD.out]; exact hlt) HY.out; rwa [HXY.out] at this), Lib.hid ((hbw.out.drN _).put2 _ _ _)⟩
                case measure => simp [intOf]; omega
            · have hend : k + 1 + (k2 + 1) = n := by omega
              have b1 : ¬ (k2 : Int) + 1 < ((n - (k + 1) : Nat) : Int) := by omega
              have hI2 := hI.out
              rw [hend] at hI2 hkk
              have HR := Lib.hid (cut_rowM hrow.out hI2 HD.out hkk)
              have HL := Lib.hid hI2.len
              have hcl : ∀ ty, (Builtin.clear_ #[23] ty #[.slice (some ⟨g, kk * 2, none⟩) (n - kk) (cap - kk)]).run Tryz.prog wr = .ok (.tuple #[]) (wr.setCells g (kk * 2) (zeros (n - kk))) := fun ty =>
                run_clear_ids wr ty g (kk * 2) (n - kk) (cap - kk) (by omega) (fun j hj => by
                  rcases Nat.mod_two_eq_zero_or_one j with h | h
                  · rw [show kk * 2 + j = (kk + j / 2) * 2 by omega, hrow.out.fst _ (by omega)]; rfl
                  · rw [show kk * 2 + j = (kk + j / 2) * 2 + 1 by omega, hrow.out.snd _ (by omega)]; rfl) (fun j hj => by
                  rcases Nat.mod_two_eq_zero_or_one j with h | h
                  · rw [show kk * 2 + j = (kk + j / 2) * 2 by omega]; exact hrow.out.fr0 _ (by omega)
                  · rw [show kk * 2 + j = (kk + j / 2) * 2 + 1 by omega]; exact hrow.out.fr1 _ (by omega))
              clear hI hI2 hds hrow
              go_wp2
              go_ret
              have hr := HR.out
              have hl := HL.out
              rw [HQ.out] at hr hl
              exact ⟨by rw [hl]; rfl, hr, BelowS.setCells _ _ hbw.out⟩
        · have h3 : (x' == x && y' == y) = false := by
            rw [Bool.eq_false_iff]; intro h; rw [Bool.and_eq_true, beq_iff_eq, beq_iff_eq] at h; exact he (by rw [h.1, h.2])
          have HX : Hid (keeps d (k + 1) = true) := Lib.hid (keeps_pos (by rw [hxy', Nat.add_sub_cancel, hxy]; exact he))
          have hq : ∀ w, (binOp .eql 32 (.agg #[.int .i64 x', .int .i64 y']) (.agg #[.int .i64 x, .int .i64 y])).run Tryz.prog w = .ok (.bool false) w := fun w => by rw [eql_id, h3]
          clear he hxy hxy' h3
          go_wp2
          go_quiet (fail)
          go_wp2
          go_roundw
          case rel => exact ⟨k + 1, by omega, by go_num, Lib.hid (hrow.out.drawn _), Lib.hid (hbw.out.drN _), Lib.hid fun j hj => by
            by_cases e : j = k + 1
            · rw [e]; exact HX.out
            · exact hall.out j (by omega)⟩
          case measure => simp [intOf]; omega
      · have kn : ¬ (k : Int) + 1 < n := by omega
        go_wp2
        go_ret
        have hf := HF.out (fun j hj => hall.out j (by omega)) wr hrow.out
        rw [HQ.out] at hf
        exact ⟨by rw [hf.1]; rfl, hf.2, hbw.out⟩
theorem compactM_any (d : Array Idn) (n g cap : Nat) (w : World) (hd : n = d.size) (h : RowM w g d) (hn : n ≤ cap) (hc : cap ≤ 9223372036854775807) :
    Calls Tryz.prog 57 #[.slice (some ⟨g, 0, none⟩) n cap] w fun e w' => e = .returned (.slice (some ⟨g, 0, none⟩) (compactUpTo d n).length cap) ∧ (RowM w' g (compactUpTo d n).toArray ∧ Below g w w') :=
  (compactS_any d n g cap w hd h hn hc).mono fun e w' ⟨h1, h2, h3⟩ => ⟨h1, h2, h3.b⟩
theorem compact_any (d : Array Idn) (n g cap : Nat) (w : World) (hd : n = d.size) (h : RowM w g d) (hn : n ≤ cap) (hc : cap ≤ 9223372036854775807) :
    Calls Tryz.prog 57 #[.slice (some ⟨g, 0, none⟩) n cap] w fun e w' => e = .returned (.slice (some ⟨g, 0, none⟩) (compactUpTo d n).length cap) ∧ (Row2 w' g 0 (compactUpTo d n) ∧ Below g w w') :=
  (compactM_any d n g cap w hd h hn hc).mono fun e w' ⟨h1, h2, h3⟩ => ⟨h1, h2.row, h3⟩
end Go.Proofs.YtomidcbpnaajeaaGreat.Ids

/- What the program's Sorted gives (layer 3, ident): the list in order, each id once, in memory of the call's own. Conditions: the list lies in memory as its cells say, and is not longer than 100000. -/
namespace Go.Proofs.YtomidcbpnaajeaaGreat.Ids
open Go.RowKit Go.Lib Go.Sort
set_option linter.unusedVariables false

theorem RowM.of_hold {w : World} {g : Nat} {d : Array Idn} (h : HoldsK ids 2 w g 0 d) (hlt : g < w.heap.size) : RowM w g d := by
  have h0 := fun j (hj : j < d.size) => HoldsK.cell h (i := j) (c := 0) hj (by omega)
  have h1 := fun j (hj : j < d.size) => HoldsK.cell h (i := j) (c := 1) hj (by omega)
  simp only [Nat.zero_add, Nat.add_zero] at h0 h1
  exact ⟨hlt, fun j hj => (h0 j hj).1, fun j hj => (h1 j hj).1, fun j hj => (h0 j hj).2, fun j hj => (h1 j hj).2⟩
theorem sorted_world {w : World} {B g m : Nat} {d0 d : Array Idn} {os : Array Obj} {a : World} (hb : Below B a w) (hB : B ≤ g) (hg : g < w.heap.size) (h0 : HoldsK ids 2 w g 0 d0) (hs : d.size = d0.size) :
    RowM (sortWorldK ids 2 w g 0 m d os) g d ∧ Below B a (sortWorldK ids 2 w g 0 m d os) := by
  have hsz : (putRowK ids 2 (Sort.ahead w m) g 0 d).heap.size = w.heap.size := by unfold putRowK; simp
  have h1 := holdsK_putRowK ids 2 (Sort.ahead w m) g 0 d0 d (holdsK_ahead ids 2 w m g 0 d0 h0) hs
  have h2 := holdsK_grow ids 2 _ os g 0 d (by rw [hsz]; exact hg) h1
  have hb2 : Below B a (putRowK ids 2 (Sort.ahead w m) g 0 d) := Lib.below_putRow (enc := id) hb hB
  refine ⟨RowM.of_hold h2 ?_, below_gr hb2 (by rw [hsz]; omega) os⟩
  have := (below_gr hb2 (by rw [hsz]; omega) os).size
  show g < ((putRowK ids 2 (Sort.ahead w m) g 0 d).heap ++ os).size
  rw [Array.size_append, hsz]; omega

theorem shp_sort {w : World} {g m : Nat} {d : Array Idn} {os : Array Obj} : Shp g w (sortWorldK ids 2 w g 0 m d os) := fun cur t hb => by
  have hg : g < w.heap.size := (Array.getElem?_eq_some_iff.1 hb).1
  refine ⟨putCells id 0 (flatK ids 2 d) cur, ?_, by simp [putCells]⟩
  unfold sortWorldK
  rw [Go.Sort.heap_grow_old _ _ (by unfold putRowK; simpa using hg)]
  simp [putRowK, putRow, mapBlock, Sort.ahead, Array.getElem?_modify, hb, onCells]
theorem owns_of {w : World} {base g cap : Nat} {cur : Array Value} {zs : List Idn} (hb : w.heap[g]? = some (.cells cur 32 (0, 0))) (hs : cur.size = cap * 2) (hr : RowM w g zs.toArray) (hg : base ≤ g) (hl : zs.length ≤ cap) (hm : cap ≤ maxLen) : Owns w base (.slice (some ⟨g, 0, none⟩) zs.length cap) zs := by
  refine ⟨by rw [flat_len], .inr ⟨g, cap, cur, rfl, hg, hb, hl, hm, hs, ?_⟩⟩
  have hc : ∀ j, w.cell? ⟨g, j, none⟩ = cur[j]? := fun j => by unfold World.cell?; rw [hb]; rfl
  refine List.ext_getElem? fun j => ?_
  by_cases hj : j < zs.length * 2
  · rw [List.getElem?_take_of_lt hj, Array.getElem?_toList, ← hc]
    have hq : j / 2 < zs.length := by omega
    have e : (zs.toArray)[j / 2]! = nth zs (j / 2) := by rw [← nth_arr]
    have h5 := flat_at zs _ hq
    rcases Nat.mod_two_eq_zero_or_one j with h2 | h2
    · have h1 := hr.fst (j / 2) (by simpa using hq)
      rw [show j / 2 * 2 = j by omega] at h1 h5
      rw [h1, h5.1, e]
    · have h1 := hr.snd (j / 2) (by simpa using hq)
      rw [show j / 2 * 2 + 1 = j by omega] at h1 h5
      rw [h1, h5.2, e]
  · rw [List.getElem?_take_eq_none (by omega), List.getElem?_eq_none (by rw [flat_len]; omega)]

theorem cup_srt {zs : List Idn} {d : Array Idn} {n : Nat} (hn : n = zs.length) (hp : PermIn 0 n zs.toArray d) (hs : SortedIn (ltOf idCmp) 0 n d) : d.size = n ∧ compactUpTo d n = srt zs := by
  obtain ⟨p1, -, p3⟩ := hp
  have hds : d.size = n := by rw [p1, hn]; simp
  refine ⟨hds, rise_eq (cup_rise d n fun i j hij hj => ?_) (srt_rise zs) fun x => ?_⟩
  · rw [← ltOf_id]; exact hs i j (Nat.zero_le _) hij hj
  · have e1 : d.extract 0 n = d := by rw [← hds]; simp
    have e2 : (zs.toArray).extract 0 n = zs.toArray := by rw [hn]; simp
    rw [e1, e2] at p3
    have hm : x ∈ d.toList ↔ x ∈ zs := p3.mem_iff
    rw [srt_mem, ← hm]
    constructor
    · intro h
      obtain ⟨j, hj, e⟩ := cup_sub d n x h
      rw [← e, getElem!_pos d j (by omega)]; simp
    · intro h
      obtain ⟨j, hj, e⟩ := List.getElem_of_mem h
      have hj' : j < d.size := by simpa using hj
      have := cup_mem d n j (by omega)
      rw [getElem!_pos d j hj'] at this
      rw [← e]; simpa using this

theorem compact_small (p : Option Addr) (cap : Nat) (w : World) : Calls Tryz.prog 57 #[.slice p 0 cap] w fun e w' => e = .returned (.slice p 0 cap) ∧ w = w' := by
  go_enter Tryz.func57, Tryz.ntmps57
  go_wp2
  go_ret
  exact ⟨rfl, rfl⟩

/-- A row of ids in new memory that may be written. -/
def RowW (w : World) (base : Nat) (v : Value) (zs : List Idn) : Prop := RowAt w v zs ∧ (zs ≠ [] → ∃ g cap, v = .slice (some ⟨g, 0, none⟩) zs.length cap ∧ base ≤ g ∧ zs.length ≤ cap ∧ cap ≤ 9223372036854775807 ∧ RowM w g zs.toArray)
def GivesM (zs : List Idn) (w : World) (e : Ending) (w' : World) : Prop := ∃ v, e = .returned v ∧ RowW w' w.heap.size v zs ∧ Below w.heap.size w w'
/-- .. told as a row of the call's own, too. -/
def GivesMO (zs : List Idn) (w : World) (e : Ending) (w' : World) : Prop := ∃ v, e = .returned v ∧ RowW w' w.heap.size v zs ∧ Owns w' w.heap.size v zs ∧ Below w.heap.size w w'
theorem RowW.nil (w : World) (base : Nat) {v : Value} (h : RowAt w v []) : RowW w base v [] := ⟨h, fun h => absurd rfl h⟩
set_option maxHeartbeats 1000000 in
theorem sortedO_any (v : Value) (zs : List Idn) (w : World) (h : RowAt w v zs) (hl : zs.length ≤ 100000) : Calls Tryz.prog 34 #[v] w (GivesMO (srt zs) w) := by
  have eg : ∀ args w, (callFunc 56 args).run Tryz.prog w = .ok (.enter 56 args) w := enters_of Tryz.func56 (by kernel_rfl) rfl
  obtain ⟨i0, hi, hz0, hz1, hz2⟩ := info_parts info_id
  obtain ⟨p, cap, rfl, h1, h2, -, h3⟩ := h
  have S0 : Hid (∀ w, Calls Tryz.prog 55 #[.slice none 0 0, .func (.func 56) #[] #[]] w fun e w' => e = .returned (.tuple #[]) ∧ w' = w) := Lib.hid fun w => AnyF.slices_SortFunc_none Tryz.sortId none 0 _ w
  by_cases hz : zs = []
  · subst hz
    clear h3 eg
    cases p with
    | none =>
      go_enter Tryz.func34, Tryz.ntmps34
      go_wp2_with (first
        | (go_at_call 55; refine (S0.out _).mono ?_; rintro e w' ⟨rfl, rfl⟩)
        | (go_at_call 57; refine (compact_small _ _ _).mono ?_; rintro e w' ⟨rfl, rfl⟩))
      go_ret
      exact ⟨_, rfl, RowW.nil _ _ (row_nil _), World.ownsRow_nil _ _ _ _, Below.refl _ _⟩
    | some ad =>
      go_enter Tryz.func34, Tryz.ntmps34
      go_wp2_with (first
        | (at_builtin; refine wpList_append_own _ rfl _ _ 23 rfl w.heap.size 32 i0 (.agg #[.int .i64 0, .int .i64 0]) 2 16 Tryz.underlying23 hi hz0 hz1 hz2 rfl (by decide) _ _ _ rfl (World.ownsRow_nil w w.heap.size 32 2) ad 0 cap [] rfl rfl (fun j u hu => by simp at hu) (fun u hu => by simp at hu) (by unfold maxLen; omega) (by omega) (Nat.le_refl _) ?_; intro v1 w1 hown1 hgrow1 hnil1; obtain rfl := hnil1.2 ⟨rfl, rfl⟩; have HB := Lib.hid (Below.grown (Below.refl w.heap.size w) hgrow1 (Nat.le_refl _) (fun k hk => by cases hk)); clear hown1 hgrow1 hnil1)
        | (go_at_call 55; refine (S0.out _).mono ?_; rintro e w' ⟨rfl, rfl⟩)
        | (go_at_call 57; refine (compact_small _ _ _).mono ?_; rintro e w' ⟨rfl, rfl⟩))
      go_ret
      exact ⟨_, rfl, RowW.nil _ _ (row_nil _), World.ownsRow_nil _ _ _ _, HB.out⟩
  · obtain ⟨B, off, rfl, hlt, hc⟩ := h3 hz
    obtain ⟨n, hn⟩ : ∃ n, n = zs.length := ⟨_, rfl⟩
    have hnews : ∀ j u, (flat zs)[j]? = some u → w.cell? ((⟨B, off, none⟩ : Addr).add j) = some u := fun j u hu => by
      have hj : j / 2 < zs.length := by
        have := (List.getElem?_eq_some_iff.1 hu).1
        rw [flat_len] at this; omega
      have h4 := hc _ hj
      have h5 := flat_at zs _ hj
      have ha : ((⟨B, off, none⟩ : Addr).add j) = ⟨B, off + j, none⟩ := Addr.add_lit _ _ _
      rw [ha]
      rcases Nat.mod_two_eq_zero_or_one j with h2 | h2
      · have e : j / 2 * 2 = j := by omega
        rw [e] at h4 h5
        rw [h5.1] at hu
        rw [h4.1, ← hu]
      · have e : j / 2 * 2 + 1 = j := by omega
        rw [Nat.add_assoc, e] at h4
        rw [e] at h5
        rw [h5.2] at hu
        rw [h4.2, ← hu]
    have hone : ∀ u ∈ flat zs, u.oneCell' = true := fun u hu => by
      unfold flat at hu
      rw [List.mem_flatMap] at hu
      obtain ⟨x, _, hx⟩ := hu
      simp [ids] at hx
      rcases hx with rfl | rfl <;> rfl
    have hfl : (flat zs).length = n * 2 := by rw [flat_len, hn]
    have SO : Hid (∀ (g cp : Nat) (w1 : World), HoldsK ids 2 w1 g 0 zs.toArray → g < w1.heap.size → Calls Tryz.prog 55 #[.slice (some ⟨g, 0, none⟩) n cp, .func (.func 56) #[] #[]] w1 fun e w' =>
        e = .returned (.tuple #[]) ∧ ∃ d' m os, (PermIn 0 n zs.toArray d' ∧ SortedIn (ltOf idCmp) 0 n d') ∧ w' = sortWorldK ids 2 w1 g 0 m d' os) := Lib.hid fun g cp w1 hh hg => by
      have hsz : zs.toArray.size = n := by simp [hn]
      have hcon := AnyQ.slices_SortFunc Tryz.sortId 2 Tryz.isAgg32 Tryz.sizeOf32 ids (fun _ => rfl) (fun x v hv => by simp [ids] at hv; rcases hv with rfl | rfl <;> rfl) idCmp swo_id 56 #[] g 0 cp zs.toArray w1 eg (cmp_lays g 0 zs.toArray.size w1) hh hg (by rw [hsz]; omega)
      rw [hsz] at hcon
      exact hcon.mono fun e w' ⟨he, d', m, os, hp, hs, hw⟩ => ⟨he, d', m, os, ⟨hp, hs⟩, hw⟩
    have HN := Lib.hid hn
    have HZ := Lib.hid hz
    have hl2 : n ≤ 100000 := by omega
    rw [← hn] at h1 ⊢
    clear hc h3 eg hz hn hl
    go_enter Tryz.func34, Tryz.ntmps34
    go_wp2_with (first
      | (at_builtin; refine wpList_append_own _ rfl _ _ 23 rfl w.heap.size 32 i0 (.agg #[.int .i64 0, .int .i64 0]) 2 16 Tryz.underlying23 hi hz0 hz1 hz2 rfl (by decide) _ _ _ rfl (World.ownsRow_nil w w.heap.size 32 2) ⟨B, off, none⟩ n cap (flat zs) rfl hfl hnews hone (by unfold maxLen; omega) (by omega) (Nat.le_refl _) ?_; intro v1 w1 hown1 hgrow1 hnil1; refine Hid.out ?_)
      | fail)
    have hb1 : Below w.heap.size w w1 := Below.grown (Below.refl w.heap.size w) hgrow1 (Nat.le_refl _) (fun k hk => by cases hk)
    have ho1 : Owns w1 w.heap.size v1 zs := by
      have : w1.ownsRow w.heap.size 32 2 v1 (0 + n) ([] ++ flat zs) := hown1
      rw [Nat.zero_add, List.nil_append, HN.out] at this
      exact this
    obtain ⟨g, cp, rfl, hg0, hg, hcp, hcm, hh⟩ := Owns.hold ho1 HZ.out
    have HCur : Hid (∃ cur, w1.heap[g]? = some (.cells cur 32 (0, 0)) ∧ cur.size = cp * 2 ∧ cp ≤ maxLen) := Lib.hid (by
      rcases ho1.2 with ⟨h, -⟩ | ⟨g', cap', cur, h, -, h5, -, h6, h7, -⟩
      · cases h
      · injection h with h1 h2 h3
        injection h1 with h1
        injection h1 with h1
        subst h1; subst h3
        exact ⟨cur, h5, h7, h6⟩)
    rw [← HN.out] at hcp ⊢
    have C1 := Lib.hid (SO.out g cp w1 hh hg)
    have H1 := Lib.hid hh
    have HB := Lib.hid hb1
    have HG := Lib.hid (And.intro hg0 hg)
    have HC := Lib.hid (And.intro hcp hcm)
    clear hown1 hgrow1 hnil1 hb1 ho1 hh hg0 hg hcp hcm hnews hone hfl SO S0
    refine Lib.hid ?_
    go_wp2_with (first
      | (go_at_call 55; refine C1.out.mono ?_; rintro e w2 ⟨rfl, d', m, os, hd, hw⟩; have HW := Lib.hid hw; clear hw; refine Hid.out ?_)
      | fail)
    have hu := cup_srt HN.out hd.1 hd.2
    have hsz : d'.size = zs.toArray.size := by rw [hu.1, HN.out]; simp
    have hsw := sorted_world (m := m) (d := d') (os := os) HB.out HG.out.1 HG.out.2 H1.out hsz
    rw [← HW.out] at hsw
    have HU := Lib.hid hu
    have HS := Lib.hid hsw
    have HSh : Hid (Shp g w1 w2) := Lib.hid (by rw [HW.out]; exact shp_sort)
    have CP := Lib.hid (compactS_any d' n g cp w2 hu.1.symm hsw.1 HC.out.1 HC.out.2)
    rw [hu.2] at CP
    have HL := Lib.hid (srt_length zs)
    clear hd HW hu hsw hsz
    refine Lib.hid ?_
    go_wp2_with (first
      | (go_at_call 57; refine CP.out.mono ?_; rintro e w3 ⟨rfl, hr⟩; have HR := Lib.hid hr; clear hr)
      | fail)
    go_ret
    have hrm := HR.out.1
    have hle : (srt zs).length ≤ cp := Nat.le_trans HL.out (by rw [← HN.out]; exact HC.out.1)
    have hr : Row2 w3 g 0 (srt zs) := by have := hrm.row; rwa [List.toList_toArray] at this
    refine ⟨_, rfl, ⟨⟨some ⟨g, 0, none⟩, cp, rfl, hle, HC.out.2, (fun h => by cases h), fun _ => ⟨g, 0, rfl, hr.lt, fun j hj => ⟨hr.fst j hj, hr.snd j hj⟩⟩⟩, fun _ => ⟨g, cp, rfl, HG.out.1, hle, HC.out.2, hrm⟩⟩, ?_, HS.out.2.trans (HR.out.2.b.mono HG.out.1)⟩
    obtain ⟨cur, c1, c2, c3⟩ := HCur.out
    obtain ⟨cur2, d1, d2⟩ := HSh.out cur _ c1
    obtain ⟨cur3, e1, e2⟩ := HR.out.2.s cur2 _ d1
    exact owns_of e1 (by rw [e2, d2, c2]) hrm HG.out.1 hle c3
theorem sortedM_any (v : Value) (zs : List Idn) (w : World) (h : RowAt w v zs) (hl : zs.length ≤ 100000) : Calls Tryz.prog 34 #[v] w (GivesM (srt zs) w) :=
  (sortedO_any v zs w h hl).mono fun e w' ⟨u, h1, h2, h3, h4⟩ => ⟨u, h1, h2, h4⟩
theorem sorted_any (v : Value) (zs : List Idn) (w : World) (h : RowAt w v zs) (hl : zs.length ≤ 100000) : Calls Tryz.prog 34 #[v] w (GivesRow (srt zs) w) :=
  (sortedM_any v zs w h hl).mono fun e w' ⟨u, h1, h2, h3⟩ => ⟨u, h1, h2.1, h3⟩
end Go.Proofs.YtomidcbpnaajeaaGreat.Ids
