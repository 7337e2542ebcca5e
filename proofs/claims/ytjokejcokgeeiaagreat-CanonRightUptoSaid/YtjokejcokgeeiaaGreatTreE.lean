/- The order of records as a closure that the developers' order answers (layer 17, comps): what it reads, what it tells of any two ids, what it leaves. Conditions: those in each statement. -/
import Derived.Test.YtjokejcokgeeiaaGreatReg
import Derived.Test.YtjokejcokgeeiaaGreatTreD
import Derived.Shelf.SlSortCmp.QuietGrown
namespace Go.Proofs.YtjokejcokgeeiaaGreat.Cps
open Go.RowKit Cmd Bat Ids Rec Wid Gra Rea Mpg Go.Sort
set_option linter.unusedVariables false
set_option linter.unusedSimpArgs false

/-! ### Worlds that have grown, nothing turned -/
def Grew (w w' : World) : Prop := ∃ q os, w' = grow (w.drewN q) os
theorem Grew.refl (w : World) : Grew w w := ⟨0, #[], by rw [grow_empty]; rfl⟩
theorem Grew.trans {a b c : World} (h : Grew a b) (k : Grew b c) : Grew a c := by
  obtain ⟨q, os, rfl⟩ := h
  obtain ⟨q', os', rfl⟩ := k
  exact ⟨q + q', os ++ os', by show grow (grow ((a.drewN q).drewN q') os) os' = _; rw [grow_grow, World.drewN_drewN]⟩
theorem Grew.alloc (w : World) (o : Obj) : Grew w (w.alloc o) := ⟨0, #[o], by rw [alloc_eq_grow]; rfl⟩
theorem Grew.below {w w' : World} (h : Grew w w') : Below w.heap.size w w' := by
  obtain ⟨q, os, rfl⟩ := h
  exact ⟨rfl, rfl, rfl, by show _ ≤ (w.heap ++ os).size; rw [Array.size_append]; omega, fun k hk => by
    show (w.heap ++ os)[k]? = _
    rw [Array.getElem?_append_left hk]⟩
/-- A call that tells a value and leaves nothing but blocks of its own. -/
def RetGrew (v : Value) (w : World) (e : Ending) (w' : World) : Prop := e = .returned v ∧ Grew w w'

/-! ### Keys of records -/
abbrev Kr := Idn × Int
def kLess (a b : Kr) : Bool := rLess a.1.1 a.1.2 a.2 b.1.1 b.1.2 b.2
theorem kLess_irr (a : Kr) : kLess a a = false := by unfold kLess rLess; rw [if_pos rfl]; exact lt_irr a.1
theorem kLess_tr {x y z : Kr} (h : kLess x y = true) (k : kLess y z = true) : kLess x z = true := by
  unfold kLess rLess at *
  split at h
  · rename_i e1
    split at k
    · rename_i e2
      rw [if_pos (e1.trans e2)]; exact lt_tr h k
    · rename_i e2
      rw [if_neg (fun e => e2 (e1.symm.trans e)), e1]; exact k
  · rename_i e1
    split at k
    · rename_i e2
      rw [if_neg (fun e => e1 (e.trans e2.symm)), ← e2]; exact h
    · have h := of_decide_eq_true h
      have k := of_decide_eq_true k
      rw [if_neg (by omega)]; exact decide_eq_true (by omega)
theorem kLess_tot {x y : Kr} (h : kLess x y = false) (k : kLess y x = false) : x = y := by
  unfold kLess rLess at *
  split at h
  · rename_i e1
    rw [if_pos e1.symm] at k
    exact Prod.ext (lt_tot h k) e1
  · rename_i e1
    rw [if_neg (fun e => e1 e.symm)] at k
    have h := of_decide_eq_false h
    have k := of_decide_eq_false k
    omega
/-- The key that the map gives of an id. -/
def keyR (rs : List Rcd) (l : List Idn) (x : Idn) : Kr := if x ∈ l then (x, seqG rs x) else ((0, 0), 0)
def ordK (a b : Kr) : Int := if kLess a b then -1 else if kLess b a then 1 else 0
def cfR (rs : List Rcd) (l : List Idn) (x y : Idn) : Int := ordK (keyR rs l x) (keyR rs l y)
theorem ordK_lt (a b : Kr) : decide (ordK a b < 0) = kLess a b := by
  unfold ordK
  cases h : kLess a b with
  | true => rfl
  | false =>
    simp only [Bool.false_eq_true, if_false]
    cases kLess b a <;> decide
theorem cfR_in {rs : List Rcd} {l : List Idn} {x y : Idn} (hx : x ∈ l) (hy : y ∈ l) : decide (cfR rs l x y < 0) = ltR rs x y := by
  unfold cfR keyR
  rw [ordK_lt, if_pos hx, if_pos hy]; rfl
theorem swo_key {α : Type} (key : α → Kr) : SWO (ltOf fun x y : α => ordK (key x) (key y)) where
  irrefl x := by unfold ltOf; rw [ordK_lt]; exact kLess_irr _
  trans x y z h1 h2 := by unfold ltOf at *; rw [ordK_lt] at *; exact kLess_tr h1 h2
  ntrans x y z h1 h2 := by
    unfold ltOf at *
    rw [ordK_lt] at *
    cases h : kLess (key x) (key z) with
    | false => rfl
    | true =>
      cases h3 : kLess (key z) (key y) with
      | true => rw [kLess_tr h h3] at h1; cases h1
      | false =>
        have e := kLess_tot h2 h3
        rw [← e] at h
        rw [h] at h1; cases h1

/-! ### record.Less, to the world -/
theorem less_g (a b q : Int) (v u : Value) (a' b' q' : Int) (v' u' : Value) (w : World) :
    Calls Tryz.prog 88 #[.agg #[.int .i64 a, .int .i64 b, .int .i64 q, v, u], .agg #[.int .i64 a', .int .i64 b', .int .i64 q', v', u']] w (RetGrew (.bool (rLess a b q a' b' q')) w) := by
  have HT := Lib.hid (Two8.start 46 w a b q v u a' b' q' v' u')
  have HC := Lib.hid (fun w => compare_any a b a' b' w)
  have hd : ((q : Int) != q') = !decide (q = q') := by rw [Bool.eq_iff_iff]; simp
  have HE : Hid (rLess a b q a' b' q' = if q = q' then idLt (a, b) (a', b') else decide (q < q')) := Lib.hid rfl
  have HG : Hid (Grew w ((w.alloc (cellsR 46 a b q v u)).alloc (cellsR 46 a' b' q' v' u'))) := Lib.hid ((Grew.alloc w _).trans (Grew.alloc _ _))
  have HW : Hid (∀ X, Grew X (two X a b a' b')) := Lib.hid fun X => ⟨0, _, two_grow X a b a' b'⟩
  by_cases h : q = q'
  · subst h
    rw [if_pos rfl] at HE
    have HL := Lib.hid (cmp_neg a b a' b')
    generalize idCmp (a, b) (a', b') = c at HC HL
    generalize idLt (a, b) (a', b') = x at HE HL
    go_enter Tryz.func88, Tryz.ntmps88
    go_wp2_with (first
      | (go_at_call 102; (with_reducible refine (HC.out _).mono ?_); rintro e w1 ⟨rfl, rfl⟩))
    go_ret
    exact ⟨ret_bool (by rw [HE.out, HL.out]), HG.out.trans (HW.out _)⟩
  · rw [if_neg h] at HE
    rw [decide_eq_false h] at hd
    go_enter Tryz.func88, Tryz.ntmps88
    go_wp2
    go_ret
    exact ⟨ret_bool HE.out.symm, HG.out⟩

/-! ### The closure -/
/-- What it reads: a map of the records of a list's ids. -/
structure OrdAt (W : World) (bo mr : Nat) (rs : List Rcd) (l : List Idn) : Prop where
  box : W.cell? ⟨bo, 0, none⟩ = some (.map (some mr))
  map : ∃ f, MapG kyI W mr 1000000 f ∧ (∀ x ∈ l, ∃ v u, f x = some (.agg #[.int .i64 x.1, .int .i64 x.2, .int .i64 (seqG rs x), v, u])) ∧ ∀ x, x ∉ l → f x = none
theorem OrdAt.far {W X : World} {bo mr : Nat} {rs : List Rcd} {l : List Idn} {row : Option Nat} (O : OrdAt W bo mr rs l) (hg : W.grownBy X row) (h1 : row ≠ some bo) (h2 : row ≠ some mr) : OrdAt X bo mr rs l := by
  obtain ⟨f, hf, h3⟩ := O.map
  exact ⟨(World.cell?_of_block (w := W) (a := ⟨bo, 0, none⟩) (hg.block bo (World.block_lt_of_cell? _ _ O.box) (fun e => h1 e.symm))).trans O.box, f, hf.block (hg.block mr hf.lt (fun e => h2 e.symm)), h3⟩
theorem OrdAt.below {W X : World} {bo mr : Nat} {rs : List Rcd} {l : List Idn} (O : OrdAt W bo mr rs l) (hb : Below W.heap.size W X) : OrdAt X bo mr rs l := O.far (grown_lowT none hb) (by intro e; cases e) (by intro e; cases e)
theorem OrdAt.look {W : World} {bo mr : Nat} {rs : List Rcd} {l : List Idn} (O : OrdAt W bo mr rs l) (a b : Int) (h : wfId (a, b)) : ∃ v u, ∀ X, Below W.heap.size W X →
    (Instr.lookup 49 (.map (some mr)) (.agg #[.int .i64 a, .int .i64 b]) false).run Tryz.prog X = .ok (.agg #[.int .i64 (keyR rs l (a, b)).1.1, .int .i64 (keyR rs l (a, b)).1.2, .int .i64 (keyR rs l (a, b)).2, v, u]) X := by
  obtain ⟨f, hf, h1, h2⟩ := O.map
  by_cases hm : (a, b) ∈ l
  · obtain ⟨v, u, e⟩ := h1 _ hm
    refine ⟨v, u, fun X hb => ?_⟩
    have := (hf.on hb).look Tryz.underlying49 zero_rec (x := (a, b)) h
    rw [e] at this
    unfold keyR
    rw [if_pos hm]; exact this
  · refine ⟨.slice none 0 0, .slice none 0 0, fun X hb => ?_⟩
    have := (hf.on hb).look Tryz.underlying49 zero_rec (x := (a, b)) h
    rw [h2 _ hm] at this
    unfold keyR
    rw [if_neg hm]; exact this
set_option maxRecDepth 100000 in
set_option maxHeartbeats 4000000 in
theorem ordc_any (rs : List Rcd) (l : List Idn) (bo mr : Nat) (a b c d : Int) (W : World) (O : OrdAt W bo mr rs l) (h1 : wfId (a, b)) (h2 : wfId (c, d)) :
    Calls Tryz.prog 87 #[.agg #[.int .i64 a, .int .i64 b], .agg #[.int .i64 c, .int .i64 d], .pointer (some ⟨bo, 0, none⟩)] W (RetGrew (.int .i64 (cfR rs l (a, b) (c, d))) W) := by
  obtain ⟨v1, u1, L1⟩ := O.look a b h1
  obtain ⟨v2, u2, L2⟩ := O.look c d h2
  have HE : Hid (cfR rs l (a, b) (c, d) = ordK (keyR rs l (a, b)) (keyR rs l (c, d))) := Lib.hid rfl
  generalize keyR rs l (a, b) = ka at L1 HE
  generalize keyR rs l (c, d) = kb at L2 HE
  obtain ⟨⟨a0, a1⟩, a2⟩ := ka
  obtain ⟨⟨b0, b1⟩, b2⟩ := kb
  have HG := Lib.hid ((Grew.alloc W (.cells #[.int .i64 a, .int .i64 b] 43)).trans (Grew.alloc _ (.cells #[.int .i64 c, .int .i64 d] 43)))
  obtain ⟨x0, x1⟩ := two_boxes W a b c d
  obtain ⟨W1, hW1⟩ : ∃ W1, W1 = (W.alloc (.cells #[.int .i64 a, .int .i64 b] 43)).alloc (.cells #[.int .i64 c, .int .i64 d] 43) := ⟨_, rfl⟩
  rw [← hW1] at HG x0 x1
  have HF : Hid (∀ X, Grew W1 X → X.cell? ⟨bo, 0, none⟩ = some (.map (some mr)) ∧ (X.cell? ⟨W.heap.size, 0, none⟩ = some (.int .i64 a) ∧ X.cell? ⟨W.heap.size, 1, none⟩ = some (.int .i64 b)) ∧ (X.cell? ⟨W.heap.size + 1, 0, none⟩ = some (.int .i64 c) ∧ X.cell? ⟨W.heap.size + 1, 1, none⟩ = some (.int .i64 d)) ∧
      (Instr.lookup 49 (.map (some mr)) (.agg #[.int .i64 a, .int .i64 b]) false).run Tryz.prog X = .ok (.agg #[.int .i64 a0, .int .i64 a1, .int .i64 a2, v1, u1]) X ∧
      (Instr.lookup 49 (.map (some mr)) (.agg #[.int .i64 c, .int .i64 d]) false).run Tryz.prog X = .ok (.agg #[.int .i64 b0, .int .i64 b1, .int .i64 b2, v2, u2]) X) := Lib.hid fun X hX => by
    have hb1 := hX.below
    have hb := HG.out.below.trans (hb1.mono HG.out.below.size)
    have t0 := (hb1.block _ (Array.getElem?_eq_some_iff.1 x0).1).trans x0
    have t1 := (hb1.block _ (Array.getElem?_eq_some_iff.1 x1).1).trans x1
    exact ⟨(O.below hb).box, ⟨cell_row (i := 0) t0 rfl, cell_row (i := 1) t0 rfl⟩, ⟨cell_row (i := 0) t1 rfl, cell_row (i := 1) t1 rfl⟩, L1 X hb, L2 X hb⟩
  have HC1 := Lib.hid (fun X => less_g a0 a1 a2 v1 u1 b0 b1 b2 v2 u2 X)
  have HC2 := Lib.hid (fun X => less_g b0 b1 b2 v2 u2 a0 a1 a2 v1 u1 X)
  have HK1 : Hid (kLess ((a0, a1), a2) ((b0, b1), b2) = rLess a0 a1 a2 b0 b1 b2) := Lib.hid rfl
  have HK2 : Hid (kLess ((b0, b1), b2) ((a0, a1), a2) = rLess b0 b1 b2 a0 a1 a2) := Lib.hid rfl
  generalize rLess a0 a1 a2 b0 b1 b2 = t1 at HC1 HK1
  generalize rLess b0 b1 b2 a0 a1 a2 = t2 at HC2 HK2
  clear x0 x1 L1 L2 O h1 h2
  have l0 := fun n os => (HF.out (grow (W1.drewN n) os) ⟨n, os, rfl⟩).1
  have l1 := fun n os => (HF.out (grow (W1.drewN n) os) ⟨n, os, rfl⟩).2.1.1
  have l2 := fun n os => (HF.out (grow (W1.drewN n) os) ⟨n, os, rfl⟩).2.1.2
  have l3 := fun n os => (HF.out (grow (W1.drewN n) os) ⟨n, os, rfl⟩).2.2.1.1
  have l4 := fun n os => (HF.out (grow (W1.drewN n) os) ⟨n, os, rfl⟩).2.2.1.2
  have l5 := fun n os => (HF.out (grow (W1.drewN n) os) ⟨n, os, rfl⟩).2.2.2.1
  have l6 := fun n os => (HF.out (grow (W1.drewN n) os) ⟨n, os, rfl⟩).2.2.2.2
  have hmix : Tryz.prog.follows .mixedOrders = true := by kernel_rfl
  go_enter Tryz.func87, Tryz.ntmps87
  go_wp2_with fail
  rw [← hW1]
  clear hW1
  go_quiet_grown (first | (go_at_call 88; refine Calls.grown_of (HC1.out _)))
  clear l0 l1 l2 l3 l4 l5 l6
  have HG2 : Hid (Grew W1 (grow (W1.drewN nq) osq)) := Lib.hid ⟨nq, osq, rfl⟩
  generalize grow (W1.drewN nq) osq = W2 at HG2 ⊢
  cases t1 with
  | true =>
    go_wp2
    go_ret
    exact ⟨by rw [HE.out]; unfold ordK; rw [HK1.out]; rfl, HG.out.trans HG2.out⟩
  | false =>
    have l0 := fun n os => (HF.out (grow (W2.drewN n) os) (HG2.out.trans ⟨n, os, rfl⟩)).1
    have l1 := fun n os => (HF.out (grow (W2.drewN n) os) (HG2.out.trans ⟨n, os, rfl⟩)).2.1.1
    have l2 := fun n os => (HF.out (grow (W2.drewN n) os) (HG2.out.trans ⟨n, os, rfl⟩)).2.1.2
    have l3 := fun n os => (HF.out (grow (W2.drewN n) os) (HG2.out.trans ⟨n, os, rfl⟩)).2.2.1.1
    have l4 := fun n os => (HF.out (grow (W2.drewN n) os) (HG2.out.trans ⟨n, os, rfl⟩)).2.2.1.2
    have l5 := fun n os => (HF.out (grow (W2.drewN n) os) (HG2.out.trans ⟨n, os, rfl⟩)).2.2.2.1
    have l6 := fun n os => (HF.out (grow (W2.drewN n) os) (HG2.out.trans ⟨n, os, rfl⟩)).2.2.2.2
    go_wp2_with fail
    go_quiet_grown (first | (go_at_call 88; refine Calls.grown_of (HC2.out _)))
    clear l0 l1 l2 l3 l4 l5 l6
    have HG3 : Hid (Grew W2 (grow (W2.drewN nq) osq)) := Lib.hid ⟨nq, osq, rfl⟩
    generalize grow (W2.drewN nq) osq = W3 at HG3 ⊢
    cases t2 with
    | true =>
      go_wp2
      go_ret
      exact ⟨by rw [HE.out]; unfold ordK; rw [HK1.out, HK2.out]; rfl, HG.out.trans (HG2.out.trans HG3.out)⟩
    | false =>
      go_wp2
      go_ret
      exact ⟨by rw [HE.out]; unfold ordK; rw [HK1.out, HK2.out]; rfl, HG.out.trans (HG2.out.trans HG3.out)⟩
end Go.Proofs.YtjokejcokgeeiaaGreat.Cps

/- What the developers' order gives (layer 17, comps): a closure over a map of the records of a list's ids. Conditions: those in each statement. (Written by tools/gen_tref.py.) -/
namespace Go.Proofs.YtjokejcokgeeiaaGreat.Cps
open Go.RowKit Cmd Bat Ids Rec Wid Gra Rea Mpg Go.Sort
set_option linter.unusedVariables false
set_option linter.unusedSimpArgs false

/-- A record is told by its id and number. -/
def GivesS (a b q : Int) (w : World) (E : Ending) (w' : World) : Prop := ∃ (v u : Value) (ok : Bool), E = .returned (.tuple #[.agg #[.int .i64 a, .int .i64 b, .int .i64 q, v, u], .bool ok]) ∧ Below w.heap.size w w'
/-- What is asked of a graph's Record, of ids that are there. -/
def Tells (gp : Option Addr) (rs : List Rcd) (w : World) : Prop := ∀ W (a b : Int), Below w.heap.size w W → wfId (a, b) → (a, b) ∈ idsG rs → Calls Tryz.prog 62 #[.pointer gp, .agg #[.int .i64 a, .int .i64 b]] W (GivesS a b (seqG rs (a, b)) W)
theorem Tells.on {gp : Option Addr} {rs : List Rcd} {w w' : World} (A : Tells gp rs w) (hb : Below w.heap.size w w') : Tells gp rs w' := fun W a b h => A W a b (hb.trans (h.mono hb.size))
theorem Tells.graph {G : Nat → Nat → List Rcd → World → Prop} (HG : Graphs G) {N g : Nat} {rs : List Rcd} {w : World} (h : G N g rs w) : Tells (some ⟨g, 0, none⟩) rs w := by
  intro W a b hb hw hm
  have up : G N g rs W := HG.on h (hb.mono (HG.le h))
  cases hf : rs.find? (fun r => decide (r.1 = (a, b))) with
  | none =>
    obtain ⟨r, hr, e⟩ := List.mem_map.1 hm
    have := List.find?_eq_none.1 hf r hr
    simp only [decide_eq_true_eq] at this
    exact absurd e this
  | some r =>
    have hr := List.mem_of_find?_eq_some hf
    have e : r.1 = (a, b) := by
      have := List.find?_some hf
      simpa using this
    have hd : seqG rs (a, b) = r.2.1 := by unfold seqG; rw [hf]
    rw [hd]
    refine (HG.recY up a b hw r hr e).mono fun E w' h => ?_
    obtain ⟨v, u, rfl, h1, -, h3⟩ := h
    refine ⟨v, u, true, ?_, h3⟩
    rw [e]
theorem Tells.nil (w : World) : Tells none [] w := fun W a b _ _ hm => by cases hm

/-- A map of the records of some ids, with its bound. -/
structure OrdB (W : World) (bo mr N : Nat) (rs : List Rcd) (l : List Idn) : Prop where
  box : W.cell? ⟨bo, 0, none⟩ = some (.map (some mr))
  map : ∃ f, MapG kyI W mr N f ∧ (∀ x ∈ l, ∃ v u, f x = some (.agg #[.int .i64 x.1, .int .i64 x.2, .int .i64 (seqG rs x), v, u])) ∧ ∀ x, x ∉ l → f x = none
theorem OrdB.on {W X : World} {bo mr N : Nat} {rs : List Rcd} {l : List Idn} (O : OrdB W bo mr N rs l) (hb : Below W.heap.size W X) : OrdB X bo mr N rs l := by
  obtain ⟨f, hf, h⟩ := O.map
  exact ⟨(hb.cell (p := ⟨bo, 0, none⟩) (World.block_lt_of_cell? _ _ O.box)).trans O.box, f, hf.on hb, h⟩
theorem OrdB.at {W : World} {bo mr N : Nat} {rs : List Rcd} {l : List Idn} (O : OrdB W bo mr N rs l) (hN : N ≤ 1000000) : OrdAt W bo mr rs l := by
  obtain ⟨f, hf, h⟩ := O.map
  exact ⟨O.box, f, hf.mono hN, h⟩
theorem OrdB.store {W : World} {bo mr N : Nat} {rs : List Rcd} {l : List Idn} (O : OrdB W bo mr N rs l) {x y : Int} (v u : Value) (hx : wfId (x, y)) (hN : N ≤ 1000000) :
    ∃ W', (Instr.mapUpdate 49 (.map (some mr)) (.agg #[.int .i64 x, .int .i64 y]) (.agg #[.int .i64 x, .int .i64 y, .int .i64 (seqG rs (x, y)), v, u])).run Tryz.prog W = .ok () W' ∧ OrdB W' bo mr (N + 1) rs (l ++ [(x, y)]) ∧ W.mapTurned W' mr := by
  obtain ⟨f, hf, h1, h2⟩ := O.map
  obtain ⟨W', hr, hm, ht⟩ := hf.store Tryz.underlying49 hN (x := (x, y)) hx (.agg #[.int .i64 x, .int .i64 y, .int .i64 (seqG rs (x, y)), v, u])
  refine ⟨W', hr, ⟨turned_cell ht O.box, _, hm, fun z hz => ?_, fun z hz => ?_⟩, ht⟩
  · by_cases e : z = (x, y)
    · subst e; exact ⟨v, u, setF_same _ _ _⟩
    · rw [setF_other _ _ e]
      exact h1 z ((List.mem_append.1 hz).resolve_right fun h => e (List.mem_singleton.1 h))
  · rw [setF_other _ _ (fun e => hz (by rw [e]; simp))]
    exact h2 z fun h => hz (List.mem_append_left _ h)
abbrev ordV (bo : Nat) : Value := .func (.func 87) #[] #[.pointer (some ⟨bo, 0, none⟩)]
/-- What order answers. -/
def GivesOrd (rs : List Rcd) (l : List Idn) (W : World) (E : Ending) (W' : World) : Prop := ∃ bo mr, E = .returned (ordV bo) ∧ OrdAt W' bo mr rs l ∧ W.heap.size ≤ bo ∧ W.heap.size ≤ mr ∧ Below W.heap.size W W'
set_option maxRecDepth 100000 in
set_option maxHeartbeats 4000000 in
theorem order_any (gp : Option Addr) (rs : List Rcd) (v : Value) (l : List Idn) (W : World) (A : Tells gp rs W) (hr : RowAt W v l) (hl : l.length ≤ 100000) (hw : ∀ x ∈ l, wfId x) (hin : ∀ x ∈ l, x ∈ idsG rs) :
    Calls Tryz.prog 50 #[.pointer gp, v] W (GivesOrd rs l W) := by
  obtain ⟨p, cap, rfl, h1, hd⟩ := Rec.RowAt.parts hr
  obtain ⟨n, hn⟩ : ∃ n, n = l.length := ⟨_, rfl⟩
  rw [← hn] at h1 hd ⊢
  have hd1 : n = 0 ∨ ∃ B off, p = some ⟨B, off, none⟩ ∧ Hid (Row2 W B off l) := hd
  have HN := Lib.hid hn
  have HA := Lib.hid A
  have HW := Lib.hid hw
  have HIN := Lib.hid hin
  have hnl : n ≤ 100000 := by omega
  have hm1 := Cmd.below_one W (.map #[] 0)
  have hm2 := Cmd.below_one (W.alloc (.map #[] 0)) (.cells #[.map (some W.heap.size)] 49)
  have HST : Hid (OrdB ((W.alloc (.map #[] 0)).alloc (.cells #[.map (some W.heap.size)] 49)) (W.heap.size + 1) W.heap.size 0 rs []) := Lib.hid ⟨by
    have h := heap_alloc_new (W.alloc (.map #[] 0)) (.cells #[.map (some W.heap.size)] 49)
    rw [World.size_alloc] at h
    exact cell_row (i := 0) h rfl, _, (MapG.made W).on hm2, (fun x hx => absurd hx List.not_mem_nil), (fun x _ => rfl)⟩
  have HB : Hid (Below W.heap.size W ((W.alloc (.map #[] 0)).alloc (.cells #[.map (some W.heap.size)] 49))) := Lib.hid (hm1.trans (hm2.mono (by simp)))
  obtain ⟨W0, hW0⟩ : ∃ W0, W0 = (W.alloc (.map #[] 0)).alloc (.cells #[.map (some W.heap.size)] 49) := ⟨_, rfl⟩
  rw [← hW0] at HST HB
  have HW0 := Lib.hid hW0
  clear hd hr hn A hw hin hl hm1 hm2 hW0
  have hmm := @run_makeMap Tryz.prog
  go_enter Tryz.func50, Tryz.ntmps50
  go_wp2_with fail
  obtain ⟨bo, hbo⟩ : ∃ bo, bo = W.heap.size + 1 := ⟨_, rfl⟩
  obtain ⟨mr, hmr⟩ : ∃ mr, mr = W.heap.size := ⟨_, rfl⟩
  clear hmm
  rw [← HW0.out]
  rw [← hbo, ← hmr] at HST
  rw [← hbo]
  clear HW0
  have HBM : Hid (W.heap.size ≤ bo ∧ W.heap.size ≤ mr) := Lib.hid ⟨by omega, by omega⟩
  clear hbo hmr
  go_loopw [11] (fun i wr => ∃ k : Nat, i = .int .i64 k ∧ k ≤ n ∧ Hid (OrdB wr bo mr k rs (l.take k)) ∧ Hid (Below W.heap.size W wr)) (fun i _ => n - (intOf i).toNat)
  case atStart => exact ⟨0, rfl, Nat.zero_le _, by rw [List.take_zero]; exact HST, HB⟩
  case round =>
    clear HST HB
    obtain ⟨k, rfl, hk, hO, hB⟩ := hrel
    have k0 : (0 : Int) ≤ k := by omega
    by_cases hkn : k < n
    · have kn : (k : Int) < n := by omega
      obtain ⟨B, off, rfl, HC⟩ := hd1.resolve_left (by omega)
      have hkl : k < l.length := by rw [← HN.out]; exact hkn
      obtain ⟨⟨x, y⟩, hxy⟩ : ∃ z, nth l k = z := ⟨_, rfl⟩
      have e0 := (HC.out.on hB.out).fst k hkl
      have e1 := (HC.out.on hB.out).snd k hkl
      rw [hxy] at e0 e1
      have hb1 := Cmd.below_one wr (.cells #[.int .i64 x, .int .i64 y] 43)
      have hx1 := heap_alloc_new wr (.cells #[.int .i64 x, .int .i64 y] 43)
      have hmem : (x, y) ∈ l := by rw [← hxy]; exact nth_in hkl
      have HXW : Hid (wfId (x, y)) := Lib.hid (HW.out _ hmem)
      have HXI : Hid ((x, y) ∈ idsG rs) := Lib.hid (HIN.out _ hmem)
      have HLT : Hid (l.take (k + 1) = l.take k ++ [(x, y)]) := Lib.hid (by
        rw [List.take_succ_eq_append_getElem hkl, ← hxy]
        unfold nth
        rw [List.getD_eq_getElem?_getD, List.getElem?_eq_getElem hkl]; rfl)
      have HKL : Hid (k ≤ 1000000) := Lib.hid (by omega)
      have HO0 : Hid (OrdB (wr.alloc (.cells #[.int .i64 x, .int .i64 y] 43)).drew bo mr k rs (l.take k)) := Lib.hid (hO.out.on hb1.drew)
      have HB0 : Hid (Below W.heap.size W (wr.alloc (.cells #[.int .i64 x, .int .i64 y] 43)).drew) := Lib.hid (hB.out.trans (hb1.drew.mono hB.out.size))
      have HK : Hid (∀ w', Below (wr.alloc (.cells #[.int .i64 x, .int .i64 y] 43)).drew.heap.size (wr.alloc (.cells #[.int .i64 x, .int .i64 y] 43)).drew w' → w'.cell? ⟨bo, 0, none⟩ = some (.map (some mr)) ∧ w'.cell? ⟨wr.heap.size, 0, none⟩ = some (.int .i64 x) ∧ w'.cell? ⟨wr.heap.size, 1, none⟩ = some (.int .i64 y)) := Lib.hid fun w' hb => by
        have t0 := (hb.block _ (Array.getElem?_eq_some_iff.1 hx1).1).trans hx1
        exact ⟨(HO0.out.on hb).box, cell_row (i := 0) t0 rfl, cell_row (i := 1) t0 rfl⟩
      have HR : Hid (∀ X, Below W.heap.size W X → Calls Tryz.prog 62 #[.pointer gp, .agg #[.int .i64 x, .int .i64 y]] X (GivesS x y (seqG rs (x, y)) X)) := Lib.hid fun X hX => HA.out X x y hX HXW.out HXI.out
      clear hb1 hx1 hmem hkl hxy
      go_wp2_with fail
      refine wp_region_held_drew (S := (fun w' => w'.cell? ⟨bo, 0, none⟩ = some (.map (some mr)) ∧ w'.cell? ⟨wr.heap.size, 0, none⟩ = some (.int .i64 x) ∧ w'.cell? ⟨wr.heap.size, 1, none⟩ = some (.int .i64 y))) (by kernel_rfl) (HK.out _ (Below.refl _ _)) (fun hHeld => ?_)
      generalize (wr.alloc (.cells #[.int .i64 x, .int .i64 y] 43)).drew = Y0 at HO0 HB0 HK hHeld ⊢
      refine ty (v := ?_) 0 (fun w hSw => ?_) ?_
      rotate_left
      · (try dsimp only at hSw); go_simp; (try with_reducible rfl)
      try simp only [List.getElem_toArray, List.getElem_cons_succ, List.getElem_cons_zero, Act.put, List.setIfInBounds_toArray, List.set_cons_zero, List.set_cons_succ]
      refine ty (v := ?_) 1 (fun w hSw => ?_) ?_
      rotate_left
      · (try dsimp only at hSw); go_simp; (try with_reducible rfl)
      try simp only [List.getElem_toArray, List.getElem_cons_succ, List.getElem_cons_zero, Act.put, List.setIfInBounds_toArray, List.set_cons_zero, List.set_cons_succ]
      refine ty (v := ?_) 2 (fun w hSw => ?_) ?_
      rotate_left
      · (try dsimp only at hSw); go_simp; (try with_reducible rfl)
      try simp only [List.getElem_toArray, List.getElem_cons_succ, List.getElem_cons_zero, Act.put, List.setIfInBounds_toArray, List.set_cons_zero, List.set_cons_succ]
      refine ty (v := ?_) 3 (fun w hSw => ?_) ?_
      rotate_left
      · (try dsimp only at hSw); go_simp; (try with_reducible rfl)
      try simp only [List.getElem_toArray, List.getElem_cons_succ, List.getElem_cons_zero, Act.put, List.setIfInBounds_toArray, List.set_cons_zero, List.set_cons_succ]
      refine tr 4 (fun K hK => ?_)
      go_simp
      (go_at_call 62; (with_reducible refine (HR.out Y0 HB0.out).mono ?_); rintro E Y1 ⟨v1, u1, ok, rfl, hb⟩; have HB1 := Lib.hid (HB0.out.trans (hb.mono HB0.out.size)); have HC1 := Lib.hid (HK.out _ hb); have HO1 := Lib.hid (HO0.out.on hb); clear hb)
      refine hK.out _ _ ?_ (fun hHeld => ?_)
      · exact HC1.out
      clear hK K
      try simp only [List.getElem_toArray, List.getElem_cons_succ, List.getElem_cons_zero, Act.put, List.setIfInBounds_toArray, List.set_cons_zero, List.set_cons_succ]
      refine ty (v := ?_) 5 (fun w hSw => ?_) ?_
      rotate_left
      · (try dsimp only at hSw); go_simp; (try with_reducible rfl)
      try simp only [List.getElem_toArray, List.getElem_cons_succ, List.getElem_cons_zero, Act.put, List.setIfInBounds_toArray, List.set_cons_zero, List.set_cons_succ]
      refine ty (v := ?_) 6 (fun w hSw => ?_) ?_
      rotate_left
      · (try dsimp only at hSw); go_simp; (try with_reducible rfl)
      try simp only [List.getElem_toArray, List.getElem_cons_succ, List.getElem_cons_zero, Act.put, List.setIfInBounds_toArray, List.set_cons_zero, List.set_cons_succ]
      refine ty (v := ?_) 7 (fun w hSw => ?_) ?_
      rotate_left
      · (try dsimp only at hSw); go_simp; (try with_reducible rfl)
      try simp only [List.getElem_toArray, List.getElem_cons_succ, List.getElem_cons_zero, Act.put, List.setIfInBounds_toArray, List.set_cons_zero, List.set_cons_succ]
      obtain ⟨Y2, hst, hO2, ht2⟩ := HO1.out.store v1 u1 HXW.out HKL.out
      have HT2 := Lib.hid ht2
      have HO2 := Lib.hid hO2
      have HC2 : Hid (Y2.cell? ⟨bo, 0, none⟩ = some (.map (some mr)) ∧ Y2.cell? ⟨wr.heap.size, 0, none⟩ = some (.int .i64 x) ∧ Y2.cell? ⟨wr.heap.size, 1, none⟩ = some (.int .i64 y)) := Lib.hid ⟨turned_cell ht2 HC1.out.1, turned_cell ht2 HC1.out.2.1, turned_cell ht2 HC1.out.2.2⟩
      clear ht2 hO2
      refine tr 8 (fun K hK => ?_)
      go_simp
      refine hK.out _ _ ?_ (fun hHeld => ?_)
      · exact HC2.out
      clear hK K
      try simp only [List.getElem_toArray, List.getElem_cons_succ, List.getElem_cons_zero, Act.put, List.setIfInBounds_toArray, List.set_cons_zero, List.set_cons_succ]
      refine wpAnyH_done (by kernel_rfl) ?_ _
      have hb2 : Below W.heap.size W Y2 := HB1.out.trans (grown_belowT HT2.out.grown HBM.out.2 HB1.out.size)
      go_wp2
      go_roundw
      case rel => exact ⟨k + 1, by go_num, by omega, Lib.hid (by rw [HLT.out]; exact HO2.out), Lib.hid hb2⟩
      case measure => simp [intOf]; omega
    · have kn : ¬ (k : Int) < n := by omega
      have hke : k = n := by omega
      go_wp2
      go_ret
      have h1 := hO.out.at (by omega)
      rw [hke, HN.out, List.take_length] at h1
      exact ⟨bo, mr, rfl, h1, HBM.out.1, HBM.out.2, hB.out⟩
end Go.Proofs.YtjokejcokgeeiaaGreat.Cps
