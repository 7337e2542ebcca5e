/- What the developers' Edge and Writers give (layer 20, premise), whatever way graphs are kept. Conditions: a graph as layer 15 has it; lists of at most 1000 ids. -/
import Derived.Test.YtomidcbpnaajeaaGreatPreV
import Derived.Test.YtomidcbpnaajeaaGreatPreG
namespace Go.Proofs.YtomidcbpnaajeaaGreat.Pre
open Go.RowKit Cmd Bat Ids Rec Wid Gra Cps Vau
set_option linter.unusedVariables false
set_option linter.unusedSimpArgs false

/-! ### A graph's records -/
theorem ok_all {rs : List Rcd} (h : gErr rs = 0) : ∀ x ∈ rs, OkR x := fun x hx => by
  obtain ⟨j, hj, rfl⟩ := (Lay.mem (L := layG)).1 hx
  exact okR_iff.1 (gerr_at h hj).1
theorem rc_in {rs : List Rcd} {x : Idn} (hx : x ∈ idsG rs) : rcG rs x ∈ rs ∧ (rcG rs x).1 = x := by
  obtain ⟨k, hk, e, e1⟩ := find_in hx
  unfold rcG
  rw [e]
  exact ⟨layG.at_mem hk, e1⟩
theorem right_all {cs : List Cmdn} (h : bErr cs = 0) : (∀ c ∈ cs, right c = true) ∧ cs.length ≤ 8 := by
  unfold bErr at h
  by_cases h1 : 8 < cs.length
  · rw [if_pos h1] at h; cases h
  · rw [if_neg h1] at h
    refine ⟨fun c hc => ?_, by omega⟩
    by_cases h2 : (cs.any fun x => !right x) = true
    · rw [if_pos h2] at h; cases h
    · cases hr : right c with
      | true => rfl
      | false => exact absurd (List.any_eq_true.2 ⟨c, hc, by rw [hr]; rfl⟩) h2
/-- The commands of an id; none, if it is not there. -/
def batG (rs : List Rcd) (x : Idn) : List Cmdn := if x ∈ idsG rs then (rcG rs x).2.2.2 else []
theorem bat_wf {rs : List Rcd} (hL : Lot rs) (x : Idn) : ∀ c ∈ batG rs x, wfC c := fun c hc => by
  unfold batG at hc
  split at hc
  · rename_i h; exact (hL.wf _ (rc_in h).1).batch c hc
  · cases hc
theorem bat_few {rs : List Rcd} (hL : Lot rs) (x : Idn) : (batG rs x).length ≤ 1000 := by
  unfold batG
  split
  · rename_i h; exact (hL.low _ (rc_in h).1).2
  · exact Nat.zero_le _
theorem bat_eight {rs : List Rcd} (he : gErr rs = 0) (x : Idn) : (batG rs x).length ≤ 8 := by
  unfold batG
  split
  · rename_i h; exact (right_all (ok_all he _ (rc_in h).1).batch).2
  · exact Nat.zero_le _
def GivesAny (rs : List Rcd) (x : Idn) (w : World) (E : Ending) (w' : World) : Prop :=
  ∃ (a b q : Int) (p1 : Option Addr) (n1 c1 : Nat) (p2 : Option Addr) (c2 : Nat) (ok : Bool), E = .returned (.tuple #[.agg #[.int .i64 a, .int .i64 b, .int .i64 q, .slice p1 n1 c1, .slice p2 (batG rs x).length c2], .bool ok]) ∧ layC.Row w' (.slice p2 (batG rs x).length c2) (batG rs x) ∧ Below w.heap.size w w'
section
variable {G : Nat → Nat → List Rcd → World → Prop} {N g : Nat} {rs : List Rcd} {W : World}
theorem rec_there (HG : Graphs G) (h : G N g rs W) (a b : Int) (hw : wfId (a, b)) (hx : (a, b) ∈ idsG rs) : Calls Tryz.prog 24 #[gptr g, .agg #[.int .i64 a, .int .i64 b]] W (GivesRd (rcG rs (a, b)) W) :=
  HG.recY h a b hw _ (rc_in hx).1 (rc_in hx).2
theorem rec_any (HG : Graphs G) (h : G N g rs W) (a b : Int) (hw : wfId (a, b)) : Calls Tryz.prog 24 #[gptr g, .agg #[.int .i64 a, .int .i64 b]] W (GivesAny rs (a, b) W) := by
  by_cases hx : (a, b) ∈ idsG rs
  · have e : batG rs (a, b) = (rcG rs (a, b)).2.2.2 := by unfold batG; rw [if_pos hx]
    refine (rec_there HG h a b hw hx).mono fun E w' ⟨v, u, h1, h2, h3, h4⟩ => ?_
    obtain ⟨p1, c1, rfl⟩ := own_shape h2
    obtain ⟨p2, c2, rfl, -⟩ := id h3
    unfold GivesAny
    rw [e]
    exact ⟨_, _, _, p1, _, c1, p2, c2, _, h1, h3, h4⟩
  · have e : batG rs (a, b) = [] := by unfold batG; rw [if_neg hx]
    refine (HG.recN h a b hw hx).mono fun E w' ⟨h1, h2⟩ => ?_
    unfold GivesAny
    rw [e]
    exact ⟨0, 0, 0, none, 0, 0, none, 0, false, h1, ⟨none, 0, rfl, Nat.le_refl _, by omega, fun h => absurd rfl h⟩, h2⟩

/-! ### Edge -/
/-- The two boxes of a call of Edge. -/
structure TI (w : World) (a b c d : Int) (X : World) : Prop where
  one : X.heap[w.heap.size]? = some (.cells #[.int .i64 a, .int .i64 b] 32 (0, 0))
  two : X.heap[w.heap.size + 1]? = some (.cells #[.int .i64 c, .int .i64 d] 32 (0, 0))
  below : Below w.heap.size w X
  lt : w.heap.size + 1 < X.heap.size
theorem TI.start (w : World) (a b c d : Int) : TI w a b c d ((w.alloc (.cells #[.int .i64 a, .int .i64 b] 32)).alloc (.cells #[.int .i64 c, .int .i64 d] 32)) := by
  have h := heap_alloc_new (w.alloc (.cells #[.int .i64 a, .int .i64 b] 32)) (.cells #[.int .i64 c, .int .i64 d] 32)
  rw [World.size_alloc] at h
  exact ⟨(Below.heap_alloc _ _ _ (by simp)).trans (heap_alloc_new w _), h, (Cmd.below_one _ _).trans ((Cmd.below_one _ _).mono (by simp)), by show _ < ((w.alloc _).alloc _).heap.size; simp⟩
theorem TI.on {w X Y : World} {a b c d : Int} (h : TI w a b c d X) (hb : Below X.heap.size X Y) : TI w a b c d Y :=
  ⟨(hb.block _ (by have := h.lt; omega)).trans h.one, (hb.block _ h.lt).trans h.two, h.below.trans (hb.mono h.below.size), Nat.lt_of_lt_of_le h.lt hb.size⟩
theorem TI.four {w X : World} {a b c d : Int} (h : TI w a b c d X) : X.cell? ⟨w.heap.size, 0, none⟩ = some (.int .i64 a) ∧ X.cell? ⟨w.heap.size, 1, none⟩ = some (.int .i64 b) ∧ X.cell? ⟨w.heap.size + 1, 0, none⟩ = some (.int .i64 c) ∧ X.cell? ⟨w.heap.size + 1, 1, none⟩ = some (.int .i64 d) :=
  ⟨cell_row (i := 0) h.one rfl, cell_row (i := 1) h.one rfl, cell_row (i := 0) h.two rfl, cell_row (i := 1) h.two rfl⟩
theorem five_box {W : World} {g : Nat} {x0 x1 x2 x3 x4 : Value} {t : TypeId} (h : W.heap[g]? = some (.cells #[x0, x1, x2, x3, x4] t (0, 0))) : W.cell? ⟨g, 0, none⟩ = some x0 ∧ W.cell? ⟨g, 1, none⟩ = some x1 ∧ W.cell? ⟨g, 2, none⟩ = some x2 ∧ W.cell? ⟨g, 3, none⟩ = some x3 ∧ W.cell? ⟨g, 4, none⟩ = some x4 :=
  ⟨cell_row (i := 0) h rfl, cell_row (i := 1) h rfl, cell_row (i := 2) h rfl, cell_row (i := 3) h rfl, cell_row (i := 4) h rfl⟩
set_option maxRecDepth 100000 in
set_option maxHeartbeats 4000000 in
theorem pedge_any (HG : Graphs G) (h : G N g rs W) (a b c d : Int) (hx : wfId (a, b)) (hy : wfId (c, d)) : Calls Tryz.prog 12 #[gptr g, .agg #[.int .i64 a, .int .i64 b], .agg #[.int .i64 c, .int .i64 d]] W (RetBelow (.bool (edgeG rs (a, b) (c, d))) W) := by
  have T0 := Lib.hid (TI.start W a b c d)
  have HN := HG.le h
  have HE : Hid (edgeG rs (a, b) (c, d) = (decide ((a, b) ∈ idsG rs) && decide ((c, d) ∈ idsG rs) && edgeR (rcG rs (a, b)) (rcG rs (c, d)))) := Lib.hid rfl
  have HX : Hid (∀ X, Below W.heap.size W X → G N g rs X) := Lib.hid fun X hb => HG.on h (hb.mono HN)
  generalize edgeG rs (a, b) (c, d) = r at HE ⊢
  obtain ⟨c0, c1, c2, c3⟩ := T0.out.four
  by_cases h1 : (a, b) ∈ idsG rs
  · have C1 := Lib.hid (rec_there HG (HX.out _ T0.out.below) a b hx h1)
    by_cases h2 : (c, d) ∈ idsG rs
    · have C2 : Hid (∀ X, Below W.heap.size W X → Calls Tryz.prog 24 #[gptr g, .agg #[.int .i64 c, .int .i64 d]] X (GivesRd (rcG rs (c, d)) X)) := Lib.hid fun X hb => rec_there HG (HX.out X hb) c d hy h2
      rw [decide_eq_true h1, decide_eq_true h2] at HE
      obtain ⟨⟨⟨a1, b1⟩, q1, ds1, cs1⟩, hr1⟩ : ∃ r, rcG rs (a, b) = r := ⟨_, rfl⟩
      obtain ⟨⟨⟨a2, b2⟩, q2, ds2, cs2⟩, hr2⟩ : ∃ r, rcG rs (c, d) = r := ⟨_, rfl⟩
      rw [hr1] at C1 HE
      rw [hr2] at C2 HE
      have HL : Hid (∀ (X : World) (p1 p2 p3 p4 : Option Addr) (n1 k1 n2 k2 n3 k3 n4 k4 : Nat), RowAt X (.slice p1 n1 k1) ds1 → RowAt X (.slice p3 n3 k3) ds2 → Calls Tryz.prog 29 #[.agg #[.int .i64 a1, .int .i64 b1, .int .i64 q1, .slice p1 n1 k1, .slice p2 n2 k2], .agg #[.int .i64 a2, .int .i64 b2, .int .i64 q2, .slice p3 n3 k3, .slice p4 n4 k4]] X (RetBelow (.bool (edgeR ((a1, b1), q1, ds1, cs1) ((a2, b2), q2, ds2, cs2))) X)) := Lib.hid fun X p1 p2 p3 p4 n1 k1 n2 k2 n3 k3 n4 k4 r1 r2 => linked_any a1 b1 q1 _ _ a2 b2 q2 _ _ ds1 ds2 cs1 cs2 X r1 ⟨_, _, _, rfl⟩ r2 ⟨_, _, _, rfl⟩
      generalize edgeR ((a1, b1), q1, ds1, cs1) ((a2, b2), q2, ds2, cs2) = e0 at HE HL
      clear h HG hx hy h1 h2 hr1 hr2 HN
      go_enter Tryz.func12, Tryz.ntmps12
      go_wp2_with (first
        | (go_at_call 24; ((with_reducible refine C1.out.mono ?_); rintro E w1 ⟨v1, u1, rfl, ho, hr, hb⟩; obtain ⟨p1, k1, rfl⟩ := own_shape ho; obtain ⟨p2, k2, rfl, -⟩ := id hr; obtain ⟨n1, hn1⟩ : ∃ n, n = ds1.length := ⟨_, rfl⟩; obtain ⟨n2, hn2⟩ : ∃ n, n = cs1.length := ⟨_, rfl⟩; have R1 := Lib.hid ho.row; rw [← hn1] at R1 ⊢; rw [← hn2]; have T1 := Lib.hid (T0.out.on hb); have B1 := Lib.hid (Cmd.below_one w1 (.cells #[.int .i64 a1, .int .i64 b1, .int .i64 q1, .slice p1 n1 k1, .slice p2 n2 k2] 42)); have T2 := Lib.hid (T1.out.on B1.out); have N1 := Lib.hid (heap_alloc_new w1 (.cells #[.int .i64 a1, .int .i64 b1, .int .i64 q1, .slice p1 n1 k1, .slice p2 n2 k2] 42)); have R2 := Lib.hid (R1.out.on B1.out); have C3 := Lib.hid (C2.out _ T2.out.below); obtain ⟨d0, d1, d2, d3⟩ := T2.out.four; clear hn1 hn2 ho hr hb))
        | (go_at_call 24; ((with_reducible refine C3.out.mono ?_); rintro E w2 ⟨v2, u2, rfl, ho, hr, hb⟩; obtain ⟨p3, k3, rfl⟩ := own_shape ho; obtain ⟨p4, k4, rfl, -⟩ := id hr; obtain ⟨n3, hn3⟩ : ∃ n, n = ds2.length := ⟨_, rfl⟩; obtain ⟨n4, hn4⟩ : ∃ n, n = cs2.length := ⟨_, rfl⟩; have R3 := Lib.hid ho.row; rw [← hn3] at R3 ⊢; rw [← hn4]; have B2 := Lib.hid (Cmd.below_one w2 (.cells #[.int .i64 a2, .int .i64 b2, .int .i64 q2, .slice p3 n3 k3, .slice p4 n4 k4] 42)); have B3 := Lib.hid (hb.trans (B2.out.mono hb.size)); have R4 := Lib.hid (R3.out.on B2.out); have T3 := Lib.hid (T2.out.on B3.out); have N2 := (B3.out.block _ (Array.getElem?_eq_some_iff.1 N1.out).1).trans N1.out; have N3 := heap_alloc_new w2 (.cells #[.int .i64 a2, .int .i64 b2, .int .i64 q2, .slice p3 n3 k3, .slice p4 n4 k4] 42); obtain ⟨f0, f1, f2, f3, f4⟩ := five_box N2; obtain ⟨g0, g1, g2, g3, g4⟩ := five_box N3; have C4 := Lib.hid (HL.out _ p1 p2 p3 p4 n1 k1 n2 k2 n3 k3 n4 k4 (R2.out.on B3.out) R4.out); clear hn3 hn4 ho hr hb N2 N3))
        | (go_at_call 29; ((with_reducible refine C4.out.mono ?_); rintro E w3 ⟨rfl, hb⟩; have T4 := Lib.hid (T3.out.on hb); clear hb)))
      go_ret
      exact ⟨ret_bool (by rw [HE.out]; rfl), T4.out.below⟩
    · have C2 : Hid (∀ X, Below W.heap.size W X → Calls Tryz.prog 24 #[gptr g, .agg #[.int .i64 c, .int .i64 d]] X (RetBelow (.tuple #[zeroRec, .bool false]) X)) := Lib.hid fun X hb => HG.recN (HX.out X hb) c d hy h2
      rw [decide_eq_true h1, decide_eq_false h2] at HE
      obtain ⟨⟨⟨a1, b1⟩, q1, ds1, cs1⟩, hr1⟩ : ∃ r, rcG rs (a, b) = r := ⟨_, rfl⟩
      rw [hr1] at C1
      clear h HG hx hy h1 h2 hr1 HN
      go_enter Tryz.func12, Tryz.ntmps12
      go_wp2_with (first
        | (go_at_call 24; ((with_reducible refine C1.out.mono ?_); rintro E w1 ⟨v1, u1, rfl, ho, hr, hb⟩; obtain ⟨p1, k1, rfl⟩ := own_shape ho; obtain ⟨p2, k2, rfl, -⟩ := id hr; obtain ⟨n1, hn1⟩ : ∃ n, n = ds1.length := ⟨_, rfl⟩; obtain ⟨n2, hn2⟩ : ∃ n, n = cs1.length := ⟨_, rfl⟩; rw [← hn1]; rw [← hn2]; have T1 := Lib.hid (T0.out.on hb); have T2 := Lib.hid (T1.out.on (Cmd.below_one w1 (.cells #[.int .i64 a1, .int .i64 b1, .int .i64 q1, .slice p1 n1 k1, .slice p2 n2 k2] 42))); have C3 := Lib.hid (C2.out _ T2.out.below); obtain ⟨d0, d1, d2, d3⟩ := T2.out.four; clear hn1 hn2 ho hr hb))
        | (go_at_call 24; ((with_reducible refine C3.out.mono ?_); rintro E w2 ⟨rfl, hb⟩; have T3 := Lib.hid ((T2.out.on hb).on (Cmd.below_one w2 (.cells #[.int .i64 0, .int .i64 0, .int .i64 0, .slice none 0 0, .slice none 0 0] 42))); clear hb)))
      go_ret
      exact ⟨ret_bool (by rw [HE.out]; rfl), T3.out.below⟩
  · have C1 := Lib.hid (HG.recN (HX.out _ T0.out.below) a b hx h1)
    have C2 : Hid (∀ X, Below W.heap.size W X → Calls Tryz.prog 24 #[gptr g, .agg #[.int .i64 c, .int .i64 d]] X (GivesAny rs (c, d) X)) := Lib.hid fun X hb => rec_any HG (HX.out X hb) c d hy
    rw [decide_eq_false h1, Bool.false_and, Bool.false_and] at HE
    unfold GivesAny at C2
    obtain ⟨n2, hn2⟩ : ∃ n, n = (batG rs (c, d)).length := ⟨_, rfl⟩
    rw [← hn2] at C2
    clear h HG hx hy h1 HN hn2
    go_enter Tryz.func12, Tryz.ntmps12
    go_wp2_with (first
      | (go_at_call 24; ((with_reducible refine C1.out.mono ?_); rintro E w1 ⟨rfl, hb⟩; have T1 := Lib.hid (T0.out.on hb); have T2 := Lib.hid (T1.out.on (Cmd.below_one w1 (.cells #[.int .i64 0, .int .i64 0, .int .i64 0, .slice none 0 0, .slice none 0 0] 42))); have C3 := Lib.hid (C2.out _ T2.out.below); obtain ⟨d0, d1, d2, d3⟩ := T2.out.four; clear hb))
      | (go_at_call 24; ((with_reducible refine C3.out.mono ?_); rintro E w2 ⟨a2, b2, q2, p1, n1, c1, p2, c2, ok, rfl, hr, hb⟩; have T3 := Lib.hid ((T2.out.on hb).on (Cmd.below_one w2 (.cells #[.int .i64 a2, .int .i64 b2, .int .i64 q2, .slice p1 n1 c1, .slice p2 n2 c2] 42))); clear hb hr)))
    go_ret
    exact ⟨ret_bool (by rw [HE.out]), T3.out.below⟩

/-! ### Writers -/
theorem logB_places (s : Text) (x : Idn) (cs : List Cmdn) : logB s x 0 cs = (places cs s).map fun j => (x, j) := by
  have : ∀ k, k ≤ cs.length → logB s x 0 (cs.take k) = (plc cs s k).map fun j => (x, j) := by
    intro k
    induction k with
    | zero => intro _; rfl
    | succ k ih =>
      intro hk
      have e : wrote s (layC.at cs k) = (decide ((layC.at cs k).2.1 = s) && wrt (layC.at cs k)) := rfl
      rw [logB_step (by omega), ih (by omega)]
      cases hb : (decide ((layC.at cs k).2.1 = s) && wrt (layC.at cs k)) with
      | true => rw [plc_yes hb, e, hb, if_pos rfl, List.map_append]; rfl
      | false => rw [plc_no hb, e, hb, if_neg (by decide), List.append_nil]
  have h := this cs.length (Nat.le_refl _)
  rw [List.take_length] at h
  exact h
/-- What Writers has gathered of the first ids. -/
def wrsG (rs : List Rcd) (s : Text) (xs : List Idn) : List Wr := xs.flatMap fun x => (places (batG rs x) s).map fun j => (x, j)
theorem wrs_snoc (rs : List Rcd) (s : Text) (xs : List Idn) (x : Idn) : wrsG rs s (xs ++ [x]) = wrsG rs s xs ++ (places (batG rs x) s).map fun j => (x, j) := by unfold wrsG; rw [List.flatMap_append]; simp
theorem wrs_log (rs : List Rcd) (s : Text) : ∀ xs : List Idn, logOf (itemsG rs xs) s = wrsG rs s xs
  | [] => rfl
  | x :: xs => by
    have ih := wrs_log rs s xs
    unfold wrsG
    rw [List.flatMap_cons]
    show _ = _ ++ wrsG rs s xs
    rw [← ih]
    by_cases hx : x ∈ idsG rs
    · have e1 : itemsG rs (x :: xs) = (x, (rcG rs x).2.2.2) :: itemsG rs xs := by unfold itemsG; rw [List.filter_cons, if_pos (decide_eq_true hx), List.map_cons]
      have e2 : batG rs x = (rcG rs x).2.2.2 := by unfold batG; rw [if_pos hx]
      rw [e1, e2, ← logB_places]; rfl
    · have e1 : itemsG rs (x :: xs) = itemsG rs xs := by unfold itemsG; rw [List.filter_cons, if_neg (by rw [decide_eq_false hx]; decide)]
      have e2 : batG rs x = [] := by unfold batG; rw [if_neg hx]
      rw [e1, e2]; rfl
theorem wrs_len {rs : List Rcd} (he : gErr rs = 0) (s : Text) : ∀ xs : List Idn, (wrsG rs s xs).length ≤ xs.length * 8
  | [] => Nat.zero_le _
  | x :: xs => by
    have ih := wrs_len he s xs
    unfold wrsG at ih ⊢
    rw [List.flatMap_cons, List.length_append, List.length_map, List.length_cons]
    have h1 : (places (batG rs x) s).length ≤ (batG rs x).length := plc_len (batG rs x) s (batG rs x).length
    have h2 := bat_eight he x
    omega
/-- What stands while one id's writers are gathered: its box, their places, what has been gathered. -/
structure WI (W : World) (bi : Nat) (x : Idn) (pv : Value) (ps : List Int) (o : Value) (ws : List Wr) (X : World) : Prop where
  below : Below W.heap.size W X
  box : X.heap[bi]? = some (.cells #[.int .i64 x.1, .int .i64 x.2] 32 (0, 0))
  ints : OwnI X W.heap.size pv ps
  own : wdW.Own 74 X W.heap.size o ws
theorem WI.on {W : World} {bi : Nat} {x : Idn} {pv o : Value} {ps : List Int} {ws : List Wr} {X Y : World} (h : WI W bi x pv ps o ws X) (hb : Below X.heap.size X Y) : WI W bi x pv ps o ws Y :=
  ⟨h.below.trans (hb.mono h.below.size), (hb.block _ (Array.getElem?_eq_some_iff.1 h.box).1).trans h.box, own_below h.ints hb, h.own.below hb⟩
theorem WI.snoc {W : World} {bi : Nat} {x : Idn} {pv o o' : Value} {ps : List Int} {ws ws' : List Wr} {X Y : World} (h : WI W bi x pv ps o ws X) (ho : wdW.Own 74 Y W.heap.size o' ws') (hg : X.grownBy Y o.ownBlock) : WI W bi x pv ps o' ws' Y :=
  ⟨Below.grown h.below hg h.below.size (fun k hk => (World.ownsRow.lt h.own k hk).1), (hg.block _ (Array.getElem?_eq_some_iff.1 h.box).1 (fun e => box_ne (xs := #[]) h.box h.own (by decide) e.symm)).trans h.box, World.ownsRow.kept h.ints hg (two_rows (by decide) h.ints h.own), ho⟩
set_option maxRecDepth 100000 in
set_option maxHeartbeats 16000000 in
theorem pwriters_any (HG : Graphs G) (h : G N g rs W) (v : Value) (xs : List Idn) (s : Text) (hr : RowAt W v xs) (hl : xs.length ≤ 1000) (hw : ∀ x ∈ xs, wfId x) : Calls Tryz.prog 15 #[gptr g, v, .string (str s)] W (layW.Gives (logOf (itemsG rs xs) s) W) := by
  have HN := HG.le h
  have HL := (HG.lot h).1
  have HE := (HG.lot h).2
  have HX : Hid (∀ X, Below W.heap.size W X → G N g rs X) := Lib.hid fun X hb => HG.on h (hb.mono HN)
  have CR : Hid (∀ a b, (a, b) ∈ xs → ∀ X, Below W.heap.size W X → Calls Tryz.prog 24 #[gptr g, .agg #[.int .i64 a, .int .i64 b]] X (GivesAny rs (a, b) X)) := Lib.hid fun a b hm X hb => rec_any HG (HX.out X hb) a b (hw _ hm)
  have CW : Hid (∀ (x : Idn) (u : Value) X, layC.Row X u (batG rs x) → Calls Tryz.prog 31 #[u, .string (str s)] X (GivesOwnI (places (batG rs x) s) X)) := Lib.hid fun x u X hc => bwrites_own u _ s X hc (by have := bat_few HL x; omega) (bat_wf HL x)
  have HLen : Hid (∀ ys : List Idn, (wrsG rs s ys).length ≤ ys.length * 8) := Lib.hid (wrs_len HE s)
  have HPl : Hid (∀ x, (places (batG rs x) s).length ≤ 1000) := Lib.hid fun x => by
    have h1 : (places (batG rs x) s).length ≤ (batG rs x).length := plc_len (batG rs x) s (batG rs x).length
    have h2 := bat_few HL x
    omega
  rw [wrs_log]
  obtain ⟨p, cap, rfl, h1, hd⟩ := Rec.RowAt.parts hr
  obtain ⟨n, hn⟩ : ∃ n, n = xs.length := ⟨_, rfl⟩
  have HT : Hid (wrsG rs s (xs.take n) = wrsG rs s xs) := Lib.hid (by rw [hn, List.take_length])
  rw [← hn] at h1 hd hl ⊢
  have HNn := Lib.hid hn
  generalize wrsG rs s xs = rr at HT ⊢
  clear h HG HN HL HE hw hr hn HX
  go_enter Tryz.func15, Tryz.ntmps15
  go_wp2_with fail
  go_loopw [7, 16] (fun o i wr => ∃ k : Nat, k ≤ n ∧ i = .int .i64 k ∧ Hid (Below W.heap.size W wr ∧ wdW.Own 74 wr W.heap.size o (wrsG rs s (xs.take k)))) (fun _ i _ => n - (intOf i).toNat)
  case atStart => exact ⟨0, Nat.zero_le _, rfl, Lib.hid ⟨Below.refl _ _, Wd.Own.void _ _ _⟩⟩
  case round =>
    obtain ⟨k, hk, rfl, HO⟩ := hrel
    have k0 : (0 : Int) ≤ k := by omega
    by_cases hkn : k < n
    · have kn : (k : Int) < n := by omega
      obtain ⟨B, off, rfl, HC⟩ := hd.resolve_left (by omega)
      have hkx : k < xs.length := by rw [← HNn.out]; exact hkn
      obtain ⟨⟨x1, x2⟩, hx⟩ : ∃ q, nth xs k = q := ⟨_, rfl⟩
      have c0 := (HC.out.on HO.out.1).fst k hkx
      have c1 := (HC.out.on HO.out.1).snd k hkx
      rw [hx] at c0 c1
      have hmem : (x1, x2) ∈ xs := by rw [← hx]; exact nth_memP hkx
      have HTK : Hid (wrsG rs s (xs.take (k + 1)) = wrsG rs s (xs.take k) ++ (places (batG rs (x1, x2)) s).map fun j => ((x1, x2), j)) := Lib.hid (by
        rw [← wrs_snoc]
        congr 1
        rw [List.take_succ_eq_append_getElem hkx]
        congr 2
        rw [← hx]; unfold nth; rw [List.getD_eq_getElem?_getD, List.getElem?_eq_getElem hkx]; rfl)
      have HLK : Hid ((wrsG rs s (xs.take k)).length ≤ 100000) := Lib.hid (by have h1 := HLen.out (xs.take k); rw [List.length_take] at h1; omega)
      have HPK := Lib.hid (HPl.out (x1, x2))
      have CRx := Lib.hid (CR.out x1 x2 hmem)
      unfold GivesAny at CRx
      have CWx := Lib.hid (CW.out (x1, x2))
      unfold GivesOwnI at CWx
      generalize wrsG rs s (xs.take k) = ws0 at HO HTK HLK
      generalize places (batG rs (x1, x2)) s = ps at HTK HPK CWx
      generalize batG rs (x1, x2) = bs at CRx CWx
      obtain ⟨m, hm⟩ : ∃ m, m = bs.length := ⟨_, rfl⟩
      rw [← hm] at CRx
      have HO1 := HO.out.2
      have HB1 := Lib.hid (Cmd.below_one wr (.cells #[.int .i64 x1, .int .i64 x2] 32))
      have W1 : Hid (WI W wr.heap.size (x1, x2) (.slice none 0 0) [] u7 ws0 (wr.alloc (.cells #[.int .i64 x1, .int .i64 x2] 32))) := Lib.hid ⟨HO.out.1.trans (HB1.out.mono HO.out.1.size), heap_alloc_new wr _, World.ownsRow_nil _ _ _ _, HO1.below HB1.out⟩
      obtain ⟨np, hnp⟩ : ∃ n, n = ps.length := ⟨_, rfl⟩
      have HNP := Lib.hid hnp
      have hnp1 : np ≤ 1000 := by have := HPK.out; omega
      have i0 := cell_row (i := 0) W1.out.box rfl
      have i1 := cell_row (i := 1) W1.out.box rfl
      generalize hbi : wr.heap.size = bi at W1 i0 i1
      clear hx hmem hkx hm hnp HO1 hd CR CW HPl
      go_wp2_with (first
        | (go_at_call 24; ((with_reducible refine (CRx.out _ W1.out.below).mono ?_); rintro E w2 ⟨a1, b1, q1, p1, n1, d1, p2, d2, ok, rfl, hr, hb⟩; have B2 := Lib.hid (Cmd.below_one w2 (.cells #[.int .i64 a1, .int .i64 b1, .int .i64 q1, .slice p1 n1 d1, .slice p2 m d2] 42)); have R2 := Lib.hid (hr.on B2.out); have W2 := Lib.hid ((W1.out.on hb).on B2.out); have N2 := heap_alloc_new w2 (.cells #[.int .i64 a1, .int .i64 b1, .int .i64 q1, .slice p1 n1 d1, .slice p2 m d2] 42); obtain ⟨f0, f1, f2, f3, f4⟩ := five_box N2; have C3 := Lib.hid (CWx.out _ _ R2.out); clear hb hr N2))
        | (go_at_call 31; ((with_reducible refine C3.out.mono ?_); rintro E w3 ⟨pv, rfl, ho, hb⟩; obtain ⟨p3, d3, rfl⟩ := own_shape ho; rw [← HNP.out] at ho ⊢; have W3' := Lib.hid (W2.out.on hb); have W3 : Hid (WI W bi (x1, x2) (.slice p3 np d3) ps u7 ws0 w3) := Lib.hid ⟨W3'.out.below, W3'.out.box, own_mono (by rw [HNP.out] at ho ⊢; exact ho) W2.out.below.size, W3'.out.own⟩; clear hb ho)))
      go_loopw [7, 31] (fun o j wr => ∃ t : Nat, t ≤ np ∧ j = .int .i64 t ∧ Hid (WI W bi (x1, x2) (.slice p3 np d3) ps o (ws0 ++ (ps.take t).map fun j => ((x1, x2), j)) wr)) (fun _ j _ => np - (intOf j).toNat)
      case atStart => exact ⟨0, Nat.zero_le _, rfl, Lib.hid (by show WI _ _ _ _ _ _ (_ ++ []) _; rw [List.append_nil]; exact W3.out)⟩
      case round =>
        clear W3
        obtain ⟨t, ht, rfl, HI⟩ := hrel
        have t0 : (0 : Int) ≤ t := by omega
        by_cases htn : t < np
        · have tn : (t : Int) < np := by omega
          have htx : t < ps.length := by rw [← HNP.out]; exact htn
          have hrow := rowI (zs := ps) HI.out.ints
          obtain ⟨p', c', e', -, hdp⟩ := hrow.parts
          have ep : p3 = p' := by injection e'
          subst ep
          clear e'
          obtain ⟨B3, o3, rfl, I3⟩ := hdp.resolve_left (by omega)
          obtain ⟨j, hj⟩ : ∃ j, layI.at ps t = j := ⟨_, rfl⟩
          have a1 := cellI I3.out htx hj
          have i0 := cell_row (i := 0) HI.out.box rfl
          have i1 := cell_row (i := 1) HI.out.box rfl
          have HTT : Hid ((ps.take (t + 1)).map (fun j => (((x1, x2) : Idn), j)) = (ps.take t).map (fun j => (((x1, x2) : Idn), j)) ++ [((x1, x2), j)]) := Lib.hid (by rw [layI.take htx, List.map_append, hj]; rfl)
          have B4 := Lib.hid (Cmd.below_one wr (.cells #[.int .i64 x1, .int .i64 x2, .int .i64 j] 74))
          have W4 := Lib.hid (HI.out.on B4.out)
          have HA := Lib.hid (grow_wd wtW (wr.alloc (.cells #[.int .i64 x1, .int .i64 x2, .int .i64 j] 74)) 46 W.heap.size u7 _ W4.out.own W4.out.below.size wr.heap.size ((x1, x2), j) #[.int .i64 x1, .int .i64 x2, .int .i64 j] rfl (heap_alloc_new wr _) (by rw [List.length_append, List.length_map, List.length_take]; have := HLK.out; omega))
          clear hj htx hrow hdp I3
          go_wp2_with (at_builtin; refine wp_app rfl _ _ 46 rfl _ _ rfl rfl HA.out ?_; intro v8 w8 HV8)
          go_roundw
          case rel => exact ⟨t + 1, by omega, by go_num, Lib.hid (by rw [HTT.out, ← List.append_assoc]; exact W4.out.snoc HV8.out.1 HV8.out.2.1)⟩
          case measure => simp [intOf]; omega
        · obtain rfl : t = np := by omega
          have tn : ¬ (t : Int) < t := by omega
          have HEnd := HI.out.own
          rw [HNP.out, List.take_length, ← HTK.out] at HEnd
          have HEn := Lib.hid HEnd
          clear HEnd
          go_wp2_with fail
          go_roundw
          case rel => exact ⟨k + 1, by omega, by go_num, Lib.hid ⟨HI.out.below, HEn.out⟩⟩
          case measure => simp [intOf]; omega
    · obtain rfl : k = n := by omega
      have kn : ¬ (k : Int) < k := by omega
      clear hd
      go_wp2_with fail
      go_ret
      exact ⟨_, rfl, by rw [← HT.out]; exact Wd.Own.row HO.out.2, HO.out.1⟩
end
end Go.Proofs.YtomidcbpnaajeaaGreat.Pre
