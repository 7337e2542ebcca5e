/- What the developers' take gives (layer 15, edges): a record put in, or what is wrong. Conditions: those in each statement. -/
import Derived.Test.YtnekajpoheipiaaGreatGrbA
namespace Go.Proofs.YtnekajpoheipiaaGreat.Gra
open Go.RowKit Cmd Bat Ids Rec Wid Mpg Go.Maps
set_option linter.unusedVariables false
set_option linter.unusedSimpArgs false

theorem grown_two {a b c : World} {r : Nat} (h : a.grownBy b (some r)) (k : b.grownBy c (some r)) : a.grownBy c (some r) :=
  ⟨k.os.trans h.os, k.tape.trans h.tape, k.output.trans h.output, Nat.le_trans h.size k.size, fun i hi hr => (k.block i (Nat.lt_of_lt_of_le hi h.size) hr).trans (h.block i hi hr)⟩
theorem grown_low {w w' : World} (r : Nat) (hb : Below w.heap.size w w') : w.grownBy w' (some r) := ⟨hb.os, hb.tape, hb.output, hb.size, fun k hk _ => hb.block k hk⟩
theorem grown_below {w w' : World} {r B : Nat} (h : w.grownBy w' (some r)) (h1 : B ≤ r) (h2 : B ≤ w.heap.size) : Below B w w' := ⟨h.os, h.tape, h.output, h.size, fun k hk => h.block k (by omega) (fun e => by cases e; omega)⟩
/-- A map of records has one more. -/
theorem Rf.put {W W' : World} {rs : List Rcd} {f : Idn → Option Value} (R : Rf W rs f) (k : Keeps W W') {x : Rcd} {v : Value} (hv : RecV W' x v) (hn : x.1 ∉ idsG rs) : Rf W' (rs ++ [x]) (setF f x.1 (some v)) := by
  refine ⟨fun y => ?_, fun r hr => ?_⟩
  · rw [idsG_snoc, List.mem_append, List.mem_singleton]
    by_cases e : y = x.1
    · subst e; rw [setF_same]; simp
    · rw [setF_other f _ e, R.has y]; simp [e]
  · rcases List.mem_append.1 hr with h | h
    · obtain ⟨u, e, hu⟩ := R.val r h
      have hne : r.1 ≠ x.1 := fun e2 => hn (by rw [← e2]; exact List.mem_map.2 ⟨r, h, rfl⟩)
      exact ⟨u, by rw [setF_other f _ hne]; exact e, hu.keep k⟩
    · rw [List.mem_singleton] at h
      subst h
      exact ⟨v, setF_same _ _ _, hv⟩
/-- The two boxes of take's call. -/
structure TBox (W : World) (m : Option Nat) (a b q : Int) (p : Option Addr) (n c : Nat) (p' : Option Addr) (n' c' : Nat) (X : World) : Prop where
  ix : X.heap[W.heap.size]? = some (.cells #[.map m] 50 (0, 0))
  rc : X.heap[W.heap.size + 1]? = some (.cells #[.int .i64 a, .int .i64 b, .int .i64 q, .slice p n c, .slice p' n' c'] 45 (0, 0))
  below : Below W.heap.size W X
  lt : W.heap.size + 1 < X.heap.size
section
variable {W : World} {m : Option Nat} {a b q : Int} {p : Option Addr} {n c : Nat} {p' : Option Addr} {n' c' : Nat}
theorem TBox.start : TBox W m a b q p n c p' n' c' ((W.alloc (.cells #[.map m] 50)).alloc (.cells #[.int .i64 a, .int .i64 b, .int .i64 q, .slice p n c, .slice p' n' c'] 45)) := by
  have h := heap_alloc_new (W.alloc (.cells #[.map m] 50)) (.cells #[.int .i64 a, .int .i64 b, .int .i64 q, .slice p n c, .slice p' n' c'] 45)
  rw [World.size_alloc] at h
  exact ⟨(Below.heap_alloc _ _ _ (by simp)).trans (heap_alloc_new W _), h, (Cmd.below_one _ _).trans ((Cmd.below_one _ _).mono (by simp)), by simp⟩
theorem TBox.on {X Y : World} (h : TBox W m a b q p n c p' n' c' X) (hb : Below X.heap.size X Y) : TBox W m a b q p n c p' n' c' Y :=
  ⟨(hb.block _ (by have := h.lt; omega)).trans h.ix, (hb.block _ h.lt).trans h.rc, h.below.trans (hb.mono h.below.size), Nat.lt_of_lt_of_le h.lt hb.size⟩
theorem TBox.five {X : World} (h : TBox W m a b q p n c p' n' c' X) : X.cell? ⟨W.heap.size, 0, none⟩ = some (.map m) ∧ X.cell? ⟨W.heap.size + 1, 0, none⟩ = some (.int .i64 a) ∧ X.cell? ⟨W.heap.size + 1, 1, none⟩ = some (.int .i64 b) ∧ X.cell? ⟨W.heap.size + 1, 2, none⟩ = some (.int .i64 q) ∧ X.cell? ⟨W.heap.size + 1, 3, none⟩ = some (.slice p n c) ∧ X.cell? ⟨W.heap.size + 1, 4, none⟩ = some (.slice p' n' c') :=
  ⟨cell_row (i := 0) h.ix rfl, cell_row (i := 0) h.rc rfl, cell_row (i := 1) h.rc rfl, cell_row (i := 2) h.rc rfl, cell_row (i := 3) h.rc rfl, cell_row (i := 4) h.rc rfl⟩
end
/-- What take leaves where the record is put in. -/
def TakenIs (mr : Nat) (N : Nat) (rs : List Rcd) (x : Rcd) (W : World) (E : Ending) (W' : World) : Prop :=
  E = .returned (.int .i64 0) ∧ W.grownBy W' (some mr) ∧ ∃ f', MapG kyI W' mr (N + 1) f' ∧ Rf W' (rs ++ [x]) f'
set_option maxRecDepth 100000 in
theorem take_bad (W : World) (mr : Nat) (a b q : Int) (p : Option Addr) (c : Nat) (p' : Option Addr) (c' : Nat) (ds : List Idn) (cs : List Cmdn) (hd : RowAt W (.slice p ds.length c) ds) (hc : layC.Row W (.slice p' cs.length c') cs) (hw : wfG ((a, b), q, ds, cs)) (he : oneErr ((a, b), q, ds, cs) ≠ 0) : Calls Tryz.prog 20 #[.agg #[.map (some mr)], .agg #[.int .i64 a, .int .i64 b, .int .i64 q, .slice p ds.length c, .slice p' cs.length c']] W (RetBelow (.int .i64 (oneErr ((a, b), q, ds, cs))) W) := by
  have T0 := Lib.hid (TBox.start (W := W) (m := some mr) (a := a) (b := b) (q := q) (p := p) (n := ds.length) (c := c) (p' := p') (n' := cs.length) (c' := c'))
  have CC := Lib.hid (check_r a b q _ _ ds cs _ (hd.on T0.out.below) (hc.on T0.out.below) hw.batch)
  obtain ⟨e, hee⟩ : ∃ e, e = oneErr ((a, b), q, ds, cs) := ⟨_, rfl⟩
  have hee2 : rErr a b q ds cs = e := hee.symm
  rw [hee2] at CC
  rw [← hee] at he ⊢
  have he2 : (e != 0) = true := by simp [he]
  obtain ⟨n, hn⟩ : ∃ n, n = ds.length := ⟨_, rfl⟩
  obtain ⟨n', hn'⟩ : ∃ n, n = cs.length := ⟨_, rfl⟩
  rw [← hn, ← hn'] at T0 CC ⊢
  clear hee hee2 hn hn' hd hc hw
  obtain ⟨d0, d1, d2, d3, d4, d5⟩ := T0.out.five
  go_enter Tryz.func20, Tryz.ntmps20
  go_wp2_with (first
    | (go_at_call 39; (with_reducible refine CC.out.mono ?_); rintro E w1 ⟨rfl, hb⟩; have B1 := Lib.hid (T0.out.below.trans (hb.mono T0.out.below.size)); clear hb))
  go_ret
  exact ⟨rfl, B1.out⟩
set_option maxRecDepth 100000 in
theorem take_dup (W : World) (mr N : Nat) (rs : List Rcd) (f : Idn → Option Value) (M : MapG kyI W mr N f) (R : Rf W rs f) (a b q : Int) (p : Option Addr) (c : Nat) (p' : Option Addr) (c' : Nat) (ds : List Idn) (cs : List Cmdn) (hd : RowAt W (.slice p ds.length c) ds) (hc : layC.Row W (.slice p' cs.length c') cs) (hw : wfG ((a, b), q, ds, cs)) (he : oneErr ((a, b), q, ds, cs) = 0) (hm : (a, b) ∈ idsG rs) : Calls Tryz.prog 20 #[.agg #[.map (some mr)], .agg #[.int .i64 a, .int .i64 b, .int .i64 q, .slice p ds.length c, .slice p' cs.length c']] W (RetBelow (.int .i64 16) W) := by
  have T0 := Lib.hid (TBox.start (W := W) (m := some mr) (a := a) (b := b) (q := q) (p := p) (n := ds.length) (c := c) (p' := p') (n' := cs.length) (c' := c'))
  have CC := Lib.hid (check_r a b q _ _ ds cs _ (hd.on T0.out.below) (hc.on T0.out.below) hw.batch)
  have hee2 : rErr a b q ds cs = 0 := he
  rw [hee2] at CC
  have HA := Lib.hid (fun W' (hb : Below W.heap.size W W') => ixhas_any W' mr N rs f (M.on hb) (R.keep (keeps_below hb)) a b hw.id)
  rw [decide_eq_true hm] at HA
  obtain ⟨n, hn⟩ : ∃ n, n = ds.length := ⟨_, rfl⟩
  obtain ⟨n', hn'⟩ : ∃ n, n = cs.length := ⟨_, rfl⟩
  rw [← hn, ← hn'] at T0 CC ⊢
  clear hee2 hn hn' M R hd hc hw he hm
  obtain ⟨d0, d1, d2, d3, d4, d5⟩ := T0.out.five
  go_enter Tryz.func20, Tryz.ntmps20
  go_wp2_with (first
    | (go_at_call 39; (with_reducible refine CC.out.mono ?_); rintro E w1 ⟨rfl, hb⟩; have T1 := Lib.hid (T0.out.on hb); obtain ⟨x0, x1, x2, x3, x4, x5⟩ := T1.out.five; have A1 := Lib.hid (HA.out w1 T1.out.below); clear hb)
    | (go_at_call 40; (with_reducible refine A1.out.mono ?_); rintro E w2 ⟨rfl, hb⟩; have B2 := Lib.hid (T1.out.on hb); clear hb))
  go_ret
  exact ⟨rfl, B2.out.below⟩
set_option maxRecDepth 100000 in
set_option maxHeartbeats 4000000 in
theorem take_ok (W : World) (mr N : Nat) (rs : List Rcd) (f : Idn → Option Value) (M : MapG kyI W mr N f) (R : Rf W rs f) (a b q : Int) (p : Option Addr) (c : Nat) (p' : Option Addr) (c' : Nat) (ds : List Idn) (cs : List Cmdn) (hd : RowAt W (.slice p ds.length c) ds) (hc : layC.Row W (.slice p' cs.length c') cs) (hw : wfG ((a, b), q, ds, cs)) (hl : ds.length ≤ 1000) (hl' : cs.length ≤ 1000) (he : oneErr ((a, b), q, ds, cs) = 0) (hm : (a, b) ∉ idsG rs) (hN : N ≤ 1000000) : Calls Tryz.prog 20 #[.agg #[.map (some mr)], .agg #[.int .i64 a, .int .i64 b, .int .i64 q, .slice p ds.length c, .slice p' cs.length c']] W (TakenIs mr N rs ((a, b), q, ds, cs) W) := by
  have T0 := Lib.hid (TBox.start (W := W) (m := some mr) (a := a) (b := b) (q := q) (p := p) (n := ds.length) (c := c) (p' := p') (n' := cs.length) (c' := c'))
  have CC := Lib.hid (check_r a b q _ _ ds cs _ (hd.on T0.out.below) (hc.on T0.out.below) hw.batch)
  have hee2 : rErr a b q ds cs = 0 := he
  rw [hee2] at CC
  have HA := Lib.hid (fun W' (hb : Below W.heap.size W W') => ixhas_any W' mr N rs f (M.on hb) (R.keep (keeps_below hb)) a b hw.id)
  rw [decide_eq_false hm] at HA
  have CP := Lib.hid (fun W' (hb : Below W.heap.size W W') => copy_any a b q _ _ ds cs W' (hd.on hb) (hc.on hb) (by omega) (by omega) hw.batch)
  have ST : Hid (∀ W' g h, Below W.heap.size W W' → W'.heap[g]? = some (.cells (flat ds).toArray 25 (0, 0)) → W'.heap[h]? = some (.cells (flatC cs).toArray 85 (0, 0)) →
      ∃ W2, (Instr.mapUpdate 48 (.map (some mr)) (.agg #[.int .i64 a, .int .i64 b]) (.agg #[.int .i64 a, .int .i64 b, .int .i64 q, .slice (some ⟨g, 0, none⟩) ds.length ds.length, .slice (some ⟨h, 0, none⟩) cs.length cs.length])).run Tryz.prog W' = .ok () W2 ∧ Hid (W.grownBy W2 (some mr) ∧ ∃ f', MapG kyI W2 mr (N + 1) f' ∧ Rf W2 (rs ++ [((a, b), q, ds, cs)]) f')) := Lib.hid fun W' g h hb hg hh => by
    obtain ⟨W2, h1, h2, h3⟩ := (M.on hb).store Tryz.underlying48 hN (x := (a, b)) hw.id (.agg #[.int .i64 a, .int .i64 b, .int .i64 q, .slice (some ⟨g, 0, none⟩) ds.length ds.length, .slice (some ⟨h, 0, none⟩) cs.length cs.length])
    have kk := keeps_turn h3
    exact ⟨W2, h1, Lib.hid ⟨grown_two (grown_low mr hb) h3.grown, _, h2, (R.keep (keeps_below hb)).put kk (x := ((a, b), q, ds, cs)) ⟨g, h, rfl, kk _ _ _ hg, kk _ _ _ hh⟩ hm⟩⟩
  obtain ⟨n, hn⟩ : ∃ n, n = ds.length := ⟨_, rfl⟩
  obtain ⟨n', hn'⟩ : ∃ n, n = cs.length := ⟨_, rfl⟩
  unfold GivesRec at CP
  rw [← hn, ← hn'] at T0 CC CP ST ⊢
  clear hee2 hn hn' M R hd hc hw he hm hl hl' hN
  obtain ⟨d0, d1, d2, d3, d4, d5⟩ := T0.out.five
  go_enter Tryz.func20, Tryz.ntmps20
  go_wp2_with (first
    | (go_at_call 39; (with_reducible refine CC.out.mono ?_); rintro E w1 ⟨rfl, hb⟩; have T1 := Lib.hid (T0.out.on hb); obtain ⟨x0, x1, x2, x3, x4, x5⟩ := T1.out.five; have A1 := Lib.hid (HA.out w1 T1.out.below); clear hb)
    | (go_at_call 40; (with_reducible refine A1.out.mono ?_); rintro E w2 ⟨rfl, hb⟩; have T2 := Lib.hid (T1.out.on hb); have T3 : Hid (TBox W (some mr) a b q p n c p' n' c' w2.drew) := Lib.hid (T2.out.on (Below.refl _ _).drew); obtain ⟨y0, y1, y2, y3, y4, y5⟩ := T3.out.five; have P2 := Lib.hid (CP.out w2.drew T3.out.below); clear hb)
    | fail)
  go_region_with (first
    | (go_at_call 41; (with_reducible refine P2.out.mono ?_); rintro E w3 ⟨g, h, rfl, hI⟩; have T4 := Lib.hid (T3.out.on hI.below); obtain ⟨z0, z1, z2, z3, z4, z5⟩ := T4.out.five; obtain ⟨w4, hst, HR⟩ := ST.out w3 g h T4.out.below hI.row hI.row'; clear hI))
  all_goals
    go_wp2
    go_ret
    exact ⟨rfl, HR.out⟩
end Go.Proofs.YtnekajpoheipiaaGreat.Gra

/- What the developers' New gives (layer 15, edges), of what its link gives. Conditions: those in each statement. -/
namespace Go.Proofs.YtnekajpoheipiaaGreat.Gra
open Go.RowKit Cmd Bat Ids Rec Wid Mpg Go.Maps
set_option linter.unusedVariables false
set_option linter.unusedSimpArgs false

/-- What link leaves. -/
def GivesLink (mu : Nat) (rs : List Rcd) (W : World) (E : Ending) (W' : World) : Prop := E = .returned (.tuple #[]) ∧ W.grownBy W' (some mu) ∧ ∃ h, MapG kyI W' mu 16000 h ∧ Uf W' 0 (gUsers rs) h
abbrev LinkIs : Prop := ∀ (g mr mu N : Nat) (f : Idn → Option Value) (rs : List Rcd) (W : World), W.heap[g]? = some (.cells #[.map (some mr), .map (some mu)] 53 (0, 0)) → MapG kyI W mr N f → MapG kyI W mu 0 (fun _ => none) → Rf W rs f → Lot rs → gErr rs = 0 → mr ≠ mu →
  Calls Tryz.prog 21 #[gptr g] W (GivesLink mu rs W)
theorem take_err (W : World) (mr N : Nat) (rs : List Rcd) (f : Idn → Option Value) (M : MapG kyI W mr N f) (R : Rf W rs f) (a b q : Int) (p : Option Addr) (c : Nat) (p' : Option Addr) (c' : Nat) (ds : List Idn) (cs : List Cmdn) (hd : RowAt W (.slice p ds.length c) ds) (hc : layC.Row W (.slice p' cs.length c') cs) (hw : wfG ((a, b), q, ds, cs)) {e : Int} (he : (if oneErr ((a, b), q, ds, cs) ≠ 0 then oneErr ((a, b), q, ds, cs) else if (a, b) ∈ idsG rs then 16 else 0) = e) (hne : e ≠ 0) :
    Calls Tryz.prog 20 #[.agg #[.map (some mr)], .agg #[.int .i64 a, .int .i64 b, .int .i64 q, .slice p ds.length c, .slice p' cs.length c']] W (RetBelow (.int .i64 e) W) := by
  by_cases h1 : oneErr ((a, b), q, ds, cs) ≠ 0
  · rw [if_pos h1] at he
    subst he
    exact take_bad W mr a b q p c p' c' ds cs hd hc hw h1
  · rw [if_neg h1] at he
    have h1 : oneErr ((a, b), q, ds, cs) = 0 := Classical.byContradiction h1
    by_cases h2 : (a, b) ∈ idsG rs
    · rw [if_pos h2] at he
      subst he
      exact take_dup W mr N rs f M R a b q p c p' c' ds cs hd hc hw h1 h2
    · rw [if_neg h2] at he; exact absurd he.symm hne
/-- The three blocks that New makes. -/
structure NBox (W : World) (X : World) : Prop where
  blk : X.heap[W.heap.size + 1 + 1]? = some (.cells #[.map (some W.heap.size), .map (some (W.heap.size + 1))] 53 (0, 0))
  below : Below W.heap.size W X
  lt : W.heap.size + 1 + 1 < X.heap.size
theorem NBox.start (W : World) : NBox W (((W.alloc (.map #[] 0)).alloc (.map #[] 0)).alloc (.cells #[.map (some W.heap.size), .map (some (W.heap.size + 1))] 53)) := by
  have h := heap_alloc_new ((W.alloc (.map #[] 0)).alloc (.map #[] 0)) (.cells #[.map (some W.heap.size), .map (some (W.heap.size + 1))] 53)
  have e : ((W.alloc (.map #[] 0)).alloc (.map #[] 0)).heap.size = W.heap.size + 1 + 1 := by simp
  rw [e] at h
  exact ⟨h, Rec.below_three _ _ _ _, by simp⟩
theorem keeps_map {W W' : World} {b N : Nat} {f : Idn → Option Value} (M : MapG kyI W b N f) (hg : W.grownBy W' (some b)) : Keeps W W' := fun k cur t hk => by
  obtain ⟨D, ks, ⟨es, c, hb, r⟩, hr⟩ := M
  refine (hg.block k (Array.getElem?_eq_some_iff.1 hk).1 (fun e => ?_)).trans hk
  cases e
  rw [hb] at hk; cases hk
theorem map_far {W W' : World} {b m N : Nat} {f : Idn → Option Value} (M : MapG kyI W b N f) (hg : W.grownBy W' (some m)) (hne : b ≠ m) : MapG kyI W' b N f := M.block (hg.block b M.lt (fun e => hne (Option.some.inj e)))
theorem box_five (W : World) (a b q : Int) (v u : Value) : (W.alloc (.cells #[.int .i64 a, .int .i64 b, .int .i64 q, v, u] 45)).drew.heap[W.heap.size]? = some (.cells #[.int .i64 a, .int .i64 b, .int .i64 q, v, u] 45 (0, 0)) := heap_alloc_new W _
set_option maxRecDepth 100000 in
set_option maxHeartbeats 8000000 in
theorem new_run (LK : LinkIs) (v : Value) (rs : List Rcd) (W : World) (hrow : layG.Row W v rs) (L : Lot rs) : Calls Tryz.prog 8 #[v] W (GivesG GrP rs W) := by
  obtain ⟨p, cap, rfl, hlen, hdata⟩ := hrow.parts
  have hmm := @run_makeMap Tryz.prog
  have N0 := Lib.hid (NBox.start W)
  have M0 := Lib.hid (((MapG.made (Y := kyI) W).alloc (.map #[] 0)).alloc (.cells #[.map (some W.heap.size), .map (some (W.heap.size + 1))] 53))
  have U0 := (MapG.made (Y := kyI) (W.alloc (.map #[] 0))).alloc (.cells #[.map (some W.heap.size), .map (some (W.heap.size + 1))] 53)
  rw [World.size_alloc] at U0
  have HU0 := Lib.hid U0
  have HL := Lib.hid L
  have HLK := Lib.hid LK
  obtain ⟨n, hn⟩ : ∃ n, n = rs.length := ⟨_, rfl⟩
  have HN := Lib.hid hn
  have hn2 : n ≤ 1000 := by rw [hn]; exact L.few
  rw [← hn] at hlen hdata ⊢
  clear U0 L LK hn hrow hlen
  go_enter Tryz.func8, Tryz.ntmps8
  go_wp2
  obtain ⟨W0, hW0⟩ : ∃ W0, W0 = ((W.alloc (.map #[] 0)).alloc (.map #[] 0)).alloc (.cells #[.map (some W.heap.size), .map (some (W.heap.size + 1))] 53) := ⟨_, rfl⟩
  rw [← hW0] at N0 M0 HU0 ⊢
  clear hW0 hmm
  go_loopw [15] (fun i wr => ∃ (k : Nat) (f : Idn → Option Value), k ≤ n ∧ i = .int .i64 k ∧ Hid (MapG kyI wr W.heap.size k f) ∧ Hid (Rf wr (rs.take k) f) ∧ Hid (W0.grownBy wr (some W.heap.size)) ∧ Hid (∀ j, j < k → atErr rs j = 0)) (fun i _ => n - (intOf i).toNat)
  case atStart =>
    exact ⟨0, _, Nat.zero_le _, rfl, M0, Lib.hid ⟨fun x => by simp [idsG], fun r hr => by simp at hr⟩, Lib.hid (grown_low _ (Below.refl _ _)), Lib.hid (fun j hj => absurd hj (Nat.not_lt_zero _))⟩
  case round =>
    obtain ⟨k, f, hk, rfl, hM, hR, hG, hE⟩ := hrel
    have hbW : Below W.heap.size W wr := N0.out.below.trans (grown_below hG.out (Nat.le_refl _) N0.out.below.size)
    have HBW := Lib.hid hbW
    by_cases hkn : k < n
    · obtain ⟨B, off, rfl, HD⟩ : ∃ B off, p = some ⟨B, off, none⟩ ∧ Hid (layG.In W B off rs) := hdata.resolve_left (by omega)
      have hkr : k < rs.length := by rw [← HN.out]; exact hkn
      have hin := HD.out.on hbW
      obtain ⟨⟨⟨a, b⟩, q, ds, cs⟩, hx⟩ : ∃ x, layG.at rs k = x := ⟨_, rfl⟩
      obtain ⟨p1, c1, p2, c2, RA, -, -⟩ := rcdAt hin hkr hx
      obtain ⟨e0, e1, e2, e3, e4⟩ := RA.five
      have hmem : ((a, b), q, ds, cs) ∈ rs := by rw [← hx]; exact layG.at_mem hkr
      have hwf := HL.out.wf _ hmem
      have hlow := HL.out.low _ hmem
      obtain ⟨X, hX⟩ : ∃ X, X = (wr.alloc (.cells #[.int .i64 a, .int .i64 b, .int .i64 q, .slice p1 ds.length c1, .slice p2 cs.length c2] 45)).drew := ⟨_, rfl⟩
      have hbX : Below wr.heap.size wr X := by rw [hX]; exact (Cmd.below_one _ _).drew
      have hbk := (hbX.block _ (Nat.lt_of_lt_of_le N0.out.lt hG.out.size)).trans ((hG.out.block _ N0.out.lt (fun e => by have := Option.some.inj e; omega)).trans N0.out.blk)
      have g0 : X.cell? ⟨W.heap.size + 1 + 1, 0, none⟩ = some (.map (some W.heap.size)) := cell_row (i := 0) hbk rfl
      have t5 := box_five wr a b q (.slice p1 ds.length c1) (.slice p2 cs.length c2)
      rw [← hX] at t5
      have x0 : X.cell? ⟨wr.heap.size, 0, none⟩ = some (.int .i64 a) := cell_row (i := 0) t5 rfl
      have x1 : X.cell? ⟨wr.heap.size, 1, none⟩ = some (.int .i64 b) := cell_row (i := 1) t5 rfl
      have x2 : X.cell? ⟨wr.heap.size, 2, none⟩ = some (.int .i64 q) := cell_row (i := 2) t5 rfl
      have x3 : X.cell? ⟨wr.heap.size, 3, none⟩ = some (.slice p1 ds.length c1) := cell_row (i := 3) t5 rfl
      have x4 : X.cell? ⟨wr.heap.size, 4, none⟩ = some (.slice p2 cs.length c2) := cell_row (i := 4) t5 rfl
      have k0 : (0 : Int) ≤ k := by omega
      have kn : (k : Int) < n := by omega
      have HGX : Hid (W0.grownBy X (some W.heap.size)) := Lib.hid (grown_two hG.out (grown_low _ hbX))
      have MX := hM.out.on hbX
      have RX := hR.out.keep (keeps_below hbX)
      have hd := RA.rd.on hbX
      have hc := RA.rc.on hbX
      have hatk : atErr rs k = if oneErr ((a, b), q, ds, cs) ≠ 0 then oneErr ((a, b), q, ds, cs) else if (a, b) ∈ idsG (rs.take k) then 16 else 0 := by unfold atErr; rw [hx]
      have HBX : Hid (Below W.heap.size W X) := Lib.hid (hbW.trans (hbX.mono hbW.size))
      by_cases he : atErr rs k = 0
      · have h1 : oneErr ((a, b), q, ds, cs) = 0 := Classical.byContradiction fun h => by rw [hatk, if_pos h] at he; exact h he
        have h2 : (a, b) ∉ idsG (rs.take k) := fun h => by rw [hatk, if_neg (by rw [h1]; simp), if_pos h] at he; cases he
        have CT := Lib.hid (take_ok X W.heap.size k (rs.take k) f MX RX a b q p1 c1 p2 c2 ds cs hd hc hwf hlow.1 hlow.2 h1 h2 (by omega))
        have HT : Hid (rs.take (k + 1) = rs.take k ++ [((a, b), q, ds, cs)]) := Lib.hid (by rw [layG.take hkr, hx])
        have HE2 : Hid (∀ j, j < k + 1 → atErr rs j = 0) := Lib.hid fun j hj => by
          rcases Nat.lt_succ_iff_lt_or_eq.1 hj with h | h
          · exact hE.out j h
          · rw [h]; exact he
        obtain ⟨n1, hn1⟩ : ∃ n1, n1 = ds.length := ⟨_, rfl⟩
        obtain ⟨n2, hn2'⟩ : ∃ n2, n2 = cs.length := ⟨_, rfl⟩
        rw [← hn1, ← hn2'] at CT hX
        rw [← hn1] at e3 x3
        rw [← hn2'] at e4 x4
        clear MX RX hd hc hatk he h1 h2 hwf hlow hmem RA hin hx hkr hbX hbk t5 hM hR hE hn1 hn2' hbW hdata
        subst hX
        go_wp2
        go_region_with (first
          | (go_at_call 20; (with_reducible refine CT.out.mono ?_); rintro E w1 ⟨rfl, hg1, f1, m1, r1⟩; have HG1 := Lib.hid (grown_two HGX.out hg1); have HM1 := Lib.hid m1; have HR1 := Lib.hid r1; clear hg1 m1 r1))
        all_goals
          go_wp2
          go_roundw
          case rel => exact ⟨k + 1, f1, by omega, by go_num, HM1, Lib.hid (by rw [HT.out]; exact HR1.out), HG1, HE2⟩
          case measure => simp [intOf]; omega
      · have CT := Lib.hid (take_err X W.heap.size k (rs.take k) f MX RX a b q p1 c1 p2 c2 ds cs hd hc hwf hatk.symm he)
        obtain ⟨e, hee⟩ : ∃ e, e = atErr rs k := ⟨_, rfl⟩
        have HGE : Hid (gErr rs = e) := Lib.hid (by rw [hee]; exact gerr_first hkr he hE.out)
        rw [← hee] at CT he
        have he2 : (e != 0) = true := by simp [he]
        have HNE := Lib.hid he
        obtain ⟨n1, hn1⟩ : ∃ n1, n1 = ds.length := ⟨_, rfl⟩
        obtain ⟨n2, hn2'⟩ : ∃ n2, n2 = cs.length := ⟨_, rfl⟩
        rw [← hn1, ← hn2'] at CT hX
        rw [← hn1] at e3 x3
        rw [← hn2'] at e4 x4
        clear MX RX hd hc hatk hee hwf hlow hmem RA hin hx hkr hbX hbk t5 hM hR hE hn1 hn2' hbW hdata
        subst hX
        go_wp2
        go_region_with (first
          | (go_at_call 20; (with_reducible refine CT.out.mono ?_); rintro E w1 ⟨rfl, hb⟩; have HB1 := Lib.hid (HBX.out.trans (hb.mono HBX.out.size)); clear hb))
        all_goals
          go_wp2
          go_ret2
          exact ⟨HB1.out, .inr ⟨by rw [HGE.out]; exact HNE.out, by rw [HGE.out]; rfl⟩⟩
    · have kn : ¬ (k : Int) < n := by omega
      have hke : k = n := by omega
      have hT : rs.take k = rs := List.take_of_length_le (by rw [← HN.out]; omega)
      have hgE : gErr rs = 0 := gerr_none fun j hj => hE.out j (by rw [← HN.out] at hj; omega)
      have hblk := (hG.out.block _ N0.out.lt (fun e => by have := Option.some.inj e; omega)).trans N0.out.blk
      have hR2 := hR.out
      rw [hT] at hR2
      have hU := map_far HU0.out hG.out (by omega)
      have LC := Lib.hid (HLK.out (W.heap.size + 1 + 1) W.heap.size (W.heap.size + 1) k f rs wr hblk hM.out hU hR2 HL.out hgE (by omega))
      have HF := Lib.hid (And.intro hblk (And.intro hU (And.intro hR2 hgE)))
      clear hT hgE hblk hR2 hU hdata hbW hke
      go_wp2_with (go_at_call 21; (with_reducible refine LC.out.mono ?_); rintro E w1 ⟨rfl, hg1, h, m1, u1⟩; have HG1 := Lib.hid hg1; have HM1 := Lib.hid m1; have HU1 := Lib.hid u1; clear hg1 m1 u1)
      go_ret2
      obtain ⟨hblk, hU, hR2, hgE⟩ := HF.out
      refine ⟨HBW.out.trans (grown_below HG1.out (by omega) HBW.out.size), .inl ⟨hgE, _, rfl, Nat.le_refl _, w1, W.heap.size, W.heap.size + 1, f, h, ⟨HL.out, hgE, ?_, ?_, HM1.out, hR2.keep (keeps_map hU HG1.out), HU1.out⟩, Nat.le_refl _, Below.refl _ _⟩⟩
      · exact keeps_map hU HG1.out _ _ _ hblk
      · exact (map_far hM.out HG1.out (by omega)).mono (by omega)
end Go.Proofs.YtnekajpoheipiaaGreat.Gra
