/- The developers' graph in memory (layer 15, edges): what lies where, and what turns it not; held, Len, has, get. Conditions: those in each statement. -/
import Derived.Test.YtnekajpoheipiaaGreatGraG
import Derived.Test.YtnekajpoheipiaaGreatRecD
import Derived.Test.YtnekajpoheipiaaGreatMapE
import Derived.Test.YtnekajpoheipiaaGreatIdO
import Derived.Deep.RegionWith
import Derived.Maps.OwnSet
namespace Go.Proofs.YtnekajpoheipiaaGreat.Gra
open Go.RowKit Cmd Bat Ids Rec Wid Mpg
set_option linter.unusedVariables false
set_option linter.unusedSimpArgs false

/-! ### What lies where -/
/-- Rows of cells are as they were. -/
def Keeps (W W' : World) : Prop := ∀ (k : Nat) (cur : Array Value) (t : TypeId), W.heap[k]? = some (.cells cur t (0, 0)) → W'.heap[k]? = some (.cells cur t (0, 0))
theorem keeps_below {W W' : World} (h : Below W.heap.size W W') : Keeps W W' := fun k cur t hk => (h.block k (Array.getElem?_eq_some_iff.1 hk).1).trans hk
theorem keeps_turn {W W' : World} {b : Nat} (h : W.mapTurned W' b) : Keeps W W' := fun k cur t hk => by
  have hg := h.grown
  obtain ⟨es, c, es', c', hb, rfl⟩ := h
  refine (hg.block k (Array.getElem?_eq_some_iff.1 hk).1 (fun e => ?_)).trans hk
  cases e
  rw [hb] at hk; cases hk
/-- A record as a map has it: its lists each in a block of its own. -/
def RecV (W : World) (x : Rcd) (v : Value) : Prop := ∃ G H, v = .agg #[.int .i64 x.1.1, .int .i64 x.1.2, .int .i64 x.2.1, .slice (some ⟨G, 0, none⟩) x.2.2.1.length x.2.2.1.length, .slice (some ⟨H, 0, none⟩) x.2.2.2.length x.2.2.2.length] ∧
  W.heap[G]? = some (.cells (flat x.2.2.1).toArray 25 (0, 0)) ∧ W.heap[H]? = some (.cells (flatC x.2.2.2).toArray 85 (0, 0))
theorem RecV.keep {W W' : World} {x : Rcd} {v : Value} (h : RecV W x v) (k : Keeps W W') : RecV W' x v := by
  obtain ⟨G, H, e, h1, h2⟩ := h
  exact ⟨G, H, e, k _ _ _ h1, k _ _ _ h2⟩
/-- A map that has just some records. -/
structure Rf (W : World) (rs : List Rcd) (f : Idn → Option Value) : Prop where
  has : ∀ x, (f x).isSome = true ↔ x ∈ idsG rs
  val : ∀ r ∈ rs, ∃ v, f r.1 = some v ∧ RecV W r v
theorem Rf.keep {W W' : World} {rs : List Rcd} {f : Idn → Option Value} (h : Rf W rs f) (k : Keeps W W') : Rf W' rs f := ⟨h.has, fun r hr => by obtain ⟨v, e, hv⟩ := h.val r hr; exact ⟨v, e, hv.keep k⟩⟩
/-- A map that has lists of ids, each in a row of its own. -/
structure Uf (W : World) (base : Nat) (U : Idn → List Idn) (h : Idn → Option Value) : Prop where
  no : ∀ x, h x = none → U x = []
  yes : ∀ x v, h x = some v → Owns W base v (U x) ∧ U x ≠ []
  apart : ∀ x y u v k, h x = some u → h y = some v → u.ownBlock = some k → v.ownBlock = some k → x = y
theorem owns_keep {W W' : World} {base : Nat} {v : Value} {zs : List Idn} (h : Owns W base v zs) (k : Keeps W W') : Owns W' base v zs :=
  ⟨h.1, h.2.imp id fun ⟨g, cap, cur, h1, h2, h3, h4⟩ => ⟨g, cap, cur, h1, h2, k _ _ _ h3, h4⟩⟩
theorem Uf.keep {W W' : World} {base : Nat} {U : Idn → List Idn} {h : Idn → Option Value} (u : Uf W base U h) (k : Keeps W W') : Uf W' base U h := ⟨u.no, fun x v hv => ⟨owns_keep (u.yes x v hv).1 k, (u.yes x v hv).2⟩, u.apart⟩
/-- A graph at g: its maps lie at mr and mu. -/
structure GrM (g : Nat) (rs : List Rcd) (W : World) (mr mu : Nat) (f h : Idn → Option Value) : Prop where
  lot : Lot rs
  err : gErr rs = 0
  blk : W.heap[g]? = some (.cells #[.map (some mr), .map (some mu)] 53 (0, 0))
  rm : MapG kyI W mr 1000 f
  um : MapG kyI W mu 16000 h
  rf : Rf W rs f
  uf : Uf W 0 (gUsers rs) h
theorem GrM.on {g : Nat} {rs : List Rcd} {W W' : World} {mr mu : Nat} {f h : Idn → Option Value} (G : GrM g rs W mr mu f h) (hb : Below W.heap.size W W') : GrM g rs W' mr mu f h :=
  ⟨G.lot, G.err, keeps_below hb _ _ _ G.blk, G.rm.on hb, G.um.on hb, G.rf.keep (keeps_below hb), G.uf.keep (keeps_below hb)⟩
/-- A graph of just these records, under N. -/
def GrP (N g : Nat) (rs : List Rcd) (W : World) : Prop := N ≤ W.heap.size ∧ ∃ W0 mr mu f h, GrM g rs W0 mr mu f h ∧ W0.heap.size ≤ N ∧ Below W0.heap.size W0 W
theorem GrP.at {N g : Nat} {rs : List Rcd} {W : World} (G : GrP N g rs W) : ∃ mr mu f h, GrM g rs W mr mu f h := by
  obtain ⟨_, W0, mr, mu, f, h, G, _, hb⟩ := G
  exact ⟨mr, mu, f, h, G.on hb⟩
theorem GrP.on {N g : Nat} {rs : List Rcd} {W W' : World} (G : GrP N g rs W) (hb : Below N W W') : GrP N g rs W' := by
  obtain ⟨hN, W0, mr, mu, f, h, G, h0, hb0⟩ := G
  exact ⟨Nat.le_trans hN hb.size, W0, mr, mu, f, h, G, h0, hb0.trans (hb.mono h0)⟩

/-! ### held -/
abbrev grV (mr mu : Option Nat) : Value := .agg #[.map mr, .map mu]
theorem held_one {fn : Func} {p : Tmp} (h : fn.results = #[.cell p 53]) (tmps : Array Value) {W : World} {g : Nat} {mr mu : Option Nat} (hp : tmps.getD p undef = .pointer (some ⟨g, 0, none⟩))
    (hg : W.heap[g]? = some (.cells #[.map mr, .map mu] 53 (0, 0))) : (results fn tmps).run Tryz.prog W = .ok (grV mr mu) W := by
  have e0 := cell_row (i := 0) hg rfl
  have e1 := cell_row (i := 1) hg rfl
  clear hg
  rw [results_cell_one h, hp]
  go_simp
theorem held_any (g mr mu : Nat) (W : World) (hb : W.heap[g]? = some (.cells #[.map (some mr), .map (some mu)] 53 (0, 0))) : Calls Tryz.prog 50 #[gptr g] W (RetBelow (grV (some mr) (some mu)) W) := by
  have e0 := cell_row (i := 0) hb rfl
  have e1 := cell_row (i := 1) hb rfl
  have hlt : g < W.heap.size := (Array.getElem?_eq_some_iff.1 hb).1
  clear hb
  go_enter Tryz.func50, Tryz.ntmps50
  go_wp2
  refine bodyPost_ret (v := grV (some mr) (some mu)) ?_ rfl ?_
  · exact held_one rfl _ rfl (heap_alloc_new W _)
  exact ⟨rfl, Cmd.below_one _ _⟩
theorem held_nil (W : World) : Calls Tryz.prog 50 #[.pointer none] W (RetBelow (grV none none) W) := by
  go_enter Tryz.func50, Tryz.ntmps50
  go_wp2
  refine bodyPost_ret (v := grV none none) ?_ rfl ?_
  · exact held_one rfl _ rfl (heap_alloc_new W _)
  exact ⟨rfl, Cmd.below_one _ _⟩
end Go.Proofs.YtnekajpoheipiaaGreat.Gra

/- What the developers' has, get, Len, Has, Record, Users, Edges give (layer 15, edges), of a graph and of nil. Conditions: those in each statement. -/
namespace Go.Proofs.YtnekajpoheipiaaGreat.Gra
open Go.RowKit Cmd Bat Ids Rec Wid Mpg Go.Maps
set_option linter.unusedVariables false
set_option linter.unusedSimpArgs false

theorem zero_rec (w : World) : (zeroValue 45).run Tryz.prog w = .ok zeroRec w := by kernel_rfl
theorem Rf.form {W : World} {rs : List Rcd} {f : Idn → Option Value} (h : Rf W rs f) (x : Idn) : ∃ (a b q : Int) (p : Option Addr) (n c : Nat) (p' : Option Addr) (n' c' : Nat), (f x).getD zeroRec = .agg #[.int .i64 a, .int .i64 b, .int .i64 q, .slice p n c, .slice p' n' c'] := by
  cases hf : f x with
  | none => exact ⟨0, 0, 0, none, 0, 0, none, 0, 0, rfl⟩
  | some v =>
    have hm := (h.has x).1 (by rw [hf]; rfl)
    obtain ⟨r, hr, rfl⟩ := List.mem_map.1 hm
    obtain ⟨v', e, G, H, e2, -, -⟩ := h.val r hr
    rw [hf] at e
    cases e
    exact ⟨_, _, _, _, _, _, _, _, _, e2⟩
theorem ixhas_any (W : World) (mr N : Nat) (rs : List Rcd) (f : Idn → Option Value) (M : MapG kyI W mr N f) (R : Rf W rs f) (a b : Int) (hw : wfId (a, b)) :
    Calls Tryz.prog 40 #[.agg #[.map (some mr)], .agg #[.int .i64 a, .int .i64 b]] W (RetBelow (.bool (decide ((a, b) ∈ idsG rs))) W) := by
  obtain ⟨x0, x1, x2, p, n, c, p', n', c', hv⟩ := R.form (a, b)
  have hs : (f (a, b)).isSome = decide ((a, b) ∈ idsG rs) := by
    cases hd : decide ((a, b) ∈ idsG rs) with
    | true => exact (R.has _).2 (of_decide_eq_true hd)
    | false =>
      cases hf : (f (a, b)).isSome with
      | false => rfl
      | true => exact absurd ((R.has _).1 hf) (of_decide_eq_false hd)
  have HL : Hid (∀ W', Below W.heap.size W W' → (Instr.lookup 48 (.map (some mr)) (.agg #[.int .i64 a, .int .i64 b]) true).run Tryz.prog W' = .ok (.tuple #[.agg #[.int .i64 x0, .int .i64 x1, .int .i64 x2, .slice p n c, .slice p' n' c'], .bool (decide ((a, b) ∈ idsG rs))]) W') := Lib.hid fun W' hb => by
    have := (M.on hb).look_ok Tryz.underlying48 zero_rec (x := (a, b)) hw
    rw [hv, hs] at this
    exact this
  have L1 := HL.out ((W.alloc (.cells #[.map (some mr)] 50)).alloc (.cells #[.int .i64 a, .int .i64 b] 25)) ((Cmd.below_one _ _).trans ((Cmd.below_one _ _).mono (by simp)))
  clear HL hv hs M R
  obtain ⟨t, ht⟩ : ∃ t, t = decide ((a, b) ∈ idsG rs) := ⟨_, rfl⟩
  rw [← ht] at L1 ⊢
  clear ht
  go_enter Tryz.func40, Tryz.ntmps40
  go_wp2
  go_ret
  exact ⟨rfl, Rec.below_three _ _ _ _⟩
theorem has_nil (W : World) (a b : Int) : Calls Tryz.prog 40 #[.agg #[.map none], .agg #[.int .i64 a, .int .i64 b]] W (RetBelow (.bool false) W) := by
  have L1 : ∀ W', (Instr.lookup 48 (.map none) (.agg #[.int .i64 a, .int .i64 b]) true).run Tryz.prog W' = .ok (.tuple #[zeroRec, .bool false]) W' := fun W' => by kernel_rfl
  go_enter Tryz.func40, Tryz.ntmps40
  go_wp2
  go_ret
  exact ⟨rfl, Rec.below_three _ _ _ _⟩
/-! ### get -/
theorem owns_block {W : World} {base g : Nat} {ds : List Idn} (h : W.heap[g]? = some (.cells (flat ds).toArray 25 (0, 0))) (hb : base ≤ g) (hl : ds.length ≤ 100000) : Owns W base (.slice (some ⟨g, 0, none⟩) ds.length ds.length) ds := by
  refine ⟨by rw [flat_len], .inr ⟨g, ds.length, (flat ds).toArray, rfl, hb, h, Nat.le_refl _, by unfold maxLen; omega, by simp [flat_len], ?_⟩⟩
  rw [← flat_len]; simp
theorem rec_two {fn : Func} {p q : Tmp} (h : fn.results = #[.cell p 45, .tmp q]) (tmps : Array Value) {W : World} {g : Nat} {a b c : Int} {p1 p2 : Option Addr} {n1 c1 n2 c2 : Nat} {v : Value} (hp : tmps.getD p undef = .pointer (some ⟨g, 0, none⟩)) (hq : tmps.getD q undef = v)
    (hg : W.heap[g]? = some (.cells #[.int .i64 a, .int .i64 b, .int .i64 c, .slice p1 n1 c1, .slice p2 n2 c2] 45 (0, 0))) :
    (results fn tmps).run Tryz.prog W = .ok (.tuple #[.agg #[.int .i64 a, .int .i64 b, .int .i64 c, .slice p1 n1 c1, .slice p2 n2 c2], v]) W := by
  have e0 := cell_row (i := 0) hg rfl
  have e1 := cell_row (i := 1) hg rfl
  have e2 := cell_row (i := 2) hg rfl
  have e3 := cell_row (i := 3) hg rfl
  have e4 := cell_row (i := 4) hg rfl
  clear hg
  rw [results_cell_tmp h, hp, hq]
  go_simp
theorem third_row (W : World) (o1 o2 o3 o4 : Obj) : ((((W.alloc o1).alloc o2).alloc o3).alloc o4).heap[W.heap.size + 1 + 1]? = some o3 := by
  have h := heap_alloc_new ((W.alloc o1).alloc o2) o3
  have e : ((W.alloc o1).alloc o2).heap.size = W.heap.size + 1 + 1 := by simp
  rw [e] at h
  exact (Below.heap_alloc _ o4 _ (by simp)).trans h
theorem below_four (W : World) (o1 o2 o3 o4 : Obj) : Below W.heap.size W ((((W.alloc o1).alloc o2).alloc o3).alloc o4) := (Rec.below_three _ _ _ _).trans ((Cmd.below_one _ _).mono (by simp; omega))
theorem get_no (W : World) (m : Option Nat) (a b : Int) (hL : ∀ W', Below W.heap.size W W' → (Instr.lookup 48 (.map m) (.agg #[.int .i64 a, .int .i64 b]) true).run Tryz.prog W' = .ok (.tuple #[zeroRec, .bool false]) W') :
    Calls Tryz.prog 68 #[.agg #[.map m], .agg #[.int .i64 a, .int .i64 b]] W (RetBelow (.tuple #[zeroRec, .bool false]) W) := by
  have L1 := hL (((W.alloc (.cells #[.map m] 50)).alloc (.cells #[.int .i64 a, .int .i64 b] 25)).alloc (.cells #[.int .i64 0, .int .i64 0, .int .i64 0, .slice none 0 0, .slice none 0 0] 45)) (Rec.below_three _ _ _ _)
  clear hL
  have T3 := Lib.hid (third_row W (.cells #[.map m] 50) (.cells #[.int .i64 a, .int .i64 b] 25) (.cells #[.int .i64 0, .int .i64 0, .int .i64 0, .slice none 0 0, .slice none 0 0] 45) (.cells #[.int .i64 0, .int .i64 0, .int .i64 0, .slice none 0 0, .slice none 0 0] 45))
  have B3 := Lib.hid (below_four W (.cells #[.map m] 50) (.cells #[.int .i64 a, .int .i64 b] 25) (.cells #[.int .i64 0, .int .i64 0, .int .i64 0, .slice none 0 0, .slice none 0 0] 45) (.cells #[.int .i64 0, .int .i64 0, .int .i64 0, .slice none 0 0, .slice none 0 0] 45))
  go_enter Tryz.func68, Tryz.ntmps68
  go_wp2
  refine bodyPost_ret (v := .tuple #[zeroRec, .bool false]) ?_ rfl ?_
  · exact rec_two rfl _ rfl rfl T3.out
  exact ⟨rfl, B3.out⟩
def GivesGet (a b q : Int) (ds : List Idn) (cs : List Cmdn) (w : World) (E : Ending) (w' : World) : Prop :=
  ∃ g h, E = .returned (.tuple #[.agg #[.int .i64 a, .int .i64 b, .int .i64 q, .slice (some ⟨g, 0, none⟩) ds.length ds.length, .slice (some ⟨h, 0, none⟩) cs.length cs.length], .bool true]) ∧ CopyIs ds cs w g h w'
theorem get_yes (W : World) (m a b q : Int) (mr : Nat) (G H : Nat) (ds : List Idn) (cs : List Cmdn) (hl : ds.length ≤ 1000) (hl' : cs.length ≤ 1000) (hw : ∀ x ∈ cs, wfC x)
    (hG : W.heap[G]? = some (.cells (flat ds).toArray 25 (0, 0))) (hH : W.heap[H]? = some (.cells (flatC cs).toArray 85 (0, 0)))
    (hL : ∀ W', Below W.heap.size W W' → (Instr.lookup 48 (.map (some mr)) (.agg #[.int .i64 a, .int .i64 b]) true).run Tryz.prog W' = .ok (.tuple #[.agg #[.int .i64 a, .int .i64 b, .int .i64 q, .slice (some ⟨G, 0, none⟩) ds.length ds.length, .slice (some ⟨H, 0, none⟩) cs.length cs.length], .bool true]) W') :
    Calls Tryz.prog 68 #[.agg #[.map (some mr)], .agg #[.int .i64 a, .int .i64 b]] W (GivesGet a b q ds cs W) := by
  have L1 := hL (((W.alloc (.cells #[.map (some mr)] 50)).alloc (.cells #[.int .i64 a, .int .i64 b] 25)).alloc (.cells #[.int .i64 0, .int .i64 0, .int .i64 0, .slice none 0 0, .slice none 0 0] 45)) (Rec.below_three _ _ _ _)
  obtain ⟨n, hn⟩ : ∃ n, n = ds.length := ⟨_, rfl⟩
  obtain ⟨k, hk⟩ : ∃ k, k = cs.length := ⟨_, rfl⟩
  have HC : Hid (∀ W', Below W.heap.size W W' → Calls Tryz.prog 41 #[.agg #[.int .i64 a, .int .i64 b, .int .i64 q, .slice (some ⟨G, 0, none⟩) n n, .slice (some ⟨H, 0, none⟩) k k]] W' (GivesRec a b q ds cs W')) := Lib.hid fun W' hb => by
    rw [hn, hk]
    exact copy_any a b q _ _ ds cs W' ((rowI hG (by omega)).on hb) ((rowC hH (by omega)).on hb) (by omega) (by omega) hw
  have C1 := Lib.hid (HC.out _ (below_four W (.cells #[.map (some mr)] 50) (.cells #[.int .i64 a, .int .i64 b] 25) (.cells #[.int .i64 0, .int .i64 0, .int .i64 0, .slice none 0 0, .slice none 0 0] 45) (.cells #[.int .i64 a, .int .i64 b, .int .i64 q, .slice (some ⟨G, 0, none⟩) n n, .slice (some ⟨H, 0, none⟩) k k] 45)))
  have T3 := Lib.hid (third_row W (.cells #[.map (some mr)] 50) (.cells #[.int .i64 a, .int .i64 b] 25) (.cells #[.int .i64 0, .int .i64 0, .int .i64 0, .slice none 0 0, .slice none 0 0] 45) (.cells #[.int .i64 a, .int .i64 b, .int .i64 q, .slice (some ⟨G, 0, none⟩) n n, .slice (some ⟨H, 0, none⟩) k k] 45))
  have B3 := Lib.hid (below_four W (.cells #[.map (some mr)] 50) (.cells #[.int .i64 a, .int .i64 b] 25) (.cells #[.int .i64 0, .int .i64 0, .int .i64 0, .slice none 0 0, .slice none 0 0] 45) (.cells #[.int .i64 a, .int .i64 b, .int .i64 q, .slice (some ⟨G, 0, none⟩) n n, .slice (some ⟨H, 0, none⟩) k k] 45))
  have HN := Lib.hid (And.intro hn hk)
  rw [← hn, ← hk] at L1
  clear hL hG hH hw HC hn hk
  go_enter Tryz.func68, Tryz.ntmps68
  go_wp2_with (first
    | (go_at_call 41; go_loud ((with_reducible refine C1.out.mono ?_); rintro E W1 ⟨g, h, rfl, hI⟩; have HI := Lib.hid hI; have T4 := (hI.below.block _ (by simp)).trans T3.out; have f0 := free_row (i := 0) T4; have f1 := free_row (i := 1) T4; have f2 := free_row (i := 2) T4; have f3 := free_row (i := 3) T4; have f4 := free_row (i := 4) T4; have c0 := cell_row (i := 0) T4 rfl; have c1 := cell_row (i := 1) T4 rfl; have c2 := cell_row (i := 2) T4 rfl; have c3 := cell_row (i := 3) T4 rfl; have c4 := cell_row (i := 4) T4 rfl; have HT4 := Lib.hid T4; clear hI T4)))
  refine bodyPost_ret (v := .tuple #[.agg #[.int .i64 a, .int .i64 b, .int .i64 q, .slice (some ⟨g, 0, none⟩) ds.length ds.length, .slice (some ⟨h, 0, none⟩) cs.length cs.length], .bool true]) ?_ rfl ?_
  · exact rec_two rfl _ rfl rfl (put5_row HT4.out a b q (.slice (some ⟨g, 0, none⟩) ds.length ds.length) (.slice (some ⟨h, 0, none⟩) cs.length cs.length))
  have hs : W.heap.size + 1 + 1 + 1 + 1 ≤ g ∧ W.heap.size + 1 + 1 + 1 + 1 ≤ h := by have h1 := HI.out.own; have h2 := HI.out.own'; simp at h1 h2; exact ⟨h1, h2⟩
  refine ⟨g, h, rfl, (put5_far W1 (by omega) a b q (.slice (some ⟨g, 0, none⟩) ds.length ds.length) (.slice (some ⟨h, 0, none⟩) cs.length cs.length)).trans HI.out.row, (put5_far W1 (by omega) a b q (.slice (some ⟨g, 0, none⟩) ds.length ds.length) (.slice (some ⟨h, 0, none⟩) cs.length cs.length)).trans HI.out.row', by omega, by omega, ?_⟩
  exact below_put5 (B3.out.trans (HI.out.below.mono (by simp; omega))) (by omega) a b q (.slice (some ⟨g, 0, none⟩) ds.length ds.length) (.slice (some ⟨h, 0, none⟩) cs.length cs.length)
end Go.Proofs.YtnekajpoheipiaaGreat.Gra
