/- The developers' graph in memory (layer 15, edges): what lies where, and what turns it not; held, Len, has, get. Conditions: those in each statement. -/
import Derived.Test.YtomidcbpnaajeaaGreatGraG
import Derived.Test.YtomidcbpnaajeaaGreatRecD
import Derived.Test.YtomidcbpnaajeaaGreatMapG
import Derived.Test.YtomidcbpnaajeaaGreatIdO
import Derived.Deep.RegionWith
import Derived.Maps.OwnSet
import Derived.Test.YtomidcbpnaajeaaGreatItr
import Derived.Lib.SliceRun
import Derived.Deep.QuietTactic
import Derived.BigQuiet
namespace Go.Proofs.YtomidcbpnaajeaaGreat.Gra
open Go.RowKit Cmd Bat Ids Rec Wid Mpg
set_option linter.unusedVariables false
set_option linter.unusedSimpArgs false

/-! ### What lies where -/
/-- Rows of cells are as they were. -/
def Keeps (W W' : World) : Prop := ∀ (k : Nat) (cur : Array Value) (t : TypeId), W.heap[k]? = some (.cells cur t (0, 0)) → W'.heap[k]? = some (.cells cur t (0, 0))
theorem keeps_below {W W' : World} (h : Below W.heap.size W W') : Keeps W W' := fun k cur t hk => (h.block k (Array.getElem?_eq_some_iff.1 hk).1).trans hk
theorem keeps_turn {W W' : World} {b : Nat} (h : W.mapTurned W' b) : Keeps W W' := fun k cur t hk => by
  have hg := h.grown
  obtain ⟨es, c, es', c', hb, rfl⟩ := h
  refine (hg.block k (Array.getElem?_eq_some_iff.1 hk).1 (fun e => ?_)).trans hk
  cases e
  rw [hb] at hk; cases hk
/-- A record as a map has it: its lists each in a block of its own. -/
def RecV (W : World) (x : Rcd) (v : Value) : Prop := ∃ G H, v = .agg #[.int .i64 x.1.1, .int .i64 x.1.2, .int .i64 x.2.1, .slice (some ⟨G, 0, none⟩) x.2.2.1.length x.2.2.1.length, .slice (some ⟨H, 0, none⟩) x.2.2.2.length x.2.2.2.length] ∧
  W.heap[G]? = some (.cells (flat x.2.2.1).toArray 32 (0, 0)) ∧ W.heap[H]? = some (.cells (flatC x.2.2.2).toArray 55 (0, 0))
theorem RecV.keep {W W' : World} {x : Rcd} {v : Value} (h : RecV W x v) (k : Keeps W W') : RecV W' x v := by
  obtain ⟨G, H, e, h1, h2⟩ := h
  exact ⟨G, H, e, k _ _ _ h1, k _ _ _ h2⟩
/-- A map that has just some records. -/
structure Rf (W : World) (rs : List Rcd) (f : Idn → Option Value) : Prop where
  has : ∀ x, (f x).isSome = true ↔ x ∈ idsG rs
  val : ∀ r ∈ rs, ∃ v, f r.1 = some v ∧ RecV W r v
theorem Rf.keep {W W' : World} {rs : List Rcd} {f : Idn → Option Value} (h : Rf W rs f) (k : Keeps W W') : Rf W' rs f := ⟨h.has, fun r hr => by obtain ⟨v, e, hv⟩ := h.val r hr; exact ⟨v, e, hv.keep k⟩⟩
/-- A map that has lists of ids, each in a row of its own. -/
structure Uf (W : World) (base : Nat) (U : Idn → List Idn) (h : Idn → Option Value) : Prop where
  no : ∀ x, h x = none → U x = []
  yes : ∀ x v, h x = some v → Owns W base v (U x) ∧ U x ≠ []
  apart : ∀ x y u v k, h x = some u → h y = some v → u.ownBlock = some k → v.ownBlock = some k → x = y
theorem owns_keep {W W' : World} {base : Nat} {v : Value} {zs : List Idn} (h : Owns W base v zs) (k : Keeps W W') : Owns W' base v zs :=
  ⟨h.1, h.2.imp id fun ⟨g, cap, cur, h1, h2, h3, h4⟩ => ⟨g, cap, cur, h1, h2, k _ _ _ h3, h4⟩⟩
theorem Uf.keep {W W' : World} {base : Nat} {U : Idn → List Idn} {h : Idn → Option Value} (u : Uf W base U h) (k : Keeps W W') : Uf W' base U h := ⟨u.no, fun x v hv => ⟨owns_keep (u.yes x v hv).1 k, (u.yes x v hv).2⟩, u.apart⟩
/-- A graph at g: its maps lie at mr and mu. -/
structure GrM (g : Nat) (rs : List Rcd) (W : World) (mr mu : Nat) (f h : Idn → Option Value) : Prop where
  lot : Lot rs
  err : gErr rs = 0
  blk : W.heap[g]? = some (.cells #[.map (some mr), .map (some mu)] 61 (0, 0))
  rm : MapG kyI W mr 1000 f
  um : MapG kyI W mu 16000 h
  rf : Rf W rs f
  uf : Uf W 0 (gUsers rs) h
theorem GrM.on {g : Nat} {rs : List Rcd} {W W' : World} {mr mu : Nat} {f h : Idn → Option Value} (G : GrM g rs W mr mu f h) (hb : Below W.heap.size W W') : GrM g rs W' mr mu f h :=
  ⟨G.lot, G.err, keeps_below hb _ _ _ G.blk, G.rm.on hb, G.um.on hb, G.rf.keep (keeps_below hb), G.uf.keep (keeps_below hb)⟩
/-- A graph of just these records, under N. -/
def GrP (N g : Nat) (rs : List Rcd) (W : World) : Prop := N ≤ W.heap.size ∧ ∃ W0 mr mu f h, GrM g rs W0 mr mu f h ∧ W0.heap.size ≤ N ∧ Below W0.heap.size W0 W
theorem GrP.at {N g : Nat} {rs : List Rcd} {W : World} (G : GrP N g rs W) : ∃ mr mu f h, GrM g rs W mr mu f h := by
  obtain ⟨_, W0, mr, mu, f, h, G, _, hb⟩ := G
  exact ⟨mr, mu, f, h, G.on hb⟩
theorem GrP.on {N g : Nat} {rs : List Rcd} {W W' : World} (G : GrP N g rs W) (hb : Below N W W') : GrP N g rs W' := by
  obtain ⟨hN, W0, mr, mu, f, h, G, h0, hb0⟩ := G
  exact ⟨Nat.le_trans hN hb.size, W0, mr, mu, f, h, G, h0, hb0.trans (hb.mono h0)⟩

/-! ### held -/
abbrev grV (mr mu : Option Nat) : Value := .agg #[.map mr, .map mu]
theorem held_one {fn : Func} {p : Tmp} (h : fn.results = #[.cell p 61]) (tmps : Array Value) {W : World} {g : Nat} {mr mu : Option Nat} (hp : tmps.getD p undef = .pointer (some ⟨g, 0, none⟩))
    (hg : W.heap[g]? = some (.cells #[.map mr, .map mu] 61 (0, 0))) : (results fn tmps).run Tryz.prog W = .ok (grV mr mu) W := by
  have e0 := cell_row (i := 0) hg rfl
  have e1 := cell_row (i := 1) hg rfl
  clear hg
  rw [results_cell_one h, hp]
  go_simp
theorem held_any (g mr mu : Nat) (W : World) (hb : W.heap[g]? = some (.cells #[.map (some mr), .map (some mu)] 61 (0, 0))) : Calls Tryz.prog 46 #[gptr g] W (RetBelow (grV (some mr) (some mu)) W) := by
  have e0 := cell_row (i := 0) hb rfl
  have e1 := cell_row (i := 1) hb rfl
  have hlt : g < W.heap.size := (Array.getElem?_eq_some_iff.1 hb).1
  clear hb
  go_enter Tryz.func46, Tryz.ntmps46
  go_wp2
  refine bodyPost_ret (v := grV (some mr) (some mu)) ?_ rfl ?_
  · exact held_one rfl _ rfl (heap_alloc_new W _)
  exact ⟨rfl, Cmd.below_one _ _⟩
theorem held_nil (W : World) : Calls Tryz.prog 46 #[.pointer none] W (RetBelow (grV none none) W) := by
  go_enter Tryz.func46, Tryz.ntmps46
  go_wp2
  refine bodyPost_ret (v := grV none none) ?_ rfl ?_
  · exact held_one rfl _ rfl (heap_alloc_new W _)
  exact ⟨rfl, Cmd.below_one _ _⟩
end Go.Proofs.YtomidcbpnaajeaaGreat.Gra

/- What the developers' has, get, Len, Has, Record, Users, Edges give (layer 15, edges), of a graph and of nil. Conditions: those in each statement. -/
namespace Go.Proofs.YtomidcbpnaajeaaGreat.Gra
open Go.RowKit Cmd Bat Ids Rec Wid Mpg Go.Maps
set_option linter.unusedVariables false
set_option linter.unusedSimpArgs false

theorem zero_rec (w : World) : (zeroValue 42).run Tryz.prog w = .ok zeroRec w := by kernel_rfl
theorem Rf.form {W : World} {rs : List Rcd} {f : Idn → Option Value} (h : Rf W rs f) (x : Idn) : ∃ (a b q : Int) (p : Option Addr) (n c : Nat) (p' : Option Addr) (n' c' : Nat), (f x).getD zeroRec = .agg #[.int .i64 a, .int .i64 b, .int .i64 q, .slice p n c, .slice p' n' c'] := by
  cases hf : f x with
  | none => exact ⟨0, 0, 0, none, 0, 0, none, 0, 0, rfl⟩
  | some v =>
    have hm := (h.has x).1 (by rw [hf]; rfl)
    obtain ⟨r, hr, rfl⟩ := List.mem_map.1 hm
    obtain ⟨v', e, G, H, e2, -, -⟩ := h.val r hr
    rw [hf] at e
    cases e
    exact ⟨_, _, _, _, _, _, _, _, _, e2⟩
theorem ixhas_any (W : World) (mr N : Nat) (rs : List Rcd) (f : Idn → Option Value) (M : MapG kyI W mr N f) (R : Rf W rs f) (a b : Int) (hw : wfId (a, b)) :
    Calls Tryz.prog 43 #[.agg #[.map (some mr)], .agg #[.int .i64 a, .int .i64 b]] W (RetBelow (.bool (decide ((a, b) ∈ idsG rs))) W) := by
  obtain ⟨x0, x1, x2, p, n, c, p', n', c', hv⟩ := R.form (a, b)
  have hs : (f (a, b)).isSome = decide ((a, b) ∈ idsG rs) := by
    cases hd : decide ((a, b) ∈ idsG rs) with
    | true => exact (R.has _).2 (of_decide_eq_true hd)
    | false =>
      cases hf : (f (a, b)).isSome with
      | false => rfl
      | true => exact absurd ((R.has _).1 hf) (of_decide_eq_false hd)
  have HL : Hid (∀ W', Below W.heap.size W W' → (Instr.lookup 56 (.map (some mr)) (.agg #[.int .i64 a, .int .i64 b]) true).run Tryz.prog W' = .ok (.tuple #[.agg #[.int .i64 x0, .int .i64 x1, .int .i64 x2, .slice p n c, .slice p' n' c'], .bool (decide ((a, b) ∈ idsG rs))]) W') := Lib.hid fun W' hb => by
    have := (M.on hb).look_ok Tryz.underlying56 zero_rec (x := (a, b)) hw
    rw [hv, hs] at this
    exact this
  have L1 := HL.out ((W.alloc (.cells #[.map (some mr)] 58)).alloc (.cells #[.int .i64 a, .int .i64 b] 32)) ((Cmd.below_one _ _).trans ((Cmd.below_one _ _).mono (by simp)))
  clear HL hv hs M R
  obtain ⟨t, ht⟩ : ∃ t, t = decide ((a, b) ∈ idsG rs) := ⟨_, rfl⟩
  rw [← ht] at L1 ⊢
  clear ht
  go_enter Tryz.func43, Tryz.ntmps43
  go_wp2
  go_ret
  exact ⟨rfl, Rec.below_three _ _ _ _⟩
theorem has_nil (W : World) (a b : Int) : Calls Tryz.prog 43 #[.agg #[.map none], .agg #[.int .i64 a, .int .i64 b]] W (RetBelow (.bool false) W) := by
  have L1 : ∀ W', (Instr.lookup 56 (.map none) (.agg #[.int .i64 a, .int .i64 b]) true).run Tryz.prog W' = .ok (.tuple #[zeroRec, .bool false]) W' := fun W' => by kernel_rfl
  go_enter Tryz.func43, Tryz.ntmps43
  go_wp2
  go_ret
  exact ⟨rfl, Rec.below_three _ _ _ _⟩
/-! ### get -/
theorem owns_block {W : World} {base g : Nat} {ds : List Idn} (h : W.heap[g]? = some (.cells (flat ds).toArray 32 (0, 0))) (hb : base ≤ g) (hl : ds.length ≤ 100000) : Owns W base (.slice (some ⟨g, 0, none⟩) ds.length ds.length) ds := by
  refine ⟨by rw [flat_len], .inr ⟨g, ds.length, (flat ds).toArray, rfl, hb, h, Nat.le_refl _, by unfold maxLen; omega, by simp [flat_len], ?_⟩⟩
  rw [← flat_len]; simp
theorem rec_two {fn : Func} {p q : Tmp} (h : fn.results = #[.cell p 42, .tmp q]) (tmps : Array Value) {W : World} {g : Nat} {a b c : Int} {p1 p2 : Option Addr} {n1 c1 n2 c2 : Nat} {v : Value} (hp : tmps.getD p undef = .pointer (some ⟨g, 0, none⟩)) (hq : tmps.getD q undef = v)
    (hg : W.heap[g]? = some (.cells #[.int .i64 a, .int .i64 b, .int .i64 c, .slice p1 n1 c1, .slice p2 n2 c2] 42 (0, 0))) :
    (results fn tmps).run Tryz.prog W = .ok (.tuple #[.agg #[.int .i64 a, .int .i64 b, .int .i64 c, .slice p1 n1 c1, .slice p2 n2 c2], v]) W := by
  have e0 := cell_row (i := 0) hg rfl
  have e1 := cell_row (i := 1) hg rfl
  have e2 := cell_row (i := 2) hg rfl
  have e3 := cell_row (i := 3) hg rfl
  have e4 := cell_row (i := 4) hg rfl
  clear hg
  rw [results_cell_tmp h, hp, hq]
  go_simp
theorem third_row (W : World) (o1 o2 o3 o4 : Obj) : ((((W.alloc o1).alloc o2).alloc o3).alloc o4).heap[W.heap.size + 1 + 1]? = some o3 := by
  have h := heap_alloc_new ((W.alloc o1).alloc o2) o3
  have e : ((W.alloc o1).alloc o2).heap.size = W.heap.size + 1 + 1 := by simp
  rw [e] at h
  exact (Below.heap_alloc _ o4 _ (by simp)).trans h
theorem below_four (W : World) (o1 o2 o3 o4 : Obj) : Below W.heap.size W ((((W.alloc o1).alloc o2).alloc o3).alloc o4) := (Rec.below_three _ _ _ _).trans ((Cmd.below_one _ _).mono (by simp; omega))
theorem get_no (W : World) (m : Option Nat) (a b : Int) (hL : ∀ W', Below W.heap.size W W' → (Instr.lookup 56 (.map m) (.agg #[.int .i64 a, .int .i64 b]) true).run Tryz.prog W' = .ok (.tuple #[zeroRec, .bool false]) W') :
    Calls Tryz.prog 47 #[.agg #[.map m], .agg #[.int .i64 a, .int .i64 b]] W (RetBelow (.tuple #[zeroRec, .bool false]) W) := by
  have L1 := hL (((W.alloc (.cells #[.map m] 58)).alloc (.cells #[.int .i64 a, .int .i64 b] 32)).alloc (.cells #[.int .i64 0, .int .i64 0, .int .i64 0, .slice none 0 0, .slice none 0 0] 42)) (Rec.below_three _ _ _ _)
  clear hL
  have T3 := Lib.hid (third_row W (.cells #[.map m] 58) (.cells #[.int .i64 a, .int .i64 b] 32) (.cells #[.int .i64 0, .int .i64 0, .int .i64 0, .slice none 0 0, .slice none 0 0] 42) (.cells #[.int .i64 0, .int .i64 0, .int .i64 0, .slice none 0 0, .slice none 0 0] 42))
  have B3 := Lib.hid (below_four W (.cells #[.map m] 58) (.cells #[.int .i64 a, .int .i64 b] 32) (.cells #[.int .i64 0, .int .i64 0, .int .i64 0, .slice none 0 0, .slice none 0 0] 42) (.cells #[.int .i64 0, .int .i64 0, .int .i64 0, .slice none 0 0, .slice none 0 0] 42))
  go_enter Tryz.func47, Tryz.ntmps47
  go_wp2
  refine bodyPost_ret (v := .tuple #[zeroRec, .bool false]) ?_ rfl ?_
  · exact rec_two rfl _ rfl rfl T3.out
  exact ⟨rfl, B3.out⟩
def GivesGet (a b q : Int) (ds : List Idn) (cs : List Cmdn) (w : World) (E : Ending) (w' : World) : Prop :=
  ∃ g h, E = .returned (.tuple #[.agg #[.int .i64 a, .int .i64 b, .int .i64 q, .slice (some ⟨g, 0, none⟩) ds.length ds.length, .slice (some ⟨h, 0, none⟩) cs.length cs.length], .bool true]) ∧ CopyIs ds cs w g h w'
theorem get_yes (W : World) (m a b q : Int) (mr : Nat) (G H : Nat) (ds : List Idn) (cs : List Cmdn) (hl : ds.length ≤ 1000) (hl' : cs.length ≤ 1000) (hw : ∀ x ∈ cs, wfC x)
    (hG : W.heap[G]? = some (.cells (flat ds).toArray 32 (0, 0))) (hH : W.heap[H]? = some (.cells (flatC cs).toArray 55 (0, 0)))
    (hL : ∀ W', Below W.heap.size W W' → (Instr.lookup 56 (.map (some mr)) (.agg #[.int .i64 a, .int .i64 b]) true).run Tryz.prog W' = .ok (.tuple #[.agg #[.int .i64 a, .int .i64 b, .int .i64 q, .slice (some ⟨G, 0, none⟩) ds.length ds.length, .slice (some ⟨H, 0, none⟩) cs.length cs.length], .bool true]) W') :
    Calls Tryz.prog 47 #[.agg #[.map (some mr)], .agg #[.int .i64 a, .int .i64 b]] W (GivesGet a b q ds cs W) := by
  have L1 := hL (((W.alloc (.cells #[.map (some mr)] 58)).alloc (.cells #[.int .i64 a, .int .i64 b] 32)).alloc (.cells #[.int .i64 0, .int .i64 0, .int .i64 0, .slice none 0 0, .slice none 0 0] 42)) (Rec.below_three _ _ _ _)
  obtain ⟨n, hn⟩ : ∃ n, n = ds.length := ⟨_, rfl⟩
  obtain ⟨k, hk⟩ : ∃ k, k = cs.length := ⟨_, rfl⟩
  have HC : Hid (∀ W', Below W.heap.size W W' → Calls Tryz.prog 44 #[.agg #[.int .i64 a, .int .i64 b, .int .i64 q, .slice (some ⟨G, 0, none⟩) n n, .slice (some ⟨H, 0, none⟩) k k]] W' (GivesRec a b q ds cs W')) := Lib.hid fun W' hb => by
    rw [hn, hk]
    exact copy_any a b q _ _ ds cs W' ((rowI hG (by omega)).on hb) ((rowC hH (by omega)).on hb) (by omega) (by omega) hw
  have C1 := Lib.hid (HC.out _ (below_four W (.cells #[.map (some mr)] 58) (.cells #[.int .i64 a, .int .i64 b] 32) (.cells #[.int .i64 0, .int .i64 0, .int .i64 0, .slice none 0 0, .slice none 0 0] 42) (.cells #[.int .i64 a, .int .i64 b, .int .i64 q, .slice (some ⟨G, 0, none⟩) n n, .slice (some ⟨H, 0, none⟩) k k] 42)))
  have T3 := Lib.hid (third_row W (.cells #[.map (some mr)] 58) (.cells #[.int .i64 a, .int .i64 b] 32) (.cells #[.int .i64 0, .int .i64 0, .int .i64 0, .slice none 0 0, .slice none 0 0] 42) (.cells #[.int .i64 a, .int .i64 b, .int .i64 q, .slice (some ⟨G, 0, none⟩) n n, .slice (some ⟨H, 0, none⟩) k k] 42))
  have B3 := Lib.hid (below_four W (.cells #[.map (some mr)] 58) (.cells #[.int .i64 a, .int .i64 b] 32) (.cells #[.int .i64 0, .int .i64 0, .int .i64 0, .slice none 0 0, .slice none 0 0] 42) (.cells #[.int .i64 a, .int .i64 b, .int .i64 q, .slice (some ⟨G, 0, none⟩) n n, .slice (some ⟨H, 0, none⟩) k k] 42))
  have HN := Lib.hid (And.intro hn hk)
  rw [← hn, ← hk] at L1
  clear hL hG hH hw HC hn hk
  go_enter Tryz.func47, Tryz.ntmps47
  go_wp2_with (first
    | (go_at_call 44; go_loud ((with_reducible refine C1.out.mono ?_); rintro E W1 ⟨g, h, rfl, hI⟩; have HI := Lib.hid hI; have T4 := (hI.below.block _ (by simp)).trans T3.out; have f0 := free_row (i := 0) T4; have f1 := free_row (i := 1) T4; have f2 := free_row (i := 2) T4; have f3 := free_row (i := 3) T4; have f4 := free_row (i := 4) T4; have c0 := cell_row (i := 0) T4 rfl; have c1 := cell_row (i := 1) T4 rfl; have c2 := cell_row (i := 2) T4 rfl; have c3 := cell_row (i := 3) T4 rfl; have c4 := cell_row (i := 4) T4 rfl; have HT4 := Lib.hid T4; clear hI T4)))
  refine bodyPost_ret (v := .tuple #[.agg #[.int .i64 a, .int .i64 b, .int .i64 q, .slice (some ⟨g, 0, none⟩) ds.length ds.length, .slice (some ⟨h, 0, none⟩) cs.length cs.length], .bool true]) ?_ rfl ?_
  · exact rec_two rfl _ rfl rfl (put5_row HT4.out a b q (.slice (some ⟨g, 0, none⟩) ds.length ds.length) (.slice (some ⟨h, 0, none⟩) cs.length cs.length))
  have hs : W.heap.size + 1 + 1 + 1 + 1 ≤ g ∧ W.heap.size + 1 + 1 + 1 + 1 ≤ h := by have h1 := HI.out.own; have h2 := HI.out.own'; simp at h1 h2; exact ⟨h1, h2⟩
  refine ⟨g, h, rfl, (put5_far W1 (by omega) a b q (.slice (some ⟨g, 0, none⟩) ds.length ds.length) (.slice (some ⟨h, 0, none⟩) cs.length cs.length)).trans HI.out.row, (put5_far W1 (by omega) a b q (.slice (some ⟨g, 0, none⟩) ds.length ds.length) (.slice (some ⟨h, 0, none⟩) cs.length cs.length)).trans HI.out.row', by omega, by omega, ?_⟩
  exact below_put5 (B3.out.trans (HI.out.below.mono (by simp; omega))) (by omega) a b q (.slice (some ⟨g, 0, none⟩) ds.length ds.length) (.slice (some ⟨h, 0, none⟩) cs.length cs.length)
end Go.Proofs.YtomidcbpnaajeaaGreat.Gra

/- What the developers' Len, Has, Record, Users give (layer 15, edges), of whatever held answers. Conditions: those in each statement. -/
namespace Go.Proofs.YtomidcbpnaajeaaGreat.Gra
open Go.RowKit Cmd Bat Ids Rec Wid Mpg Go.Maps
set_option linter.unusedVariables false
set_option linter.unusedSimpArgs false

theorem f_index (mr mu : Option Nat) (W : World) : (Instr.field 61 (grV mr mu) 0).run Tryz.prog W = .ok (.agg #[.map mr]) W := by kernel_rfl
theorem f_users (mr mu : Option Nat) (W : World) : (Instr.field 61 (grV mr mu) 1).run Tryz.prog W = .ok (.map mu) W := by kernel_rfl
theorem f_records (mr : Option Nat) (W : World) : (Instr.field 58 (.agg #[.map mr]) 0).run Tryz.prog W = .ok (.map mr) W := by kernel_rfl
abbrev HeldIs (v : Value) (mr mu : Option Nat) (W : World) : Prop := ∀ W', Below W.heap.size W W' → Calls Tryz.prog 46 #[v] W' (RetBelow (grV mr mu) W')
theorem two_row (W : World) (a b : Int) : (W.alloc (.cells #[.int .i64 a, .int .i64 b] 32)).heap[W.heap.size]? = some (.cells #[.int .i64 a, .int .i64 b] 32 (0, 0)) := heap_alloc_new W _
/-! ### Record -/
theorem box_two (W : World) (a b : Int) (o : Obj) : ((W.alloc (.cells #[.int .i64 a, .int .i64 b] 32)).alloc o).heap[W.heap.size]? = some (.cells #[.int .i64 a, .int .i64 b] 32 (0, 0)) ∧ ((W.alloc (.cells #[.int .i64 a, .int .i64 b] 32)).alloc o).heap[W.heap.size + 1]? = some o ∧
    Below W.heap.size W ((W.alloc (.cells #[.int .i64 a, .int .i64 b] 32)).alloc o) ∧ W.heap.size + 1 < ((W.alloc (.cells #[.int .i64 a, .int .i64 b] 32)).alloc o).heap.size := by
  refine ⟨(Below.heap_alloc _ o _ (by simp)).trans (two_row W a b), ?_, (Cmd.below_one _ _).trans ((Cmd.below_one _ _).mono (by simp)), by simp⟩
  have h := heap_alloc_new (W.alloc (.cells #[.int .i64 a, .int .i64 b] 32)) o
  rwa [World.size_alloc] at h
abbrev oRec : Obj := .cells #[.int .i64 0, .int .i64 0, .int .i64 0, .slice none 0 0, .slice none 0 0] 42
/-- The two boxes of Record's call. -/
structure RBox (W : World) (a b : Int) (X : World) : Prop where
  id : X.heap[W.heap.size]? = some (.cells #[.int .i64 a, .int .i64 b] 32 (0, 0))
  res : X.heap[W.heap.size + 1]? = some (.cells #[.int .i64 0, .int .i64 0, .int .i64 0, .slice none 0 0, .slice none 0 0] 42 (0, 0))
  below : Below W.heap.size W X
  lt : W.heap.size + 1 < X.heap.size
theorem RBox.start (W : World) (a b : Int) : RBox W a b ((W.alloc (.cells #[.int .i64 a, .int .i64 b] 32)).alloc (.cells #[.int .i64 0, .int .i64 0, .int .i64 0, .slice none 0 0, .slice none 0 0] 42)).drew := by
  obtain ⟨h1, h2, h3, h4⟩ := box_two W a b oRec
  exact ⟨h1, h2, h3.drew, h4⟩
theorem RBox.on {W : World} {a b : Int} {X Y : World} (h : RBox W a b X) (hb : Below X.heap.size X Y) : RBox W a b Y :=
  ⟨(hb.block _ (by have := h.lt; omega)).trans h.id, (hb.block _ h.lt).trans h.res, h.below.trans (hb.mono h.below.size), Nat.lt_of_lt_of_le h.lt hb.size⟩
set_option maxRecDepth 100000 in
theorem rec_no (v : Value) (mr mu : Option Nat) (a b : Int) (W : World) (CH : HeldIs v mr mu W) (HG : ∀ W', Below W.heap.size W W' → Calls Tryz.prog 47 #[.agg #[.map mr], .agg #[.int .i64 a, .int .i64 b]] W' (RetBelow (.tuple #[zeroRec, .bool false]) W')) :
    Calls Tryz.prog 24 #[v, .agg #[.int .i64 a, .int .i64 b]] W (RetBelow (.tuple #[zeroRec, .bool false]) W) := by
  have R0 := Lib.hid (RBox.start W a b)
  have C1 := Lib.hid (fun W' (h : Below W.heap.size W W') => CH W' h)
  have H1 := Lib.hid HG
  have E1 := f_index mr mu
  clear CH HG
  have d0 := cell_row (i := 0) R0.out.id rfl
  have d1 := cell_row (i := 1) R0.out.id rfl
  go_enter Tryz.func24, Tryz.ntmps24
  go_wp2
  go_region_with (first
    | (go_at_call 46; (with_reducible refine (C1.out _ R0.out.below).mono ?_); rintro E w1 ⟨rfl, hb⟩; have R1 := Lib.hid (R0.out.on hb); have c0 := cell_row (i := 0) R1.out.id rfl; have c1 := cell_row (i := 1) R1.out.id rfl; clear hb)
    | (go_at_call 47; (with_reducible refine (H1.out _ R1.out.below).mono ?_); rintro E w2 ⟨rfl, hb⟩; have R2 := Lib.hid (R1.out.on hb); have f0 := free_row (i := 0) R2.out.res; have f1 := free_row (i := 1) R2.out.res; have f2 := free_row (i := 2) R2.out.res; have f3 := free_row (i := 3) R2.out.res; have f4 := free_row (i := 4) R2.out.res; have r0 := cell_row (i := 0) R2.out.res rfl; have r1 := cell_row (i := 1) R2.out.res rfl; have r2 := cell_row (i := 2) R2.out.res rfl; have r3 := cell_row (i := 3) R2.out.res rfl; have r4 := cell_row (i := 4) R2.out.res rfl; clear hb))
  all_goals
    go_wp2
    refine bodyPost_ret (v := .tuple #[zeroRec, .bool false]) ?_ rfl ?_
    · exact rec_two rfl _ rfl rfl (put5_row R2.out.res 0 0 0 (.slice none 0 0) (.slice none 0 0))
    exact ⟨rfl, below_put5 R2.out.below (by omega) 0 0 0 (.slice none 0 0) (.slice none 0 0)⟩
set_option maxRecDepth 100000 in
theorem rec_yes (v : Value) (mr mu : Option Nat) (a b q : Int) (ds : List Idn) (cs : List Cmdn) (hl : ds.length ≤ 1000) (hl' : cs.length ≤ 1000) (W : World) (CH : HeldIs v mr mu W) (HG : ∀ W', Below W.heap.size W W' → Calls Tryz.prog 47 #[.agg #[.map mr], .agg #[.int .i64 a, .int .i64 b]] W' (GivesGet a b q ds cs W')) :
    Calls Tryz.prog 24 #[v, .agg #[.int .i64 a, .int .i64 b]] W (GivesRd ((a, b), q, ds, cs) W) := by
  have R0 := Lib.hid (RBox.start W a b)
  have C1 := Lib.hid (fun W' (h : Below W.heap.size W W') => CH W' h)
  have H1 := Lib.hid HG
  have E1 := f_index mr mu
  obtain ⟨n, hn⟩ : ∃ n, n = ds.length := ⟨_, rfl⟩
  obtain ⟨k, hk⟩ : ∃ k, k = cs.length := ⟨_, rfl⟩
  unfold GivesGet at H1
  rw [← hn, ← hk] at H1
  have HN := Lib.hid (And.intro hn hk)
  clear CH HG hn hk
  have d0 := cell_row (i := 0) R0.out.id rfl
  have d1 := cell_row (i := 1) R0.out.id rfl
  go_enter Tryz.func24, Tryz.ntmps24
  go_wp2
  go_region_with (first
    | (go_at_call 46; (with_reducible refine (C1.out _ R0.out.below).mono ?_); rintro E w1 ⟨rfl, hb⟩; have R1 := Lib.hid (R0.out.on hb); have c0 := cell_row (i := 0) R1.out.id rfl; have c1 := cell_row (i := 1) R1.out.id rfl; clear hb)
    | (go_at_call 47; (with_reducible refine (H1.out _ R1.out.below).mono ?_); rintro E w2 ⟨g, h, rfl, hI⟩; have HI := Lib.hid hI; have R2 := Lib.hid (R1.out.on hI.below); have f0 := free_row (i := 0) R2.out.res; have f1 := free_row (i := 1) R2.out.res; have f2 := free_row (i := 2) R2.out.res; have f3 := free_row (i := 3) R2.out.res; have f4 := free_row (i := 4) R2.out.res; have r0 := cell_row (i := 0) R2.out.res rfl; have r1 := cell_row (i := 1) R2.out.res rfl; have r2 := cell_row (i := 2) R2.out.res rfl; have r3 := cell_row (i := 3) R2.out.res rfl; have r4 := cell_row (i := 4) R2.out.res rfl; clear hI))
  all_goals
    go_wp2
    refine bodyPost_ret (v := .tuple #[.agg #[.int .i64 a, .int .i64 b, .int .i64 q, .slice (some ⟨g, 0, none⟩) n n, .slice (some ⟨h, 0, none⟩) k k], .bool true]) ?_ rfl ?_
    · exact rec_two rfl _ rfl rfl (put5_row R2.out.res a b q (.slice (some ⟨g, 0, none⟩) n n) (.slice (some ⟨h, 0, none⟩) k k))
    obtain ⟨rfl, rfl⟩ := HN.out
    have h1 := HI.out.own
    have h2 := HI.out.own'
    have h3 := R1.out.lt
    exact ⟨_, _, rfl, owns_block ((put5_far w2 (by omega) a b q (.slice (some ⟨g, 0, none⟩) ds.length ds.length) (.slice (some ⟨h, 0, none⟩) cs.length cs.length)).trans HI.out.row) (by omega) (by omega), rowC ((put5_far w2 (by omega) a b q (.slice (some ⟨g, 0, none⟩) ds.length ds.length) (.slice (some ⟨h, 0, none⟩) cs.length cs.length)).trans HI.out.row') (by omega), below_put5 R2.out.below (by omega) a b q (.slice (some ⟨g, 0, none⟩) ds.length ds.length) (.slice (some ⟨h, 0, none⟩) cs.length cs.length)⟩
end Go.Proofs.YtomidcbpnaajeaaGreat.Gra

/- What the library's Clone gives at ids; what the developers' Users, Edges give (layer 15, edges). Conditions: those in each statement. -/
namespace Go.Proofs.YtomidcbpnaajeaaGreat.Gra
open Go.RowKit Cmd Bat Ids Rec Wid Mpg Go.Maps
set_option linter.unusedVariables false
set_option linter.unusedSimpArgs false

theorem made_own (w : World) : (w.alloc (.cells #[] 32)).ownsRow w.heap.size 32 2 (.slice (some ⟨w.heap.size, 0, none⟩) 0 0) 0 [] := World.ownsRow_made w #[] 0 (Nat.le_refl _) (by decide) rfl
/-! ### Edges -/
theorem sum_perm : ∀ {a b : List Nat}, a.Perm b → a.sum = b.sum := fun h => by
  induction h with
  | nil => rfl
  | cons x _ ih => simp [ih]
  | swap x y l => simp; omega
  | trans _ _ h1 h2 => exact h1.trans h2
/-- How many Deps the record of an id has. -/
def degG (rs : List Rcd) (x : Idn) : Nat := match rs.find? (fun r => decide (r.1 = x)) with
  | some r => r.2.2.1.length
  | none => 0
theorem deg_of {rs : List Rcd} (hd : (idsG rs).Nodup) {r : Rcd} (hr : r ∈ rs) : degG rs r.1 = r.2.2.1.length := by
  have : rs.find? (fun t => decide (t.1 = r.1)) = some r := by
    induction rs with
    | nil => cases hr
    | cons y l ih =>
      obtain ⟨h1, h2⟩ := List.nodup_cons.1 hd
      rw [List.find?_cons]
      by_cases e : y.1 = r.1
      · rw [decide_eq_true e]
        rcases List.mem_cons.1 hr with rfl | hm
        · rfl
        · exact absurd (List.mem_map.2 ⟨r, hm, rfl⟩) (by rw [e] at h1; exact h1)
      · rw [decide_eq_false e]
        exact ih h2 ((List.mem_cons.1 hr).resolve_left (fun e2 => e (by rw [e2])))
  unfold degG
  rw [this]
theorem deg_sum {rs : List Rcd} (hd : (idsG rs).Nodup) : ((idsG rs).map (degG rs)).sum = (depsG rs).length := by
  have e : (idsG rs).map (degG rs) = rs.map fun r => r.2.2.1.length := by
    unfold idsG
    rw [List.map_map]
    exact List.map_congr_left fun r hr => deg_of hd hr
  rw [e]
  unfold depsG
  rw [List.length_flatMap]
theorem perm_ids {a b : List Idn} (ha : a.Nodup) (hb : b.Nodup) (h : ∀ x, x ∈ a ↔ x ∈ b) : a.Perm b := (List.perm_ext_iff_of_nodup ha hb).2 h
/-- A round over a map of ids: nothing is left, or one of the keys has come. (Both goals are hidden, for the walk to stand.) -/
theorem wpI_next {w : World} {ops : Array Oper} {rest : List Oper} {o : Oper} {a : Act} {Q : Exit → Act → World → Prop} (hg : o.guard = none) (it : Operand) (hop : o.op = Op.next it false) (m r n : Nat) (D : DataW Value) (ks : List Idn) (f : Idn → Option Value) (S : Says kyI D ks f) (left : Lit → Bool) (cnt : Nat)
    (hit : a.eval it = .pointer (some ⟨r, 0, none⟩)) (h : Going 32 w m r n D left cnt)
    (hDone : Hid ((∀ kl, left kl = false) → wpList Tryz.prog ops Q rest (a.put o.dst (.tuple #[.bool false])) w))
    (hMore : Hid (∀ (x y : Int) (v : Value) (w' : World) (cnt' : Nat), f (x, y) = some v → left (kyI.lit (x, y)) = true → Going 32 w' m r n D (fun z => left z && !z.sameKey (kyI.lit (x, y))) cnt' → cnt' < cnt → w.grownBy w' (some r) → w'.heap.size = w.heap.size →
      (Instr.entry (.pointer (some ⟨r, 0, none⟩))).run Tryz.prog w' = .ok (.tuple #[.agg #[.int .i64 x, .int .i64 y], v]) w' → wpList Tryz.prog ops Q rest (a.put o.dst (.tuple #[.bool true, .agg #[.int .i64 x, .int .i64 y], v])) w')) :
    wpList Tryz.prog ops Q (o :: rest) a w :=
  wp_next hg it hop m r n D ks S left cnt hit h hDone (Lib.hid fun x v w' cnt' h1 h2 h3 h4 h5 h6 h7 h8 => hMore.out x.1 x.2 v w' cnt' h1 h3 h4 h5 h6 h7 h8)
theorem deg_le {rs : List Rcd} (L : Lot rs) (x : Idn) : degG rs x ≤ 1000 := by
  unfold degG
  split
  · rename_i r h; exact (L.low r (List.mem_of_find?_eq_some h)).1
  · omega
theorem deg_sum_le {rs : List Rcd} (L : Lot rs) : ∀ ss : List Idn, (ss.map (degG rs)).sum ≤ ss.length * 1000
  | [] => Nat.zero_le _
  | x :: ss => by
    have := deg_sum_le L ss
    have := deg_le L x
    simp only [List.map_cons, List.sum_cons, List.length_cons]; omega
theorem recv_form {W : World} {rs : List Rcd} {f : Idn → Option Value} (R : Rf W rs f) (hd : (idsG rs).Nodup) {x y : Int} {v : Value} (h : f (x, y) = some v) : ∃ (q : Int) (G H n k : Nat), v = .agg #[.int .i64 x, .int .i64 y, .int .i64 q, .slice (some ⟨G, 0, none⟩) n n, .slice (some ⟨H, 0, none⟩) k k] ∧ n = degG rs (x, y) := by
  have hm := (R.has (x, y)).1 (by rw [h]; rfl)
  obtain ⟨r, hr, e⟩ := List.mem_map.1 hm
  obtain ⟨v', e', G, H, e2, -, -⟩ := R.val r hr
  have hdeg := deg_of hd hr
  rw [e] at e' e2 hdeg
  rw [h] at e'
  cases e'
  exact ⟨_, _, _, _, _, e2, hdeg.symm⟩
end Go.Proofs.YtomidcbpnaajeaaGreat.Gra

/- What the developers' ids, Ids, Missing give (layer 15, edges). Conditions: those in each statement; SortIs: what ident.Sorted gives. -/
namespace Go.Proofs.YtomidcbpnaajeaaGreat.Gra
open Go.RowKit Cmd Bat Ids Rec Wid Mpg Itr Go.Maps
set_option linter.unusedVariables false
set_option linter.unusedSimpArgs false

abbrev SortIs : Prop := ∀ (v : Value) (zs : List Idn) (w : World), RowAt w v zs → zs.length ≤ 100000 → Calls Tryz.prog 34 #[v] w (GivesRow (srt zs) w)
abbrev keyF (B : Nat) : Value := .func (.func 85) #[] #[.pointer (some ⟨B, 0, none⟩)]
theorem keysC (mb : Option Nat) (w : World) : Calls Tryz.prog 69 #[.map mb] w fun e w' => e = .returned (keyF w.heap.size) ∧ w' = w.alloc (.cells #[.map mb] 56) :=
  (callsIn_wide (n := 3)).1 (keys_any Fence.wide 3 trivial rfl mb w)
/-- What Collect gives of a map's keys. -/
abbrev CollIs (mb : Option Nat) (zs : List Idn) (W : World) : Prop := ∀ (B : Nat) (W' : World), Below W.heap.size W W' → B < W'.heap.size → W'.cell? ⟨B, 0, none⟩ = some (.map mb) →
  Calls Tryz.prog 68 #[keyF B] W' fun e w' => ∃ (v : Value) (ss : List Idn), e = .returned v ∧ srt ss = zs ∧ ss.length ≤ 100000 ∧ RowAt w' v ss ∧ Below W'.heap.size W' w'
theorem srt_same {a b : List Idn} (h : ∀ x, x ∈ a ↔ x ∈ b) : srt a = srt b := rise_eq (srt_rise _) (srt_rise _) fun x => by rw [srt_mem, srt_mem, h x]
theorem coll_some (W : World) (mr N : Nat) (rs : List Rcd) (f : Idn → Option Value) (M : MapG kyI W mr N f) (hN : N ≤ 1000000) (R : Rf W rs f) (hl : rs.length ≤ 1000) (hd : (idsG rs).Nodup) : CollIs (some mr) (gIds rs) W := fun B W' hb hB hc =>
  ((callsIn_wide (n := 3)).1 (collect_any Fence.wide 3 trivial trivial rfl (by omega) _ _ trivial (enters_of Tryz.func85 (by kernel_rfl) rfl) _ N hN W' (keys_stops Fence.wide 1 trivial rfl (by omega) B mr N f W' hB hc (M.on hb)))).mono
    fun e w' ⟨v, ss, he, ⟨h1, h2⟩, ho, hbw⟩ => ⟨v, ss, he, srt_same fun x => by rw [h2 x, R.has x], by have := nodup_len h1 (fun x hx => (R.has x).1 ((h2 x).1 hx)); rw [idsG_len] at this; omega, ho.row, hbw⟩
theorem coll_nil (W : World) : CollIs none [] W := fun B W' hb hB hc =>
  ((callsIn_wide (n := 3)).1 (collect_any Fence.wide 3 trivial trivial rfl (by omega) _ _ trivial (enters_of Tryz.func85 (by kernel_rfl) rfl) _ 0 (by omega) W' (keys_stops_nil Fence.wide 1 trivial rfl B W' hB hc))).mono
    fun e w' ⟨v, ss, he, ⟨h1, h2⟩, ho, hbw⟩ => by
      have e0 : ss = [] := by
        cases ss with
        | nil => rfl
        | cons x l => have := (h2 x).1 List.mem_cons_self; cases this
      subst e0
      exact ⟨v, [], he, rfl, by simp, ho.row, hbw⟩
set_option maxRecDepth 100000 in
theorem ids_run (mb : Option Nat) (zs : List Idn) (W : World) (SO : SortIs) (CI : CollIs mb zs W) : Calls Tryz.prog 45 #[.agg #[.map mb]] W (GivesRow zs W) := by
  have KC := Lib.hid (keysC mb (W.alloc (.cells #[.map mb] 58)))
  have B2 : Below W.heap.size W ((W.alloc (.cells #[.map mb] 58)).alloc (.cells #[.map mb] 56)) := (Cmd.below_one _ _).trans ((Cmd.below_one _ _).mono (by simp))
  have CC := Lib.hid (CI (W.alloc (.cells #[.map mb] 58)).heap.size _ B2 (by simp) (cell_row (heap_alloc_new (W.alloc (.cells #[.map mb] 58)) (.cells #[.map mb] 56)) rfl))
  rw [World.size_alloc] at KC CC
  have HB := Lib.hid B2
  have HSO := Lib.hid SO
  clear SO CI B2
  go_enter Tryz.func45, Tryz.ntmps45
  go_wp2_with (first
    | (go_at_call 69; refine KC.out.mono ?_; rintro E w1 ⟨rfl, rfl⟩)
    | (go_at_call 68; refine CC.out.mono ?_; rintro E w2 ⟨v, ss, rfl, hz, hl, hr, hb⟩; have B2 := Lib.hid (HB.out.trans (hb.mono HB.out.size)); have S2 := Lib.hid (HSO.out v ss w2 hr hl); have HZ := Lib.hid hz; clear hz hl hr hb)
    | (go_at_call 34; (with_reducible refine S2.out.mono ?_); rintro E w3 ⟨u, rfl, hr, hb⟩; have R3 := Lib.hid hr; have B3 := Lib.hid (B2.out.trans (hb.mono B2.out.size)); clear hr hb))
  go_ret
  exact ⟨_, rfl, by rw [← HZ.out]; exact R3.out, B3.out⟩
set_option maxRecDepth 100000 in
theorem gids_run (v : Value) (mr mu : Option Nat) (zs : List Idn) (W : World) (CH : HeldIs v mr mu W) (HI : ∀ W', Below W.heap.size W W' → Calls Tryz.prog 45 #[.agg #[.map mr]] W' (GivesRow zs W')) :
    Calls Tryz.prog 23 #[v] W (GivesRow zs W) := by
  have C1 := Lib.hid (CH W (Below.refl _ _))
  have H1 := Lib.hid HI
  have E1 := f_index mr mu
  clear CH HI
  go_enter Tryz.func23, Tryz.ntmps23
  go_wp2_with (first
    | (go_at_call 46; (with_reducible refine C1.out.mono ?_); rintro E w1 ⟨rfl, hb⟩; have B1 := Lib.hid hb; have H2 := Lib.hid (H1.out w1 hb); clear hb)
    | (go_at_call 45; (with_reducible refine H2.out.mono ?_); rintro E w2 ⟨u, rfl, hr, hb⟩; have R2 := Lib.hid hr; have B2 := Lib.hid (B1.out.trans (hb.mono B1.out.size)); clear hr hb))
  go_ret
  exact ⟨_, rfl, R2.out, B2.out⟩
end Go.Proofs.YtomidcbpnaajeaaGreat.Gra

/- What the developers' Missing gives (layer 15, edges). Conditions: those in each statement; SortIs: what ident.Sorted gives. -/
namespace Go.Proofs.YtomidcbpnaajeaaGreat.Gra
open Go.RowKit Cmd Bat Ids Rec Wid Mpg Itr Go.Maps
set_option linter.unusedVariables false
set_option linter.unusedSimpArgs false

theorem miss_mem (rs : List Rcd) (x : Idn) : x ∈ missL rs rs ↔ x ∈ depsG rs ∧ x ∉ idsG rs := by
  unfold missL
  rw [List.mem_filter]
  simp
theorem users_some {rs : List Rcd} {x : Idn} : usersL rs x ≠ [] ↔ x ∈ depsG rs := by
  constructor
  · intro h
    cases hu : usersL rs x with
    | nil => exact absurd hu h
    | cons y l =>
      have hm : y ∈ usersL rs x := by rw [hu]; exact List.mem_cons_self
      unfold usersL idsG at hm
      obtain ⟨r, hr, _⟩ := List.mem_map.1 hm
      obtain ⟨h1, h2⟩ := List.mem_filter.1 hr
      exact List.mem_flatMap.2 ⟨r, h1, of_decide_eq_true h2⟩
  · intro h e
    obtain ⟨r, h1, h2⟩ := List.mem_flatMap.1 h
    have hm : r.1 ∈ usersL rs x := by unfold usersL idsG; exact List.mem_map.2 ⟨r, List.mem_filter.2 ⟨h1, decide_eq_true h2⟩, rfl⟩
    rw [e] at hm; cases hm
theorem srt_nil {l : List Idn} : srt l = [] ↔ l = [] := by
  constructor
  · intro h
    cases l with
    | nil => rfl
    | cons x t =>
      have hx := (srt_mem (x :: t) x).2 List.mem_cons_self
      rw [h] at hx; cases hx
  · rintro rfl; rfl
theorem Uf.has {W : World} {base : Nat} {rs : List Rcd} {h : Idn → Option Value} (u : Uf W base (gUsers rs) h) (x : Idn) : (h x).isSome = true ↔ x ∈ depsG rs := by
  rw [← users_some]
  cases hx : h x with
  | none =>
    have := srt_nil.1 (u.no x hx)
    exact ⟨fun e => (by cases e), fun e => absurd this e⟩
  | some v =>
    have := (u.yes x v hx).2
    exact ⟨fun _ e => this (srt_nil.2 e), fun _ => rfl⟩
theorem low_own {w : World} {base : Nat} {e : TypeId} {size : Nat} {v : Value} {n : Nat} {xs : List Value} (h : w.ownsRow base e size v n xs) {r : Nat} (hr : r < base) : some r ≠ v.ownBlock := fun e1 => by
  have := (World.ownsRow.lt h r e1.symm).1
  omega
end Go.Proofs.YtomidcbpnaajeaaGreat.Gra

/- What the developers' take gives (layer 15, edges): a record put in, or what is wrong. Conditions: those in each statement. -/
namespace Go.Proofs.YtomidcbpnaajeaaGreat.Gra
open Go.RowKit Cmd Bat Ids Rec Wid Mpg Go.Maps
set_option linter.unusedVariables false
set_option linter.unusedSimpArgs false

theorem grown_two {a b c : World} {r : Nat} (h : a.grownBy b (some r)) (k : b.grownBy c (some r)) : a.grownBy c (some r) :=
  ⟨k.os.trans h.os, k.tape.trans h.tape, k.output.trans h.output, Nat.le_trans h.size k.size, fun i hi hr => (k.block i (Nat.lt_of_lt_of_le hi h.size) hr).trans (h.block i hi hr)⟩
theorem grown_low {w w' : World} (r : Nat) (hb : Below w.heap.size w w') : w.grownBy w' (some r) := ⟨hb.os, hb.tape, hb.output, hb.size, fun k hk _ => hb.block k hk⟩
theorem grown_below {w w' : World} {r B : Nat} (h : w.grownBy w' (some r)) (h1 : B ≤ r) (h2 : B ≤ w.heap.size) : Below B w w' := ⟨h.os, h.tape, h.output, h.size, fun k hk => h.block k (by omega) (fun e => by cases e; omega)⟩
/-- A map of records has one more. -/
theorem Rf.put {W W' : World} {rs : List Rcd} {f : Idn → Option Value} (R : Rf W rs f) (k : Keeps W W') {x : Rcd} {v : Value} (hv : RecV W' x v) (hn : x.1 ∉ idsG rs) : Rf W' (rs ++ [x]) (setF f x.1 (some v)) := by
  refine ⟨fun y => ?_, fun r hr => ?_⟩
  · rw [idsG_snoc, List.mem_append, List.mem_singleton]
    by_cases e : y = x.1
    · subst e; rw [setF_same]; simp
    · rw [setF_other f _ e, R.has y]; simp [e]
  · rcases List.mem_append.1 hr with h | h
    · obtain ⟨u, e, hu⟩ := R.val r h
      have hne : r.1 ≠ x.1 := fun e2 => hn (by rw [← e2]; exact List.mem_map.2 ⟨r, h, rfl⟩)
      exact ⟨u, by rw [setF_other f _ hne]; exact e, hu.keep k⟩
    · rw [List.mem_singleton] at h
      subst h
      exact ⟨v, setF_same _ _ _, hv⟩
/-- The two boxes of take's call. -/
structure TBox (W : World) (m : Option Nat) (a b q : Int) (p : Option Addr) (n c : Nat) (p' : Option Addr) (n' c' : Nat) (X : World) : Prop where
  ix : X.heap[W.heap.size]? = some (.cells #[.map m] 58 (0, 0))
  rc : X.heap[W.heap.size + 1]? = some (.cells #[.int .i64 a, .int .i64 b, .int .i64 q, .slice p n c, .slice p' n' c'] 42 (0, 0))
  below : Below W.heap.size W X
  lt : W.heap.size + 1 < X.heap.size
section
variable {W : World} {m : Option Nat} {a b q : Int} {p : Option Addr} {n c : Nat} {p' : Option Addr} {n' c' : Nat}
theorem TBox.start : TBox W m a b q p n c p' n' c' ((W.alloc (.cells #[.map m] 58)).alloc (.cells #[.int .i64 a, .int .i64 b, .int .i64 q, .slice p n c, .slice p' n' c'] 42)) := by
  have h := heap_alloc_new (W.alloc (.cells #[.map m] 58)) (.cells #[.int .i64 a, .int .i64 b, .int .i64 q, .slice p n c, .slice p' n' c'] 42)
  rw [World.size_alloc] at h
  exact ⟨(Below.heap_alloc _ _ _ (by simp)).trans (heap_alloc_new W _), h, (Cmd.below_one _ _).trans ((Cmd.below_one _ _).mono (by simp)), by simp⟩
theorem TBox.on {X Y : World} (h : TBox W m a b q p n c p' n' c' X) (hb : Below X.heap.size X Y) : TBox W m a b q p n c p' n' c' Y :=
  ⟨(hb.block _ (by have := h.lt; omega)).trans h.ix, (hb.block _ h.lt).trans h.rc, h.below.trans (hb.mono h.below.size), Nat.lt_of_lt_of_le h.lt hb.size⟩
theorem TBox.five {X : World} (h : TBox W m a b q p n c p' n' c' X) : X.cell? ⟨W.heap.size, 0, none⟩ = some (.map m) ∧ X.cell? ⟨W.heap.size + 1, 0, none⟩ = some (.int .i64 a) ∧ X.cell? ⟨W.heap.size + 1, 1, none⟩ = some (.int .i64 b) ∧ X.cell? ⟨W.heap.size + 1, 2, none⟩ = some (.int .i64 q) ∧ X.cell? ⟨W.heap.size + 1, 3, none⟩ = some (.slice p n c) ∧ X.cell? ⟨W.heap.size + 1, 4, none⟩ = some (.slice p' n' c') :=
  ⟨cell_row (i := 0) h.ix rfl, cell_row (i := 0) h.rc rfl, cell_row (i := 1) h.rc rfl, cell_row (i := 2) h.rc rfl, cell_row (i := 3) h.rc rfl, cell_row (i := 4) h.rc rfl⟩
end
/-- What take leaves where the record is put in. -/
def TakenIs (mr : Nat) (N : Nat) (rs : List Rcd) (x : Rcd) (W : World) (E : Ending) (W' : World) : Prop :=
  E = .returned (.int .i64 0) ∧ W.grownBy W' (some mr) ∧ ∃ f', MapG kyI W' mr (N + 1) f' ∧ Rf W' (rs ++ [x]) f'
set_option maxRecDepth 100000 in
theorem take_bad (W : World) (mr : Nat) (a b q : Int) (p : Option Addr) (c : Nat) (p' : Option Addr) (c' : Nat) (ds : List Idn) (cs : List Cmdn) (hd : RowAt W (.slice p ds.length c) ds) (hc : layC.Row W (.slice p' cs.length c') cs) (hw : wfG ((a, b), q, ds, cs)) (he : oneErr ((a, b), q, ds, cs) ≠ 0) : Calls Tryz.prog 21 #[.agg #[.map (some mr)], .agg #[.int .i64 a, .int .i64 b, .int .i64 q, .slice p ds.length c, .slice p' cs.length c']] W (RetBelow (.int .i64 (oneErr ((a, b), q, ds, cs))) W) := by
  have T0 := Lib.hid (TBox.start (W := W) (m := some mr) (a := a) (b := b) (q := q) (p := p) (n := ds.length) (c := c) (p' := p') (n' := cs.length) (c' := c'))
  have CC := Lib.hid (check_r a b q _ _ ds cs _ (hd.on T0.out.below) (hc.on T0.out.below) hw.batch)
  obtain ⟨e, hee⟩ : ∃ e, e = oneErr ((a, b), q, ds, cs) := ⟨_, rfl⟩
  have hee2 : rErr a b q ds cs = e := hee.symm
  rw [hee2] at CC
  rw [← hee] at he ⊢
  have he2 : (e != 0) = true := by simp [he]
  obtain ⟨n, hn⟩ : ∃ n, n = ds.length := ⟨_, rfl⟩
  obtain ⟨n', hn'⟩ : ∃ n, n = cs.length := ⟨_, rfl⟩
  rw [← hn, ← hn'] at T0 CC ⊢
  clear hee hee2 hn hn' hd hc hw
  obtain ⟨d0, d1, d2, d3, d4, d5⟩ := T0.out.five
  go_enter Tryz.func21, Tryz.ntmps21
  go_wp2_with (first
    | (go_at_call 42; (with_reducible refine CC.out.mono ?_); rintro E w1 ⟨rfl, hb⟩; have B1 := Lib.hid (T0.out.below.trans (hb.mono T0.out.below.size)); clear hb))
  go_ret
  exact ⟨rfl, B1.out⟩
set_option maxRecDepth 100000 in
theorem take_dup (W : World) (mr N : Nat) (rs : List Rcd) (f : Idn → Option Value) (M : MapG kyI W mr N f) (R : Rf W rs f) (a b q : Int) (p : Option Addr) (c : Nat) (p' : Option Addr) (c' : Nat) (ds : List Idn) (cs : List Cmdn) (hd : RowAt W (.slice p ds.length c) ds) (hc : layC.Row W (.slice p' cs.length c') cs) (hw : wfG ((a, b), q, ds, cs)) (he : oneErr ((a, b), q, ds, cs) = 0) (hm : (a, b) ∈ idsG rs) : Calls Tryz.prog 21 #[.agg #[.map (some mr)], .agg #[.int .i64 a, .int .i64 b, .int .i64 q, .slice p ds.length c, .slice p' cs.length c']] W (RetBelow (.int .i64 16) W) := by
  have T0 := Lib.hid (TBox.start (W := W) (m := some mr) (a := a) (b := b) (q := q) (p := p) (n := ds.length) (c := c) (p' := p') (n' := cs.length) (c' := c'))
  have CC := Lib.hid (check_r a b q _ _ ds cs _ (hd.on T0.out.below) (hc.on T0.out.below) hw.batch)
  have hee2 : rErr a b q ds cs = 0 := he
  rw [hee2] at CC
  have HA := Lib.hid (fun W' (hb : Below W.heap.size W W') => ixhas_any W' mr N rs f (M.on hb) (R.keep (keeps_below hb)) a b hw.id)
  rw [decide_eq_true hm] at HA
  obtain ⟨n, hn⟩ : ∃ n, n = ds.length := ⟨_, rfl⟩
  obtain ⟨n', hn'⟩ : ∃ n, n = cs.length := ⟨_, rfl⟩
  rw [← hn, ← hn'] at T0 CC ⊢
  clear hee2 hn hn' M R hd hc hw he hm
  obtain ⟨d0, d1, d2, d3, d4, d5⟩ := T0.out.five
  go_enter Tryz.func21, Tryz.ntmps21
  go_wp2_with (first
    | (go_at_call 42; (with_reducible refine CC.out.mono ?_); rintro E w1 ⟨rfl, hb⟩; have T1 := Lib.hid (T0.out.on hb); obtain ⟨x0, x1, x2, x3, x4, x5⟩ := T1.out.five; have A1 := Lib.hid (HA.out w1 T1.out.below); clear hb)
    | (go_at_call 43; (with_reducible refine A1.out.mono ?_); rintro E w2 ⟨rfl, hb⟩; have B2 := Lib.hid (T1.out.on hb); clear hb))
  go_ret
  exact ⟨rfl, B2.out.below⟩
set_option maxRecDepth 100000 in
set_option maxHeartbeats 4000000 in
theorem take_ok (W : World) (mr N : Nat) (rs : List Rcd) (f : Idn → Option Value) (M : MapG kyI W mr N f) (R : Rf W rs f) (a b q : Int) (p : Option Addr) (c : Nat) (p' : Option Addr) (c' : Nat) (ds : List Idn) (cs : List Cmdn) (hd : RowAt W (.slice p ds.length c) ds) (hc : layC.Row W (.slice p' cs.length c') cs) (hw : wfG ((a, b), q, ds, cs)) (hl : ds.length ≤ 1000) (hl' : cs.length ≤ 1000) (he : oneErr ((a, b), q, ds, cs) = 0) (hm : (a, b) ∉ idsG rs) (hN : N ≤ 1000000) : Calls Tryz.prog 21 #[.agg #[.map (some mr)], .agg #[.int .i64 a, .int .i64 b, .int .i64 q, .slice p ds.length c, .slice p' cs.length c']] W (TakenIs mr N rs ((a, b), q, ds, cs) W) := by
  have T0 := Lib.hid (TBox.start (W := W) (m := some mr) (a := a) (b := b) (q := q) (p := p) (n := ds.length) (c := c) (p' := p') (n' := cs.length) (c' := c'))
  have CC := Lib.hid (check_r a b q _ _ ds cs _ (hd.on T0.out.below) (hc.on T0.out.below) hw.batch)
  have hee2 : rErr a b q ds cs = 0 := he
  rw [hee2] at CC
  have HA := Lib.hid (fun W' (hb : Below W.heap.size W W') => ixhas_any W' mr N rs f (M.on hb) (R.keep (keeps_below hb)) a b hw.id)
  rw [decide_eq_false hm] at HA
  have CP := Lib.hid (fun W' (hb : Below W.heap.size W W') => copy_any a b q _ _ ds cs W' (hd.on hb) (hc.on hb) (by omega) (by omega) hw.batch)
  have ST : Hid (∀ W' g h, Below W.heap.size W W' → W'.heap[g]? = some (.cells (flat ds).toArray 32 (0, 0)) → W'.heap[h]? = some (.cells (flatC cs).toArray 55 (0, 0)) →
      ∃ W2, (Instr.mapUpdate 56 (.map (some mr)) (.agg #[.int .i64 a, .int .i64 b]) (.agg #[.int .i64 a, .int .i64 b, .int .i64 q, .slice (some ⟨g, 0, none⟩) ds.length ds.length, .slice (some ⟨h, 0, none⟩) cs.length cs.length])).run Tryz.prog W' = .ok () W2 ∧ Hid (W.grownBy W2 (some mr) ∧ ∃ f', MapG kyI W2 mr (N + 1) f' ∧ Rf W2 (rs ++ [((a, b), q, ds, cs)]) f')) := Lib.hid fun W' g h hb hg hh => by
    obtain ⟨W2, h1, h2, h3⟩ := (M.on hb).store Tryz.underlying56 hN (x := (a, b)) hw.id (.agg #[.int .i64 a, .int .i64 b, .int .i64 q, .slice (some ⟨g, 0, none⟩) ds.length ds.length, .slice (some ⟨h, 0, none⟩) cs.length cs.length])
    have kk := keeps_turn h3
    exact ⟨W2, h1, Lib.hid ⟨grown_two (grown_low mr hb) h3.grown, _, h2, (R.keep (keeps_below hb)).put kk (x := ((a, b), q, ds, cs)) ⟨g, h, rfl, kk _ _ _ hg, kk _ _ _ hh⟩ hm⟩⟩
  obtain ⟨n, hn⟩ : ∃ n, n = ds.length := ⟨_, rfl⟩
  obtain ⟨n', hn'⟩ : ∃ n, n = cs.length := ⟨_, rfl⟩
  unfold GivesRec at CP
  rw [← hn, ← hn'] at T0 CC CP ST ⊢
  clear hee2 hn hn' M R hd hc hw he hm hl hl' hN
  obtain ⟨d0, d1, d2, d3, d4, d5⟩ := T0.out.five
  go_enter Tryz.func21, Tryz.ntmps21
  go_wp2_with (first
    | (go_at_call 42; (with_reducible refine CC.out.mono ?_); rintro E w1 ⟨rfl, hb⟩; have T1 := Lib.hid (T0.out.on hb); obtain ⟨x0, x1, x2, x3, x4, x5⟩ := T1.out.five; have A1 := Lib.hid (HA.out w1 T1.out.below); clear hb)
    | (go_at_call 43; (with_reducible refine A1.out.mono ?_); rintro E w2 ⟨rfl, hb⟩; have T2 := Lib.hid (T1.out.on hb); have T3 : Hid (TBox W (some mr) a b q p n c p' n' c' w2.drew) := Lib.hid (T2.out.on (Below.refl _ _).drew); obtain ⟨y0, y1, y2, y3, y4, y5⟩ := T3.out.five; have P2 := Lib.hid (CP.out w2.drew T3.out.below); clear hb)
    | fail)
  go_region_with (first
    | (go_at_call 44; (with_reducible refine P2.out.mono ?_); rintro E w3 ⟨g, h, rfl, hI⟩; have T4 := Lib.hid (T3.out.on hI.below); obtain ⟨z0, z1, z2, z3, z4, z5⟩ := T4.out.five; obtain ⟨w4, hst, HR⟩ := ST.out w3 g h T4.out.below hI.row hI.row'; clear hI))
  all_goals
    go_wp2
    go_ret
    exact ⟨rfl, HR.out⟩
end Go.Proofs.YtomidcbpnaajeaaGreat.Gra

/- What the developers' New gives (layer 15, edges), of what its link gives. Conditions: those in each statement. -/
namespace Go.Proofs.YtomidcbpnaajeaaGreat.Gra
open Go.RowKit Cmd Bat Ids Rec Wid Mpg Go.Maps
set_option linter.unusedVariables false
set_option linter.unusedSimpArgs false

/-- What link leaves. -/
def GivesLink (mu : Nat) (rs : List Rcd) (W : World) (E : Ending) (W' : World) : Prop := E = .returned (.tuple #[]) ∧ W.grownBy W' (some mu) ∧ ∃ h, MapG kyI W' mu 16000 h ∧ Uf W' 0 (gUsers rs) h
abbrev LinkIs : Prop := ∀ (g mr mu N : Nat) (f : Idn → Option Value) (rs : List Rcd) (W : World), W.heap[g]? = some (.cells #[.map (some mr), .map (some mu)] 61 (0, 0)) → MapG kyI W mr N f → MapG kyI W mu 0 (fun _ => none) → Rf W rs f → Lot rs → gErr rs = 0 → mr ≠ mu →
  Calls Tryz.prog 22 #[gptr g] W (GivesLink mu rs W)
theorem take_err (W : World) (mr N : Nat) (rs : List Rcd) (f : Idn → Option Value) (M : MapG kyI W mr N f) (R : Rf W rs f) (a b q : Int) (p : Option Addr) (c : Nat) (p' : Option Addr) (c' : Nat) (ds : List Idn) (cs : List Cmdn) (hd : RowAt W (.slice p ds.length c) ds) (hc : layC.Row W (.slice p' cs.length c') cs) (hw : wfG ((a, b), q, ds, cs)) {e : Int} (he : (if oneErr ((a, b), q, ds, cs) ≠ 0 then oneErr ((a, b), q, ds, cs) else if (a, b) ∈ idsG rs then 16 else 0) = e) (hne : e ≠ 0) :
    Calls Tryz.prog 21 #[.agg #[.map (some mr)], .agg #[.int .i64 a, .int .i64 b, .int .i64 q, .slice p ds.length c, .slice p' cs.length c']] W (RetBelow (.int .i64 e) W) := by
  by_cases h1 : oneErr ((a, b), q, ds, cs) ≠ 0
  · rw [if_pos h1] at he
    subst he
    exact take_bad W mr a b q p c p' c' ds cs hd hc hw h1
  · rw [if_neg h1] at he
    have h1 : oneErr ((a, b), q, ds, cs) = 0 := Classical.byContradiction h1
    by_cases h2 : (a, b) ∈ idsG rs
    · rw [if_pos h2] at he
      subst he
      exact take_dup W mr N rs f M R a b q p c p' c' ds cs hd hc hw h1 h2
    · rw [if_neg h2] at he; exact absurd he.symm hne
/-- The three blocks that New makes. -/
structure NBox (W : World) (X : World) : Prop where
  blk : X.heap[W.heap.size + 1 + 1]? = some (.cells #[.map (some W.heap.size), .map (some (W.heap.size + 1))] 61 (0, 0))
  below : Below W.heap.size W X
  lt : W.heap.size + 1 + 1 < X.heap.size
theorem NBox.start (W : World) : NBox W (((W.alloc (.map #[] 0)).alloc (.map #[] 0)).alloc (.cells #[.map (some W.heap.size), .map (some (W.heap.size + 1))] 61)) := by
  have h := heap_alloc_new ((W.alloc (.map #[] 0)).alloc (.map #[] 0)) (.cells #[.map (some W.heap.size), .map (some (W.heap.size + 1))] 61)
  have e : ((W.alloc (.map #[] 0)).alloc (.map #[] 0)).heap.size = W.heap.size + 1 + 1 := by simp
  rw [e] at h
  exact ⟨h, Rec.below_three _ _ _ _, by simp⟩
theorem keeps_map {W W' : World} {b N : Nat} {f : Idn → Option Value} (M : MapG kyI W b N f) (hg : W.grownBy W' (some b)) : Keeps W W' := fun k cur t hk => by
  obtain ⟨D, ks, ⟨es, c, hb, r⟩, hr⟩ := M
  refine (hg.block k (Array.getElem?_eq_some_iff.1 hk).1 (fun e => ?_)).trans hk
  cases e
  rw [hb] at hk; cases hk
theorem map_far {W W' : World} {b m N : Nat} {f : Idn → Option Value} (M : MapG kyI W b N f) (hg : W.grownBy W' (some m)) (hne : b ≠ m) : MapG kyI W' b N f := M.block (hg.block b M.lt (fun e => hne (Option.some.inj e)))
theorem box_five (W : World) (a b q : Int) (v u : Value) : (W.alloc (.cells #[.int .i64 a, .int .i64 b, .int .i64 q, v, u] 42)).drew.heap[W.heap.size]? = some (.cells #[.int .i64 a, .int .i64 b, .int .i64 q, v, u] 42 (0, 0)) := heap_alloc_new W _
set_option maxRecDepth 100000 in
set_option maxHeartbeats 8000000 in
theorem new_run (LK : LinkIs) (v : Value) (rs : List Rcd) (W : World) (hrow : layG.Row W v rs) (L : Lot rs) : Calls Tryz.prog 8 #[v] W (GivesG GrP rs W) := by
  obtain ⟨p, cap, rfl, hlen, hdata⟩ := hrow.parts
  have hmm := @run_makeMap Tryz.prog
  have N0 := Lib.hid (NBox.start W)
  have M0 := Lib.hid (((MapG.made (Y := kyI) W).alloc (.map #[] 0)).alloc (.cells #[.map (some W.heap.size), .map (some (W.heap.size + 1))] 61))
  have U0 := (MapG.made (Y := kyI) (W.alloc (.map #[] 0))).alloc (.cells #[.map (some W.heap.size), .map (some (W.heap.size + 1))] 61)
  rw [World.size_alloc] at U0
  have HU0 := Lib.hid U0
  have HL := Lib.hid L
  have HLK := Lib.hid LK
  obtain ⟨n, hn⟩ : ∃ n, n = rs.length := ⟨_, rfl⟩
  have HN := Lib.hid hn
  have hn2 : n ≤ 1000 := by rw [hn]; exact L.few
  rw [← hn] at hlen hdata ⊢
  clear U0 L LK hn hrow hlen
  go_enter Tryz.func8, Tryz.ntmps8
  go_wp2
  obtain ⟨W0, hW0⟩ : ∃ W0, W0 = ((W.alloc (.map #[] 0)).alloc (.map #[] 0)).alloc (.cells #[.map (some W.heap.size), .map (some (W.heap.size + 1))] 61) := ⟨_, rfl⟩
  rw [← hW0] at N0 M0 HU0 ⊢
  clear hW0 hmm
  go_loopw [15] (fun i wr => ∃ (k : Nat) (f : Idn → Option Value), k ≤ n ∧ i = .int .i64 k ∧ Hid (MapG kyI wr W.heap.size k f) ∧ Hid (Rf wr (rs.take k) f) ∧ Hid (W0.grownBy wr (some W.heap.size)) ∧ Hid (∀ j, j < k → atErr rs j = 0)) (fun i _ => n - (intOf i).toNat)
  case atStart =>
    exact ⟨0, _, Nat.zero_le _, rfl, M0, Lib.hid ⟨fun x => by simp [idsG], fun r hr => by simp at hr⟩, Lib.hid (grown_low _ (Below.refl _ _)), Lib.hid (fun j hj => absurd hj (Nat.not_lt_zero _))⟩
  case round =>
    obtain ⟨k, f, hk, rfl, hM, hR, hG, hE⟩ := hrel
    have hbW : Below W.heap.size W wr := N0.out.below.trans (grown_below hG.out (Nat.le_refl _) N0.out.below.size)
    have HBW := Lib.hid hbW
    by_cases hkn : k < n
    · obtain ⟨B, off, rfl, HD⟩ : ∃ B off, p = some ⟨B, off, none⟩ ∧ Hid (layG.In W B off rs) := hdata.resolve_left (by omega)
      have hkr : k < rs.length := by rw [← HN.out]; exact hkn
      have hin := HD.out.on hbW
      obtain ⟨⟨⟨a, b⟩, q, ds, cs⟩, hx⟩ : ∃ x, layG.at rs k = x := ⟨_, rfl⟩
      obtain ⟨p1, c1, p2, c2, RA, -, -⟩ := rcdAt hin hkr hx
      obtain ⟨e0, e1, e2, e3, e4⟩ := RA.five
      have hmem : ((a, b), q, ds, cs) ∈ rs := by rw [← hx]; exact layG.at_mem hkr
      have hwf := HL.out.wf _ hmem
      have hlow := HL.out.low _ hmem
      obtain ⟨X, hX⟩ : ∃ X, X = (wr.alloc (.cells #[.int .i64 a, .int .i64 b, .int .i64 q, .slice p1 ds.length c1, .slice p2 cs.length c2] 42)).drew := ⟨_, rfl⟩
      have hbX : Below wr.heap.size wr X := by rw [hX]; exact (Cmd.below_one _ _).drew
      have hbk := (hbX.block _ (Nat.lt_of_lt_of_le N0.out.lt hG.out.size)).trans ((hG.out.block _ N0.out.lt (fun e => by have := Option.some.inj e; omega)).trans N0.out.blk)
      have g0 : X.cell? ⟨W.heap.size + 1 + 1, 0, none⟩ = some (.map (some W.heap.size)) := cell_row (i := 0) hbk rfl
      have t5 := box_five wr a b q (.slice p1 ds.length c1) (.slice p2 cs.length c2)
      rw [← hX] at t5
      have x0 : X.cell? ⟨wr.heap.size, 0, none⟩ = some (.int .i64 a) := cell_row (i := 0) t5 rfl
      have x1 : X.cell? ⟨wr.heap.size, 1, none⟩ = some (.int .i64 b) := cell_row (i := 1) t5 rfl
      have x2 : X.cell? ⟨wr.heap.size, 2, none⟩ = some (.int .i64 q) := cell_row (i := 2) t5 rfl
      have x3 : X.cell? ⟨wr.heap.size, 3, none⟩ = some (.slice p1 ds.length c1) := cell_row (i := 3) t5 rfl
      have x4 : X.cell? ⟨wr.heap.size, 4, none⟩ = some (.slice p2 cs.length c2) := cell_row (i := 4) t5 rfl
      have k0 : (0 : Int) ≤ k := by omega
      have kn : (k : Int) < n := by omega
      have HGX : Hid (W0.grownBy X (some W.heap.size)) := Lib.hid (grown_two hG.out (grown_low _ hbX))
      have MX := hM.out.on hbX
      have RX := hR.out.keep (keeps_below hbX)
      have hd := RA.rd.on hbX
      have hc := RA.rc.on hbX
      have hatk : atErr rs k = if oneErr ((a, b), q, ds, cs) ≠ 0 then oneErr ((a, b), q, ds, cs) else if (a, b) ∈ idsG (rs.take k) then 16 else 0 := by unfold atErr; rw [hx]
      have HBX : Hid (Below W.heap.size W X) := Lib.hid (hbW.trans (hbX.mono hbW.size))
      by_cases he : atErr rs k = 0
      · have h1 : oneErr ((a, b), q, ds, cs) = 0 := Classical.byContradiction fun h => by rw [hatk, if_pos h] at he; exact h he
        have h2 : (a, b) ∉ idsG (rs.take k) := fun h => by rw [hatk, if_neg (by rw [h1]; simp), if_pos h] at he; cases he
        have CT := Lib.hid (take_ok X W.heap.size k (rs.take k) f MX RX a b q p1 c1 p2 c2 ds cs hd hc hwf hlow.1 hlow.2 h1 h2 (by omega))
        have HT : Hid (rs.take (k + 1) = rs.take k ++ [((a, b), q, ds, cs)]) := Lib.hid (by rw [layG.take hkr, hx])
        have HE2 : Hid (∀ j, j < k + 1 → atErr rs j = 0) := Lib.hid fun j hj => by
          rcases Nat.lt_succ_iff_lt_or_eq.1 hj with h | h
          · exact hE.out j h
          · rw [h]; exact he
        obtain ⟨n1, hn1⟩ : ∃ n1, n1 = ds.length := ⟨_, rfl⟩
        obtain ⟨n2, hn2'⟩ : ∃ n2, n2 = cs.length := ⟨_, rfl⟩
        rw [← hn1, ← hn2'] at CT hX
        rw [← hn1] at e3 x3
        rw [← hn2'] at e4 x4
        clear MX RX hd hc hatk he h1 h2 hwf hlow hmem RA hin hx hkr hbX hbk t5 hM hR hE hn1 hn2' hbW hdata
        subst hX
        go_wp2
        go_region_with (first
          | (go_at_call 21; (with_reducible refine CT.out.mono ?_); rintro E w1 ⟨rfl, hg1, f1, m1, r1⟩; have HG1 := Lib.hid (grown_two HGX.out hg1); have HM1 := Lib.hid m1; have HR1 := Lib.hid r1; clear hg1 m1 r1))
        all_goals
          go_wp2
          go_roundw
          case rel => exact ⟨k + 1, f1, by omega, by go_num, HM1, Lib.hid (by rw [HT.out]; exact HR1.out), HG1, HE2⟩
          case measure => simp [intOf]; omega
      · have CT := Lib.hid (take_err X W.heap.size k (rs.take k) f MX RX a b q p1 c1 p2 c2 ds cs hd hc hwf hatk.symm he)
        obtain ⟨e, hee⟩ : ∃ e, e = atErr rs k := ⟨_, rfl⟩
        have HGE : Hid (gErr rs = e) := Lib.hid (by rw [hee]; exact gerr_first hkr he hE.out)
        rw [← hee] at CT he
        have he2 : (e != 0) = true := by simp [he]
        have HNE := Lib.hid he
        obtain ⟨n1, hn1⟩ : ∃ n1, n1 = ds.length := ⟨_, rfl⟩
        obtain ⟨n2, hn2'⟩ : ∃ n2, n2 = cs.length := ⟨_, rfl⟩
        rw [← hn1, ← hn2'] at CT hX
        rw [← hn1] at e3 x3
        rw [← hn2'] at e4 x4
        clear MX RX hd hc hatk hee hwf hlow hmem RA hin hx hkr hbX hbk t5 hM hR hE hn1 hn2' hbW hdata
        subst hX
        go_wp2
        go_region_with (first
          | (go_at_call 21; (with_reducible refine CT.out.mono ?_); rintro E w1 ⟨rfl, hb⟩; have HB1 := Lib.hid (HBX.out.trans (hb.mono HBX.out.size)); clear hb))
        all_goals
          go_wp2
          go_ret2
          exact ⟨HB1.out, .inr ⟨by rw [HGE.out]; exact HNE.out, by rw [HGE.out]; rfl⟩⟩
    · have kn : ¬ (k : Int) < n := by omega
      have hke : k = n := by omega
      have hT : rs.take k = rs := List.take_of_length_le (by rw [← HN.out]; omega)
      have hgE : gErr rs = 0 := gerr_none fun j hj => hE.out j (by rw [← HN.out] at hj; omega)
      have hblk := (hG.out.block _ N0.out.lt (fun e => by have := Option.some.inj e; omega)).trans N0.out.blk
      have hR2 := hR.out
      rw [hT] at hR2
      have hU := map_far HU0.out hG.out (by omega)
      have LC := Lib.hid (HLK.out (W.heap.size + 1 + 1) W.heap.size (W.heap.size + 1) k f rs wr hblk hM.out hU hR2 HL.out hgE (by omega))
      have HF := Lib.hid (And.intro hblk (And.intro hU (And.intro hR2 hgE)))
      clear hT hgE hblk hR2 hU hdata hbW hke
      go_wp2_with (go_at_call 22; (with_reducible refine LC.out.mono ?_); rintro E w1 ⟨rfl, hg1, h, m1, u1⟩; have HG1 := Lib.hid hg1; have HM1 := Lib.hid m1; have HU1 := Lib.hid u1; clear hg1 m1 u1)
      go_ret2
      obtain ⟨hblk, hU, hR2, hgE⟩ := HF.out
      refine ⟨HBW.out.trans (grown_below HG1.out (by omega) HBW.out.size), .inl ⟨hgE, _, rfl, Nat.le_refl _, w1, W.heap.size, W.heap.size + 1, f, h, ⟨HL.out, hgE, ?_, ?_, HM1.out, hR2.keep (keeps_map hU HG1.out), HU1.out⟩, Nat.le_refl _, Below.refl _ _⟩⟩
      · exact keeps_map hU HG1.out _ _ _ hblk
      · exact (map_far hM.out HG1.out (by omega)).mono (by omega)
end Go.Proofs.YtomidcbpnaajeaaGreat.Gra

/- Plain facts and memory facts for link (layer 15, edges): whose Deps have an id; a map of lists in which one list grows by one. Conditions: those in each statement. -/
namespace Go.Proofs.YtomidcbpnaajeaaGreat.Gra
open Go.RowKit Cmd Bat Ids Rec Wid Mpg Itr Go.Maps
set_option linter.unusedVariables false
set_option linter.unusedSimpArgs false

/-! ### Plain: whose Deps have an id -/
def Ul (rs : List Rcd) (L : List Idn) (k : Nat) (x : Idn) : List Idn := (L.take k).filter fun i => decide (x ∈ dpG rs i)
def Uj (rs : List Rcd) (L : List Idn) (k j : Nat) (x : Idn) : List Idn := Ul rs L k x ++ if x ∈ (dpG rs (nth L k)).take j then [nth L k] else []
theorem uj_zero (rs : List Rcd) (L : List Idn) (k : Nat) : Uj rs L k 0 = Ul rs L k := by funext x; unfold Uj; simp
theorem nth_get {L : List Idn} {k : Nat} (h : k < L.length) : nth L k = L[k] := by unfold nth; rw [List.getD_eq_getElem?_getD, List.getElem?_eq_getElem h]; rfl
theorem uj_all {rs : List Rcd} {L : List Idn} {k j : Nat} (hk : k < L.length) (hj : (dpG rs (nth L k)).length ≤ j) : Uj rs L k j = Ul rs L (k + 1) := by
  funext x
  unfold Uj Ul
  rw [List.take_of_length_le hj, List.take_succ_eq_append_getElem hk, List.filter_append, nth_get hk]
  congr 1
  by_cases hm : x ∈ dpG rs L[k]
  · rw [if_pos hm]; simp [hm]
  · rw [if_neg hm]; simp [hm]
theorem uj_step {rs : List Rcd} {L : List Idn} {k j : Nat} (hn : (dpG rs (nth L k)).Nodup) (hj : j < (dpG rs (nth L k)).length) (x : Idn) :
    Uj rs L k (j + 1) x = if x = nth (dpG rs (nth L k)) j then Uj rs L k j x ++ [nth L k] else Uj rs L k j x := by
  have e : (dpG rs (nth L k)).take (j + 1) = (dpG rs (nth L k)).take j ++ [nth (dpG rs (nth L k)) j] := by rw [List.take_succ_eq_append_getElem hj, nth_get hj]
  have hno : nth (dpG rs (nth L k)) j ∉ (dpG rs (nth L k)).take j := by
    rw [nth_get hj]
    intro hm
    obtain ⟨i, hi, hie⟩ := List.getElem_of_mem hm
    rw [List.length_take] at hi
    rw [List.getElem_take] at hie
    have hi2 : i < (dpG rs (nth L k)).length := by omega
    have h2 := (List.getElem?_inj hi2 hn (j := j)).1 (by rw [List.getElem?_eq_getElem hi2, List.getElem?_eq_getElem hj, hie])
    omega
  unfold Uj
  rw [e]
  by_cases hx : x = nth (dpG rs (nth L k)) j
  · rw [if_pos hx, hx, if_neg hno, if_pos (by simp)]; simp
  · rw [if_neg hx]
    congr 1
    by_cases hm : x ∈ (dpG rs (nth L k)).take j
    · rw [if_pos hm, if_pos (List.mem_append_left _ hm)]
    · rw [if_neg hm, if_neg (by rw [List.mem_append, List.mem_singleton]; exact fun h => h.elim hm hx)]
theorem ul_users {rs : List Rcd} (hd : (idsG rs).Nodup) {k : Nat} (hk : (gIds rs).length ≤ k) : Ul rs (gIds rs) k = gUsers rs := by
  funext x
  unfold Ul gUsers
  rw [List.take_of_length_le hk]
  refine rise_eq (List.Pairwise.filter _ (srt_rise _)) (srt_rise _) fun i => ?_
  rw [List.mem_filter, srt_mem]
  unfold gIds usersL
  rw [srt_mem]
  constructor
  · rintro ⟨h1, h2⟩
    obtain ⟨r, hr, rfl⟩ := List.mem_map.1 h1
    rw [dp_of hd hr] at h2
    exact List.mem_map.2 ⟨r, List.mem_filter.2 ⟨hr, h2⟩, rfl⟩
  · intro h
    obtain ⟨r, hr, rfl⟩ := List.mem_map.1 h
    obtain ⟨h1, h2⟩ := List.mem_filter.1 hr
    exact ⟨List.mem_map.2 ⟨r, h1, rfl⟩, by rw [dp_of hd h1]; exact h2⟩
theorem deps_ok {x : Idn} {ds : List Idn} (h : depsErr x ds = 0) : ∀ j, j < ds.length → depErr x ds j = 0 := by
  cases hf : (List.range ds.length).find? (fun j => decide (depErr x ds j ≠ 0)) with
  | some k =>
    unfold depsErr at h
    rw [hf] at h
    rw [List.find?_range_eq_some] at hf
    exact absurd h (of_decide_eq_true hf.1)
  | none =>
    rw [List.find?_eq_none] at hf
    intro j hj
    have := hf j (List.mem_range.2 hj)
    exact Classical.byContradiction fun hn => this (decide_eq_true hn)
/-- The Deps of a record that may be rise, and are sixteen at most. -/
theorem one_ok {a b q : Int} {ds : List Idn} {cs : List Cmdn} (h : oneErr ((a, b), q, ds, cs) = 0) : Rise ds ∧ ds.length ≤ 16 := by
  unfold oneErr rErr at h
  simp only at h
  split at h
  · rename_i e; exact absurd h e
  · split at h
    · rename_i e; exact absurd h e
    · split at h
      · rename_i e; exact absurd h e
      · split at h
        · rename_i e; exact absurd h e
        · rename_i e3 e4
          have e3 : cntErr ds.length = 0 := Classical.byContradiction e3
          have e4 : depsErr (a, b) ds = 0 := Classical.byContradiction e4
          constructor
          · rw [← rises_rise, rises_iff]
            intro j hj
            have := deps_ok e4 (j + 1) hj
            unfold depErr at this
            split at this
            · rename_i e; exact absurd this e
            · split at this
              · cases this
              · split at this
                · cases this
                · rename_i e
                  cases hl : idLt (nth ds j) (nth ds (j + 1)) with
                  | true => rfl
                  | false => exact absurd ⟨Nat.succ_pos j, hl⟩ e
          · unfold cntErr at e3
            split at e3
            · cases e3
            · omega
theorem rise_nodup {l : List Idn} (h : Rise l) : l.Nodup := by
  refine List.Pairwise.imp (fun {a b} hab e => ?_) h
  subst e
  rw [lt_irr] at hab; cases hab
theorem lot_ok {rs : List Rcd} (h : gErr rs = 0) {r : Rcd} (hr : r ∈ rs) : Rise r.2.2.1 ∧ r.2.2.1.length ≤ 16 := by
  obtain ⟨j, hj, e⟩ := (Lay.mem (L := layG)).1 hr
  have := (gerr_at h hj).1
  rw [e] at this
  obtain ⟨⟨a, b⟩, q, ds, cs⟩ := r
  exact one_ok this

/-! ### In memory -/
/-- Some blocks are as they were. -/
def Sm (ks : List Nat) (A B : World) : Prop := ∀ k ∈ ks, B.heap[k]? = A.heap[k]?
theorem Sm.refl (ks : List Nat) (A : World) : Sm ks A A := fun _ _ => rfl
theorem Sm.trans {ks : List Nat} {A B C : World} (h : Sm ks A B) (k : Sm ks B C) : Sm ks A C := fun i hi => (k i hi).trans (h i hi)
theorem Sm.grown {ks : List Nat} {A B : World} {row : Option Nat} (h : A.grownBy B row) (hl : ∀ k ∈ ks, k < A.heap.size) (hr : ∀ k ∈ ks, some k ≠ row) : Sm ks A B := fun k hk => h.block k (hl k hk) (hr k hk)
set_option maxRecDepth 100000 in
/-- A row of ids of the call's own grows by one. -/
theorem grow_ids (w : World) (ty : TypeId) (base : Nat) (v : Value) (zs : List Idn) (hv : Owns w base v zs) (hb : base ≤ w.heap.size) (eb : Nat) (x y : Int) (he : w.heap[eb]? = some (.cells #[.int .i64 x, .int .i64 y] 32 (0, 0))) (hl : zs.length + 1 ≤ 1000000) :
    ∃ v' w', (Builtin.append_ #[23, 23] ty #[v, .slice (some ⟨eb, 0, none⟩) 1 1]).run Tryz.prog w = .ok v' w' ∧ Owns w' base v' (zs ++ [(x, y)]) ∧ w.grownBy w' v.ownBlock ∧ (v'.ownBlock = v.ownBlock ∨ v'.ownBlock = some w.heap.size) := by
  obtain ⟨i0, hi, hz0, hz1, hz2⟩ := info_parts info_id
  have hc : ∀ j u, [Value.int .i64 x, Value.int .i64 y][j]? = some u → w.cell? ((⟨eb, 0, none⟩ : Addr).add j) = some u := fun j u hu => by
    rw [Bat.add_lit]
    match j, hu with
    | 0, hu => injection hu with hu; subst hu; exact cell_row he rfl
    | 1, hu => injection hu with hu; subst hu; exact cell_row he rfl
    | j + 2, hu => simp at hu
  obtain ⟨v', w', hr, r1, r2, -, r3⟩ := run_append_own_at (P := Tryz.prog) (w := w) base 23 ty 32 i0 (.agg #[.int .i64 0, .int .i64 0]) 2 16 Tryz.underlying23 hi hz0 hz1 hz2 rfl (by decide) v zs.length (flat zs) hv ⟨eb, 0, none⟩ 1 1 [.int .i64 x, .int .i64 y] rfl hc (by simp [Value.oneCell']) (by unfold maxLen; omega) (by omega) hb
  exact ⟨v', w', hr, Owns.snoc r1, r2, r3⟩
set_option maxRecDepth 100000 in
theorem step_ids {ops : Array Oper} {o : Oper} {a : Act} {w : World} {K : Act → World → Prop} {Q : Exit → Act → World → Prop} {E : Prop}
    (hw : Region.wanted o (yielded ops a.tmps) = true) (s x : Operand) (ho : o.op = .call { callee := .builtin .append, args := #[s, x], argTypes := #[23, 23] })
    (base : Nat) (v : Value) (zs : List Idn) (hs : a.eval s = v) (hv : Owns w base v zs) (hb : base ≤ w.heap.size) (eb : Nat) (y z : Int) (hx : a.eval x = .slice (some ⟨eb, 0, none⟩) 1 1) (he : w.heap[eb]? = some (.cells #[.int .i64 y, .int .i64 z] 32 (0, 0))) (hl : zs.length + 1 ≤ 1000000)
    (hK : ∀ v' w', Hid (Owns w' base v' (zs ++ [(y, z)])) → Hid (w.grownBy w' v.ownBlock) → Hid (v'.ownBlock = v.ownBlock ∨ v'.ownBlock = some w.heap.size) → K (a.put o.dst v') w') : if Region.wanted o (yielded ops a.tmps) = true then Oper.wp Tryz.prog o a w K Q else E := by
  rw [if_pos hw]
  obtain ⟨v', w', hr, r1, r2, r3⟩ := grow_ids w o.type base v zs hv hb eb y z he hl
  unfold Oper.wp
  simp [execOp, ho, resolve, invoke, builtin, hs, hx, hr, Result.andThen]
  exact hK v' w' (Lib.hid r1) (Lib.hid r2) (Lib.hid r3)
end Go.Proofs.YtomidcbpnaajeaaGreat.Gra

/- What link's rounds leave in memory (layer 15, edges). Conditions: those in each statement. -/
namespace Go.Proofs.YtomidcbpnaajeaaGreat.Gra
open Go.RowKit Cmd Bat Ids Rec Wid Mpg Itr Go.Maps Go.ChangeMaps
set_option linter.unusedVariables false
set_option linter.unusedSimpArgs false

/-- Between two rounds of link's outer loop. -/
structure LkO (w1 : World) (mu K : Nat) (U : Idn → List Idn) (h : Idn → Option Value) (X : World) : Prop where
  um : MapG kyI X mu K h
  uf : Uf X w1.heap.size U h
  link : w1.grownBy X (some mu)
  mlt : mu < w1.heap.size
/-- Between two rounds of its inner loop: the id lies in a box. -/
structure LkI (w1 : World) (mu b3 : Nat) (x y : Int) (K : Nat) (U : Idn → List Idn) (h : Idn → Option Value) (X : World) : Prop where
  o : LkO w1 mu K U h X
  box : X.heap[b3]? = some (.cells #[.int .i64 x, .int .i64 y] 32 (0, 0))
  far : ∀ d v, h d = some v → v.ownBlock ≠ some b3
  ge : w1.heap.size ≤ b3
/-- The entry of d is there, and may be stored into. -/
structure LkM (w1 : World) (mu b3 : Nat) (x y : Int) (K : Nat) (U : Idn → List Idn) (h : Idn → Option Value) (d : Idn) (st : Int) (X : World) : Prop where
  uf : Uf X w1.heap.size U h
  link : w1.grownBy X (some mu)
  mlt : mu < w1.heap.size
  box : X.heap[b3]? = some (.cells #[.int .i64 x, .int .i64 y] 32 (0, 0))
  far : ∀ d v, h d = some v → v.ownBlock ≠ some b3
  ge : w1.heap.size ≤ b3
  ism : ∃ es c, X.heap[mu]? = some (.map es c)
  ent : ∀ (X2 : World) (v : Value), X2.heap[mu]? = X.heap[mu]? → ∃ X3, (Instr.entryStore 59 (.map (some mu)) (.int .i64 st) v).run Tryz.prog X2 = .ok () X3 ∧ MapG kyI X3 mu (K + 1) (setF h d (some v)) ∧ X2.mapTurned X3 mu
section
variable {w1 : World} {mu b3 : Nat} {x y : Int} {K : Nat} {U : Idn → List Idn} {h : Idn → Option Value} {d : Idn} {st : Int} {X X' : World}
theorem LkO.on (L : LkO w1 mu K U h X) (hb : Below X.heap.size X X') : LkO w1 mu K U h X' := ⟨L.um.on hb, L.uf.keep (keeps_below hb), grown_two L.link (grown_low mu hb), L.mlt⟩
theorem LkO.mono {K' : Nat} (L : LkO w1 mu K U h X) (hk : K ≤ K') : LkO w1 mu K' U h X := ⟨L.um.mono hk, L.uf, L.link, L.mlt⟩
theorem uf_lt {base : Nat} (u : Uf X base U h) {d : Idn} {v : Value} {k : Nat} (hv : h d = some v) (hk : v.ownBlock = some k) : base ≤ k ∧ k < X.heap.size := World.ownsRow.lt (u.yes d v hv).1 k hk
theorem LkO.box (L : LkO w1 mu K U h X) (x y : Int) : LkI w1 mu X.heap.size x y K U h (X.alloc (.cells #[.int .i64 x, .int .i64 y] 32)) :=
  ⟨L.on (Cmd.below_one _ _), heap_alloc_new X _, fun d v hv e => by have := (uf_lt L.uf hv e).2; omega, L.link.size⟩
theorem LkI.on (L : LkI w1 mu b3 x y K U h X) (hb : Below X.heap.size X X') : LkI w1 mu b3 x y K U h X' := ⟨L.o.on hb, keeps_below hb _ _ _ L.box, L.far, L.ge⟩
theorem LkM.on (L : LkM w1 mu b3 x y K U h d st X) (hb : Below X.heap.size X X') : LkM w1 mu b3 x y K U h d st X' := by
  have hmu : X'.heap[mu]? = X.heap[mu]? := by obtain ⟨es, c, e⟩ := L.ism; exact hb.block mu (Array.getElem?_eq_some_iff.1 e).1
  exact ⟨L.uf.keep (keeps_below hb), grown_two L.link (grown_low mu hb), L.mlt, keeps_below hb _ _ _ L.box, L.far, L.ge, by obtain ⟨es, c, e⟩ := L.ism; exact ⟨es, c, hmu.trans e⟩, fun X2 v e => L.ent X2 v (e.trans hmu)⟩
theorem zero_ids (w : World) : (zeroValue 23).run Tryz.prog w = .ok (.slice none 0 0) w := by kernel_rfl
theorem LkI.entry (L : LkI w1 mu b3 x y K U h X) (hK : K ≤ 1000000) (d1 d2 : Int) (hd : wfId (d1, d2)) :
    ∃ st X2, (Instr.mapEntry 59 (.map (some mu)) (.agg #[.int .i64 d1, .int .i64 d2])).run Tryz.prog X = .ok (.tuple #[(h (d1, d2)).getD (.slice none 0 0), .int .i64 st]) X2 ∧ LkM w1 mu b3 x y K U h (d1, d2) st X2 ∧ X.mapTurned X2 mu := by
  obtain ⟨st, X2, h1, h2, h3⟩ := L.o.um.entry klaw_id Tryz.underlying59 zero_ids hK (x := (d1, d2)) hd
  have kk := keeps_turn h2
  exact ⟨st, X2, h1, ⟨L.o.uf.keep kk, grown_two L.o.link h2.grown, L.o.mlt, kk _ _ _ L.box, L.far, L.ge, by obtain ⟨es, c, es', c', e, rfl⟩ := h2; exact ⟨es', c', heap_setBlock_same e _⟩, h3⟩, h2⟩
/-- The list of d has grown, and is stored. -/
theorem LkM.put (L : LkM w1 mu b3 x y K U h d st X) {v' : Value} (ho : Owns X' w1.heap.size v' (U d ++ [(x, y)])) (hg : X.grownBy X' ((h d).getD (.slice none 0 0)).ownBlock) (hn : v'.ownBlock = ((h d).getD (.slice none 0 0)).ownBlock ∨ v'.ownBlock = some X.heap.size) :
    ∃ X4, (Instr.entryStore 59 (.map (some mu)) (.int .i64 st) v').run Tryz.prog X' = .ok () X4 ∧ LkI w1 mu b3 x y (K + 1) (fun z => if z = d then U d ++ [(x, y)] else U z) (setF h d (some v')) X4 ∧ X'.mapTurned X4 mu := by
  obtain ⟨v, hv⟩ : ∃ v, v = (h d).getD (.slice none 0 0) := ⟨_, rfl⟩
  rw [← hv] at hg hn
  have hblk : ∀ k, v.ownBlock = some k → h d = some v ∧ w1.heap.size ≤ k ∧ k < X.heap.size ∧ k ≠ mu ∧ k ≠ b3 := fun k hk => by
    cases hd : h d with
    | none => rw [hd] at hv; rw [hv] at hk; cases hk
    | some u =>
      rw [hd] at hv
      have hvu : v = u := hv
      subst hvu
      obtain ⟨h1, h2⟩ := uf_lt L.uf hd hk
      exact ⟨rfl, h1, h2, by have := L.mlt; omega, fun e => L.far d v hd (by rw [hk, e])⟩
  have b3lt : b3 < X.heap.size := (Array.getElem?_eq_some_iff.1 L.box).1
  have hb3 : X'.heap[b3]? = X.heap[b3]? := hg.block b3 b3lt (fun e => (hblk b3 e.symm).2.2.2.2 rfl)
  have mult : mu < X.heap.size := Nat.lt_of_lt_of_le L.mlt L.link.size
  have hmu : X'.heap[mu]? = X.heap[mu]? := hg.block mu mult (fun e => (hblk mu e.symm).2.2.2.1 rfl)
  obtain ⟨X4, h1, h2, h3⟩ := L.ent X' v' hmu
  have kk := keeps_turn h3
  have hne : mu ≠ b3 := by have := L.mlt; have := L.ge; omega
  have hfar : ∀ z u, z ≠ d → h z = some u → Owns X4 w1.heap.size u (U z) := fun z u hz hu => by
    refine owns_keep ?_ kk
    have ho' := (L.uf.yes z u hu).1
    refine ⟨ho'.1, ho'.2.imp id fun ⟨g, cap, cur, e1, e2, e3, e4⟩ => ⟨g, cap, cur, e1, e2, ?_, e4⟩⟩
    refine (hg.block g (Array.getElem?_eq_some_iff.1 e3).1 (fun e => ?_)).trans e3
    have hd := (hblk g e.symm).1
    exact hz (L.uf.apart z d u v g hu hd (by rw [e1]; rfl) e.symm)
  have hap : ∀ z u k, z ≠ d → h z = some u → u.ownBlock = some k → v'.ownBlock = some k → False := fun z u k hz hu hk hk' => by
    rcases hn with e | e
    · rw [hk'] at e
      exact hz (L.uf.apart z d u v k hu (hblk k e.symm).1 hk e.symm)
    · rw [hk'] at e
      have := (uf_lt L.uf hu hk).2
      have := Option.some.inj e
      omega
  refine ⟨X4, h1, ⟨⟨h2, ⟨fun z hz => ?_, fun z u hu => ?_, fun z1 z2 u1 u2 k h1 h2 k1 k2 => ?_⟩, ?_, L.mlt⟩, kk _ _ _ (hb3.trans L.box), fun z u hu => ?_, L.ge⟩, h3⟩
  · by_cases e : z = d
    · rw [e, setF_same] at hz; cases hz
    · rw [setF_other h _ e] at hz; rw [if_neg e]; exact L.uf.no z hz
  · by_cases e : z = d
    · rw [e, setF_same] at hu; cases hu
      rw [if_pos e]
      exact ⟨owns_keep ho kk, by simp⟩
    · rw [setF_other h _ e] at hu; rw [if_neg e]; exact ⟨hfar z u e hu, (L.uf.yes z u hu).2⟩
  · by_cases e1 : z1 = d
    · by_cases e2 : z2 = d
      · rw [e1, e2]
      · rw [e1, setF_same] at h1; cases h1
        rw [setF_other h _ e2] at h2
        exact (hap z2 u2 k e2 h2 k2 k1).elim
    · by_cases e2 : z2 = d
      · rw [e2, setF_same] at h2; cases h2
        rw [setF_other h _ e1] at h1
        exact (hap z1 u1 k e1 h1 k1 k2).elim
      · rw [setF_other h _ e1] at h1
        rw [setF_other h _ e2] at h2
        exact L.uf.apart z1 z2 u1 u2 k h1 h2 k1 k2
  · have g4 := h3.grown
    refine ⟨g4.os.trans (hg.os.trans L.link.os), g4.tape.trans (hg.tape.trans L.link.tape), g4.output.trans (hg.output.trans L.link.output), Nat.le_trans L.link.size (Nat.le_trans hg.size g4.size), fun i hi hr => ?_⟩
    have hiX := Nat.lt_of_lt_of_le hi L.link.size
    exact (g4.block i (Nat.lt_of_lt_of_le hiX hg.size) hr).trans ((hg.block i hiX (fun e => by have := (hblk i e.symm).2.1; omega)).trans (L.link.block i hi hr))
  · by_cases e : z = d
    · rw [e, setF_same] at hu; cases hu
      intro e2
      rcases hn with e3 | e3
      · rw [e2] at e3; exact (hblk b3 e3.symm).2.2.2.2 rfl
      · rw [e2] at e3; have := Option.some.inj e3; omega
    · rw [setF_other h _ e] at hu; exact L.far z u hu
end
end Go.Proofs.YtomidcbpnaajeaaGreat.Gra

/- What the developers' link gives (layer 15, edges): each Dep's users, in order. Conditions: those in each statement; SortIs: what ident.Sorted gives. (Written by tools/gen_grbm.py.) -/
namespace Go.Proofs.YtomidcbpnaajeaaGreat.Gra
open Go.RowKit Cmd Bat Ids Rec Wid Mpg Itr Go.Maps
set_option linter.unusedVariables false
set_option linter.unusedSimpArgs false

theorem f_deps (a b q : Int) (v u : Value) (W : World) : (Instr.field 42 (.agg #[.int .i64 a, .int .i64 b, .int .i64 q, v, u]) 2).run Tryz.prog W = .ok v W := by kernel_rfl
theorem cell_link {A B : World} {m : Nat} {es : Array MapEntry} {c : Nat} (hg : A.grownBy B (some m)) (hm : A.heap[m]? = some (.map es c)) {a : Addr} {v : Value} (h : A.cell? a = some v) : B.cell? a = some v := by
  obtain ⟨o, ho, hw⟩ := not_walk_of_cell h
  have hb := hg.block a.block (Array.getElem?_eq_some_iff.1 ho).1 (fun e => by
    have := Option.some.inj e
    rw [this, hm] at ho
    cases ho; cases hw)
  unfold World.cell? at *
  rw [hb]; exact h
theorem LkM.own {w1 : World} {mu b3 : Nat} {x y : Int} {K : Nat} {U : Idn → List Idn} {h : Idn → Option Value} {d : Idn} {st : Int} {X : World} (L : LkM w1 mu b3 x y K U h d st X) : Owns X w1.heap.size ((h d).getD (.slice none 0 0)) (U d) := by
  cases hd : h d with
  | none => rw [L.uf.no d hd]; exact World.ownsRow_nil _ _ _ _
  | some v => exact (L.uf.yes d v hd).1
theorem map_is {X : World} {b N : Nat} {f : Idn → Option Value} (M : MapG kyI X b N f) : ∃ es c, X.heap[b]? = some (.map es c) := by
  obtain ⟨D, ks, ⟨es, c, hb, _⟩, _⟩ := M
  exact ⟨es, c, hb⟩
set_option maxRecDepth 100000 in
set_option maxHeartbeats 16000000 in
theorem link_any (SO : SortIs) : LinkIs := by
  intro g mr mu N f rs W hblk M0 U0 R0 L0 err hne
  have hnd := gerr_nodup err
  obtain ⟨L, hL⟩ : ∃ L, L = gIds rs := ⟨_, rfl⟩
  obtain ⟨n, hn⟩ : ∃ n, n = L.length := ⟨_, rfl⟩
  have hn1 : n ≤ 1000 := by
    have h1 := srt_length (idsG rs)
    rw [idsG_len] at h1
    have h2 := L0.few
    rw [hn, hL]
    unfold gIds
    omega
  have M0' : MapG kyI W mr 1000 f := by
    obtain ⟨D, ks, h1, h2, h3⟩ := M0
    refine ⟨D, ks, h1, h2, ?_⟩
    have := nodup_len h2.nodup (fun x hx => (R0.has x).1 ((h2.mem x).1 hx))
    rw [idsG_len] at this
    have := L0.few
    omega
  have HI : Hid (Calls Tryz.prog 45 #[.agg #[.map (some mr)]] W fun E w' => ∃ p cap, E = .returned (.slice p n cap) ∧ (n = 0 ∨ ∃ B off, p = some ⟨B, off, none⟩ ∧ Hid (Row2 w' B off L)) ∧ Below W.heap.size W w') := Lib.hid <| by
    refine (ids_run (some mr) (gIds rs) W SO (coll_some W mr 1000 rs f M0' (by omega) R0 L0.few hnd)).mono ?_
    rintro E w' ⟨v, rfl, hr, hb⟩
    rw [← hL] at hr
    obtain ⟨p, cap, rfl, -, h2⟩ := Rec.RowAt.parts hr
    rw [hn]
    exact ⟨p, cap, rfl, h2, hb⟩
  have c0 : W.cell? ⟨g, 0, none⟩ = some (.map (some mr)) := cell_row (i := 0) hblk rfl
  have HBK := Lib.hid hblk
  have HM := Lib.hid M0'
  have HU0 := Lib.hid U0
  have HR := Lib.hid R0
  have HL0 := Lib.hid L0
  have HER := Lib.hid err
  have HND := Lib.hid hnd
  have HLL := Lib.hid hL
  have HN := Lib.hid hn
  have HNE := Lib.hid hne
  clear SO M0 M0' U0 R0 L0 err hnd hL hn hblk hne
  go_enter Tryz.func22, Tryz.ntmps22
  go_wp2_with (first
    | (go_at_call 45; (with_reducible refine HI.out.mono ?_); rintro E w1 ⟨p, cap, rfl, hdata, hb⟩; have HB1 := Lib.hid hb; have HDT := Lib.hid hdata; clear hb hdata))
  clear c0
  have HBK1 : Hid (w1.heap[g]? = some (.cells #[.map (some mr), .map (some mu)] 61 (0, 0))) := Lib.hid (keeps_below HB1.out _ _ _ HBK.out)
  have HU1 := Lib.hid (HU0.out.on HB1.out)
  have HM1 := Lib.hid (HM.out.on HB1.out)
  have HR1 := Lib.hid (HR.out.keep (keeps_below HB1.out))
  have HMUL : Hid (mu < w1.heap.size) := Lib.hid HU1.out.lt
  go_loopw [12] (fun i wr => ∃ (k : Nat) (h : Idn → Option Value), k ≤ n ∧ i = .int .i64 k ∧ Hid (LkO w1 mu (k * 16) (Ul rs L k) h wr)) (fun i _ => n - (intOf i).toNat)
  case atStart =>
    exact ⟨0, fun _ => none, Nat.zero_le _, rfl, Lib.hid ⟨HU1.out, ⟨fun x _ => by unfold Ul; simp, fun x v e => (by cases e), fun x y u v k e => (by cases e)⟩, grown_low mu (Below.refl _ _), HMUL.out⟩⟩
  case round =>
    obtain ⟨k, h, hk, rfl, hO⟩ := hrel
    by_cases hkn : k < n
    · obtain ⟨B, off, rfl, HC⟩ : ∃ B off, p = some ⟨B, off, none⟩ ∧ Hid (Row2 w1 B off L) := HDT.out.resolve_left (by omega)
      have hkl : k < L.length := by rw [← HN.out]; exact hkn
      obtain ⟨es1, cl1, hmu1⟩ := map_is HU1.out
      obtain ⟨⟨x, y⟩, hxy⟩ : ∃ z, nth L k = z := ⟨_, rfl⟩
      have e1 := cell_link hO.out.link hmu1 (HC.out.fst k hkl)
      have e2 := cell_link hO.out.link hmu1 (HC.out.snd k hkl)
      rw [hxy] at e1 e2
      have hmem : (x, y) ∈ idsG rs := by
        have : nth L k ∈ L := by rw [nth_get hkl]; exact List.getElem_mem hkl
        rw [hxy, HLL.out] at this
        exact (srt_mem _ _).1 this
      obtain ⟨r, hr, hrx⟩ := List.mem_map.1 hmem
      obtain ⟨⟨a', b'⟩, q, ds, cs⟩ := r
      have hrx : (a', b') = (x, y) := hrx
      obtain ⟨rfl, rfl⟩ : a' = x ∧ b' = y := ⟨congrArg Prod.fst hrx, congrArg Prod.snd hrx⟩
      have hdp : dpG rs (a', b') = ds := dp_of HND.out hr
      have hok := lot_ok HER.out hr
      have hwf := HL0.out.wf _ hr
      obtain ⟨v0, hf0, G, H, hv0, hG1, -⟩ := HR1.out.val _ hr
      have HIW : Hid (wfId (a', b')) := Lib.hid hwf.id
      have X0I := hO.out.box a' b'
      have hb0 := Cmd.below_one wr (.cells #[.int .i64 a', .int .i64 b'] 32)
      have mrX := ((map_far HM1.out hO.out.link HNE.out).on hb0)
      have LK : ∀ m, (Instr.lookup 56 (.map (some mr)) (.agg #[.int .i64 a', .int .i64 b']) false).run Tryz.prog ((wr.alloc (.cells #[.int .i64 a', .int .i64 b'] 32)).drewN m) = .ok (.agg #[.int .i64 a', .int .i64 b', .int .i64 q, .slice (some ⟨G, 0, none⟩) ds.length ds.length, .slice (some ⟨H, 0, none⟩) cs.length cs.length]) ((wr.alloc (.cells #[.int .i64 a', .int .i64 b'] 32)).drewN m) := fun m => by
        have := (MapG.block (w' := (wr.alloc (.cells #[.int .i64 a', .int .i64 b'] 32)).drewN m) mrX rfl).look Tryz.underlying56 zero_rec (x := (a', b')) HIW.out
        rw [hf0, hv0] at this
        exact this
      have hgX : (wr.alloc (.cells #[.int .i64 a', .int .i64 b'] 32)).heap[g]? = some (.cells #[.map (some mr), .map (some mu)] 61 (0, 0)) := keeps_below hb0 _ _ _ (keeps_map HU1.out hO.out.link _ _ _ HBK1.out)
      have g0 : (wr.alloc (.cells #[.int .i64 a', .int .i64 b'] 32)).cell? ⟨g, 0, none⟩ = some (.map (some mr)) := cell_row (i := 0) hgX rfl
      have i0 : (wr.alloc (.cells #[.int .i64 a', .int .i64 b'] 32)).cell? ⟨wr.heap.size, 0, none⟩ = some (.int .i64 a') := cell_row (i := 0) X0I.box rfl
      have i1 : (wr.alloc (.cells #[.int .i64 a', .int .i64 b'] 32)).cell? ⟨wr.heap.size, 1, none⟩ = some (.int .i64 b') := cell_row (i := 1) X0I.box rfl
      have hfd := f_deps a' b' q
      have k0 : (0 : Int) ≤ k := by omega
      have kn : (k : Int) < n := by omega
      obtain ⟨nd, hnd⟩ : ∃ nd, nd = ds.length := ⟨_, rfl⟩
      obtain ⟨nc, hnc⟩ : ∃ nc, nc = cs.length := ⟨_, rfl⟩
      rw [← hnd, ← hnc] at LK
      have HX0 := Lib.hid X0I
      have HG := Lib.hid hG1
      have HDP := Lib.hid hdp
      have HOK := Lib.hid hok
      have HDW : Hid (∀ d ∈ ds, wfId d) := Lib.hid hwf.deps
      have HDN := Lib.hid hnd
      have HXY := Lib.hid hxy
      have HKL := Lib.hid hkl
      have hnd16 : nd ≤ 16 := by rw [hnd]; exact hok.2
      clear hkl hxy hmem hr hrx hdp hok hwf hf0 hv0 hG1 hgX mrX hb0 X0I hmu1 hnd hnc
      go_wp2
      go_quiet (fail)
      clear LK g0 i0 i1 hfd e1 e2
      obtain ⟨X1, hX1⟩ : ∃ X1, X1 = (wr.alloc (.cells #[.int .i64 a', .int .i64 b'] 32)).drewN nq := ⟨_, rfl⟩
      have HX1 : Hid (LkI w1 mu wr.heap.size a' b' (k * 16) (Ul rs L k) h X1) := Lib.hid (by rw [hX1]; exact HX0.out.on (Bat.below_draws _ _))
      go_wp2
      try rw [← hX1]
      clear hX1 HX0
      obtain ⟨wO, hwO⟩ : ∃ wO, wO = wr := ⟨_, rfl⟩
      subst hwO
      go_loopw [25] (fun j wr => ∃ (jj : Nat) (h : Idn → Option Value), jj ≤ nd ∧ j = .int .i64 jj ∧ Hid (LkI w1 mu wO.heap.size a' b' (k * 16 + jj) (Uj rs L k jj) h wr)) (fun j _ => nd - (intOf j).toNat)
      case atStart =>
        exact ⟨0, h, Nat.zero_le _, rfl, Lib.hid (by rw [uj_zero]; exact HX1.out)⟩
      case round =>
        clear hO HX1
        obtain ⟨jj, h, hj, rfl, hI⟩ := hrel
        by_cases hjn : jj < nd
        · have hjl : jj < ds.length := by rw [← HDN.out]; exact hjn
          obtain ⟨⟨d1, d2⟩, hd12⟩ : ∃ z, nth ds jj = z := ⟨_, rfl⟩
          have hGr := keeps_map HU1.out hI.out.o.link _ _ _ HG.out
          obtain ⟨f1, f2⟩ := flat_at ds jj hjl
          rw [hd12] at f1 f2
          have q1 : wr.cell? ⟨G, jj * 2, none⟩ = some (.int .i64 d1) := cell_row hGr (by simpa using f1)
          have q2 : wr.cell? ⟨G, jj * 2 + 1, none⟩ = some (.int .i64 d2) := cell_row hGr (by simpa using f2)
          have HD : Hid (wfId (d1, d2)) := Lib.hid (HDW.out _ (by rw [← hd12, nth_get hjl]; exact List.getElem_mem hjl))
          have j0 : (0 : Int) ≤ jj := by omega
          have jn : (jj : Int) < nd := by omega
          obtain ⟨x, hx⟩ : ∃ x, x = a' := ⟨_, rfl⟩
          obtain ⟨y, hy⟩ : ∃ y, y = b' := ⟨_, rfl⟩
          have HU : Hid (Uj rs L k (jj + 1) = fun z => if z = (d1, d2) then Uj rs L k jj (d1, d2) ++ [(x, y)] else Uj rs L k jj z) := Lib.hid (by
            funext z
            rw [uj_step (by rw [HXY.out, HDP.out]; exact rise_nodup HOK.out.1) (by rw [HXY.out, HDP.out]; exact hjl) z, HXY.out, HDP.out, hd12, hx, hy]
            by_cases e : z = (d1, d2)
            · rw [if_pos e, if_pos e, e]
            · rw [if_neg e, if_neg e])
          have HLN : Hid ((Uj rs L k jj (d1, d2)).length + 1 ≤ 1000000) := Lib.hid (by
            have h1 : (Ul rs L k (d1, d2)).length ≤ L.length := Nat.le_trans (List.length_filter_le _ _) (by rw [List.length_take]; omega)
            have h2 : (Uj rs L k jj (d1, d2)).length ≤ L.length + 1 := by
              unfold Uj
              rw [List.length_append]
              split
              · simp; omega
              · simp; omega
            have := HN.out
            omega)
          have HK : Hid (k * 16 + jj ≤ 1000000) := Lib.hid (by omega)
          obtain ⟨v, hv⟩ : ∃ v, v = (h (d1, d2)).getD (.slice none 0 0) := ⟨_, rfl⟩
          have HV := Lib.hid hv
          have hb5 := (Cmd.below_one wr (.cells #[.int .i64 d1, .int .i64 d2] 32)).drew
          have MY0 := Lib.hid (hI.out.on hb5)
          have hblkY := keeps_below hb5 _ _ _ (keeps_map HU1.out hI.out.o.link _ _ _ HBK1.out)
          have hbx5 : (wr.alloc (.cells #[.int .i64 d1, .int .i64 d2] 32)).drew.heap[wr.heap.size]? = some (.cells #[.int .i64 d1, .int .i64 d2] 32 (0, 0)) := heap_alloc_new wr _
          have hglt : g < w1.heap.size := (Array.getElem?_eq_some_iff.1 HBK1.out).1
          have hsz1 : w1.heap.size ≤ wr.heap.size := hI.out.o.link.size
          have hb3lt : wO.heap.size < wr.heap.size := (Array.getElem?_eq_some_iff.1 hI.out.box).1
          have hge := hI.out.ge
          have HFR : Hid (∀ k ∈ [g, wr.heap.size, wO.heap.size], some k ≠ v.ownBlock) := Lib.hid fun kk hkk e => by
            have hsome : h (d1, d2) = some v := by
              cases hd : h (d1, d2) with
              | none => rw [hd] at hv; rw [hv] at e; cases e
              | some u => rw [hd] at hv; rw [hv]; rfl
            have hlt := uf_lt hI.out.o.uf hsome e.symm
            rcases List.mem_cons.1 hkk with e1 | hkk
            · omega
            · rcases List.mem_cons.1 hkk with e1 | hkk
              · omega
              · have e1 := List.mem_singleton.1 hkk
                rw [e1] at e
                exact hI.out.far _ v hsome e.symm
          have HMU : Hid (∀ k ∈ [g, wr.heap.size, wO.heap.size], k ≠ mu) := Lib.hid fun kk hkk e => by
            have := HMUL.out
            rcases List.mem_cons.1 hkk with e1 | hkk
            · obtain ⟨es1, cl1, hmu1⟩ := map_is HU1.out
              have hb := HBK1.out
              rw [← e1, e, hmu1] at hb; cases hb
            · rcases List.mem_cons.1 hkk with e1 | hkk
              · omega
              · have e1 := List.mem_singleton.1 hkk; omega
          rw [← hx, ← hy] at MY0
          obtain ⟨Y0, hY0⟩ : ∃ Y0, Y0 = (wr.alloc (.cells #[.int .i64 d1, .int .i64 d2] 32)).drew := ⟨_, rfl⟩
          have HS : Hid (∀ w', Sm [g, wr.heap.size, wO.heap.size] Y0 w' → w'.cell? ⟨g, 1, none⟩ = some (.map (some mu)) ∧ w'.cell? ⟨wr.heap.size, 0, none⟩ = some (.int .i64 d1) ∧ w'.cell? ⟨wr.heap.size, 1, none⟩ = some (.int .i64 d2) ∧ w'.cell? ⟨wO.heap.size, 0, none⟩ = some (.int .i64 x) ∧ w'.cell? ⟨wO.heap.size, 1, none⟩ = some (.int .i64 y)) := Lib.hid fun w' hs => by
            rw [hY0] at hs
            have h1 := (hs g (by simp)).trans hblkY
            have h2 := (hs wr.heap.size (by simp)).trans hbx5
            have h3 := (hs wO.heap.size (by simp)).trans MY0.out.box
            exact ⟨cell_row (i := 1) h1 rfl, cell_row (i := 0) h2 rfl, cell_row (i := 1) h2 rfl, cell_row (i := 0) h3 rfl, cell_row (i := 1) h3 rfl⟩
          have HZ : Hid (∀ w', Sm [g, wr.heap.size, wO.heap.size] Y0 w' → ∀ k ∈ [g, wr.heap.size, wO.heap.size], k < w'.heap.size) := Lib.hid fun w' hs kk hkk => by
            have h0 := hs kk hkk
            have : ∃ o, Y0.heap[kk]? = some o := by
              rw [hY0]
              rcases List.mem_cons.1 hkk with e1 | hkk
              · rw [e1]; exact ⟨_, hblkY⟩
              · rcases List.mem_cons.1 hkk with e1 | hkk
                · rw [e1]; exact ⟨_, hbx5⟩
                · rw [List.mem_singleton.1 hkk]; exact ⟨_, MY0.out.box⟩
            obtain ⟨o, ho⟩ := this
            rw [ho] at h0
            exact (Array.getElem?_eq_some_iff.1 h0).1
          have QY0 : Hid (Sm [g, wr.heap.size, wO.heap.size] Y0 Y0) := Lib.hid (Sm.refl _ _)
          rw [← hY0] at MY0
          have HXE := Lib.hid (And.intro hx hy)
          clear hx hy hv hd12 f1 f2 hGr hjl hblkY hbx5 hglt hsz1 hb3lt hge hb5 hI
          go_wp2
          refine wp_region_held_drew (S := (fun w' => w'.cell? ⟨g, 1, none⟩ = some (.map (some mu)) ∧ w'.cell? ⟨wr.heap.size, 0, none⟩ = some (.int .i64 d1) ∧ w'.cell? ⟨wr.heap.size, 1, none⟩ = some (.int .i64 d2) ∧ w'.cell? ⟨wO.heap.size, 0, none⟩ = some (.int .i64 x) ∧ w'.cell? ⟨wO.heap.size, 1, none⟩ = some (.int .i64 y))) (by kernel_rfl) (by rw [← hY0]; exact HS.out _ QY0.out) (fun hHeld => ?_)
          rw [← hY0] at hHeld ⊢
          clear hY0
          refine wpAnyH_take (i := 0) (v := ?_) rfl (by kernel_rfl) (by kernel_rfl) (by kernel_rfl) (fun _ _ _ h => h) (Or.inl ⟨by rfl, fun w hSw => ?_⟩) (by assumption) ?_
          rotate_left
          · (try dsimp only at hSw); go_simp; (try with_reducible rfl)
          try simp only [List.getElem_toArray, List.getElem_cons_succ, List.getElem_cons_zero, Act.put, List.setIfInBounds_toArray, List.set_cons_zero, List.set_cons_succ]
          refine wpAnyH_take (i := 1) (v := ?_) rfl (by kernel_rfl) (by kernel_rfl) (by kernel_rfl) (fun _ _ _ h => h) (Or.inl ⟨by rfl, fun w hSw => ?_⟩) (by assumption) ?_
          rotate_left
          · (try dsimp only at hSw); go_simp; (try with_reducible rfl)
          try simp only [List.getElem_toArray, List.getElem_cons_succ, List.getElem_cons_zero, Act.put, List.setIfInBounds_toArray, List.set_cons_zero, List.set_cons_succ]
          refine wpAnyH_take (i := 2) (v := ?_) rfl (by kernel_rfl) (by kernel_rfl) (by kernel_rfl) (fun _ _ _ h => h) (Or.inl ⟨by rfl, fun w hSw => ?_⟩) (by assumption) ?_
          rotate_left
          · (try dsimp only at hSw); go_simp; (try with_reducible rfl)
          try simp only [List.getElem_toArray, List.getElem_cons_succ, List.getElem_cons_zero, Act.put, List.setIfInBounds_toArray, List.set_cons_zero, List.set_cons_succ]
          refine wpAnyH_take (i := 3) (v := ?_) rfl (by kernel_rfl) (by kernel_rfl) (by kernel_rfl) (fun _ _ _ h => h) (Or.inl ⟨by rfl, fun w hSw => ?_⟩) (by assumption) ?_
          rotate_left
          · (try dsimp only at hSw); go_simp; (try with_reducible rfl)
          try simp only [List.getElem_toArray, List.getElem_cons_succ, List.getElem_cons_zero, Act.put, List.setIfInBounds_toArray, List.set_cons_zero, List.set_cons_succ]
          refine wpAnyH_take (i := 4) (v := ?_) rfl (by kernel_rfl) (by kernel_rfl) (by kernel_rfl) (fun _ _ _ h => h) (Or.inl ⟨by rfl, fun w hSw => ?_⟩) (by assumption) ?_
          rotate_left
          · (try dsimp only at hSw); go_simp; (try with_reducible rfl)
          try simp only [List.getElem_toArray, List.getElem_cons_succ, List.getElem_cons_zero, Act.put, List.setIfInBounds_toArray, List.set_cons_zero, List.set_cons_succ]
          refine wpAnyH_take (i := 5) (v := ?_) rfl (by kernel_rfl) (by kernel_rfl) (by kernel_rfl) (fun _ _ _ h => h) (Or.inl ⟨by rfl, fun w hSw => ?_⟩) (by assumption) ?_
          rotate_left
          · (try dsimp only at hSw); go_simp; (try with_reducible rfl)
          try simp only [List.getElem_toArray, List.getElem_cons_succ, List.getElem_cons_zero, Act.put, List.setIfInBounds_toArray, List.set_cons_zero, List.set_cons_succ]
          refine wpAnyH_ready (rs := [6]) (by kernel_rfl) (by simp) ?_
          refine AllReadyH.cons rfl (fun K hK => ?_) ?_
          · go_simp
            have MY1 := Lib.hid (MY0.out.on (Cmd.below_one Y0 (.cells #[.int .i64 x, .int .i64 y] 32)))
            have EY1 := Lib.hid (heap_alloc_new Y0 (.cells #[.int .i64 x, .int .i64 y] 32))
            have QY1 := Lib.hid (QY0.out.trans (Sm.grown (World.grownBy_alloc Y0 (.cells #[.int .i64 x, .int .i64 y] 32) none) (fun k hk => HZ.out _ QY0.out k hk) (fun k hk => by simp)))
            refine hK.out _ _ ?_ (fun hHeld => ?_)
            · exact HS.out _ QY1.out
            clear hK K
            generalize Y0.alloc (.cells #[.int .i64 x, .int .i64 y] 32) = Y1 at MY1 EY1 QY1 hHeld ⊢
            try simp only [List.getElem_toArray, List.getElem_cons_succ, List.getElem_cons_zero, Act.put, List.setIfInBounds_toArray, List.set_cons_zero, List.set_cons_succ]
            refine wpAnyH_ready (rs := [7]) (by kernel_rfl) (by simp) ?_
            refine AllReadyH.cons rfl (fun K hK => ?_) ?_
            · obtain ⟨st, Y2, hrun, hm, ht⟩ := MY1.out.entry HK.out d1 d2 HD.out
              rw [← HV.out] at hrun
              have MY2 := Lib.hid hm
              have QY2 := Lib.hid (QY1.out.trans (Sm.grown ht.grown (fun k hk => HZ.out _ QY1.out k hk) (fun k hk e => HMU.out k hk (Option.some.inj e))))
              have EY2 := Lib.hid (keeps_turn ht _ _ _ EY1.out)
              clear hm ht
              go_simp
              clear hrun
              refine hK.out _ _ ?_ (fun hHeld => ?_)
              · exact HS.out _ QY2.out
              clear hK K
              try simp only [List.getElem_toArray, List.getElem_cons_succ, List.getElem_cons_zero, Act.put, List.setIfInBounds_toArray, List.set_cons_zero, List.set_cons_succ]
              refine wpAnyH_take (i := 8) (v := ?_) rfl (by kernel_rfl) (by kernel_rfl) (by kernel_rfl) (fun _ _ _ h => h) (Or.inl ⟨by rfl, fun w hSw => ?_⟩) (by assumption) ?_
              rotate_left
              · (try dsimp only at hSw); go_simp; (try with_reducible rfl)
              try simp only [List.getElem_toArray, List.getElem_cons_succ, List.getElem_cons_zero, Act.put, List.setIfInBounds_toArray, List.set_cons_zero, List.set_cons_succ]
              refine wpAnyH_take (i := 10) (v := ?_) rfl (by kernel_rfl) (by kernel_rfl) (by kernel_rfl) (fun _ _ _ h => h) (Or.inl ⟨by rfl, fun w hSw => ?_⟩) (by assumption) ?_
              rotate_left
              · (try dsimp only at hSw); go_simp; (try with_reducible rfl)
              try simp only [List.getElem_toArray, List.getElem_cons_succ, List.getElem_cons_zero, Act.put, List.setIfInBounds_toArray, List.set_cons_zero, List.set_cons_succ]
              refine wpAnyH_ready (rs := [9]) (by kernel_rfl) (by simp) ?_
              refine AllReadyH.cons rfl (fun K hK => ?_) ?_
              · refine step_ids (by rfl) (.tmp 34) (.tmp 36) (by rfl) w1.heap.size v (Uj rs L k jj (d1, d2)) (by rfl) (by rw [HV.out]; exact MY2.out.own) (Nat.le_trans MY2.out.link.size (Nat.le_refl _)) Y0.heap.size x y (by rfl) EY2.out HLN.out (fun v4 Y8 o1 o2 o3 => ?_)
                obtain ⟨Y9, hst, hl4, ht4⟩ := MY2.out.put o1.out (by rw [← HV.out]; exact o2.out) (by rw [← HV.out]; exact o3.out)
                have Q8 := Lib.hid (QY2.out.trans (Sm.grown o2.out (fun k hk => HZ.out _ QY2.out k hk) (fun k hk e => HFR.out k hk e)))
                have Q9 := Lib.hid (Q8.out.trans (Sm.grown ht4.grown (fun k hk => HZ.out _ Q8.out k hk) (fun k hk e => HMU.out k hk (Option.some.inj e))))
                have M9 := Lib.hid hl4
                clear hl4 ht4 o1 o2 o3
                refine hK.out _ _ ?_ (fun hHeld => ?_)
                · exact HS.out _ Q8.out
                clear hK K
                try simp only [List.getElem_toArray, List.getElem_cons_succ, List.getElem_cons_zero, Act.put, List.setIfInBounds_toArray, List.set_cons_zero, List.set_cons_succ]
                refine wpAnyH_ready (rs := [11]) (by kernel_rfl) (by simp) ?_
                refine AllReadyH.cons rfl (fun K hK => ?_) ?_
                · go_simp
                  clear hst
                  refine hK.out _ _ ?_ (fun hHeld => ?_)
                  · exact HS.out _ Q9.out
                  clear hK K
                  try simp only [List.getElem_toArray, List.getElem_cons_succ, List.getElem_cons_zero, Act.put, List.setIfInBounds_toArray, List.set_cons_zero, List.set_cons_succ]
                  refine wpAnyH_done (by kernel_rfl) ?_ _
                  go_wp2_with fail
                  go_roundw
                  case rel => exact ⟨jj + 1, _, by omega, by go_num, Lib.hid (by have h9 := M9.out; obtain ⟨q8, q9⟩ := HXE.out; rw [HU.out, q8, q9]; rw [q8, q9] at h9; exact h9)⟩
                  case measure => simp [intOf]; omega
                exact AllReadyH.nil
              exact AllReadyH.nil
            exact AllReadyH.nil
          exact AllReadyH.nil
        · have jn : ¬ (jj : Int) < nd := by omega
          have HE : Hid (LkO w1 mu ((k + 1) * 16) (Ul rs L (k + 1)) h wr) := Lib.hid (by
            have h1 := hI.out.o
            rw [uj_all HKL.out (by rw [HXY.out, HDP.out, ← HDN.out]; omega)] at h1
            exact h1.mono (by omega))
          clear hI
          go_wp2
          go_roundw
          case rel => exact ⟨k + 1, h, by omega, by go_num, HE⟩
          case measure => simp [intOf]; omega
    · have kn : ¬ (k : Int) < n := by omega
      have hke : k = n := by omega
      go_wp2
      go_end0
      have hU : Ul rs L k = gUsers rs := by rw [HLL.out]; exact ul_users HND.out (by rw [← HLL.out, ← HN.out]; omega)
      have hO2 := hO.out
      rw [hU] at hO2
      refine ⟨rfl, grown_two (grown_low mu HB1.out) hO2.link, h, hO2.um.mono (by omega), ⟨hO2.uf.no, fun z u hu => ⟨own_mono (hO2.uf.yes z u hu).1 (Nat.zero_le _), (hO2.uf.yes z u hu).2⟩, hO2.uf.apart⟩⟩
end Go.Proofs.YtomidcbpnaajeaaGreat.Gra
