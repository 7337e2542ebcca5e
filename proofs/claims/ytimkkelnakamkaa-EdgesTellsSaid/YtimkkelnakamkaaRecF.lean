/- What Copy gives (layer 8, record): the same record, its lists in new memory. Conditions: the lists lie in memory as their cells say, and are not longer than 100000; texts of a length that Go makes. -/
import Derived.Test.YtimkkelnakamkaaRecE
import Derived.Deep.RegionWith
import Derived.Deep.LoopGhost
import Derived.Deep.DeepCutAuto
namespace Go.Proofs.Ytimkkelnakamkaa.Rec
open Go.RowKit Cmd Bat Ids
set_option linter.unusedVariables false

theorem setCell_same {w : World} {g i : Nat} {cur : Array Value} {t : TypeId} {fr : Nat × Nat} {v : Value} (hg : w.heap[g]? = some (.cells cur t fr)) (hc : cur[i]? = some v) : w.setCell ⟨g, i, none⟩ v = w := by
  rw [setCell_eq_setRow w g i cur t fr v hg]
  obtain ⟨hi, e⟩ := Array.getElem?_eq_some_iff.1 hc
  have : cur.setIfInBounds i v = cur := by
    apply Array.ext
    · simp
    · intro j h1 h2
      rw [Array.getElem_setIfInBounds]
      split
      · subst_vars; rfl
      · rfl
  rw [this, setRow_self w g cur t fr hg]
theorem cell_row {w : World} {g i : Nat} {cur : Array Value} {t : TypeId} {v : Value} (hg : w.heap[g]? = some (.cells cur t (0, 0))) (hc : cur[i]? = some v) : w.cell? ⟨g, i, none⟩ = some v := by
  simp [World.cell?, hg, hc]
theorem free_row {w : World} {g i : Nat} {cur : Array Value} {t : TypeId} (hg : w.heap[g]? = some (.cells cur t (0, 0))) : w.frozen? ⟨g, i, none⟩ = false := by
  simp [World.frozen?, hg]

/-- What Copy's call has, once its lists are copied. -/
structure CopyAt (w : World) (a b q : Int) (n m : Nat) (F G : Array Value) (W : World) : Prop where
  box : BoxR w w.heap.size a b q (.slice (some ⟨w.heap.size + 1 + 1, 0, none⟩) n n) (.slice (some ⟨w.heap.size + 1 + 1 + 1, 0, none⟩) m m) W
  lt : w.heap.size + 1 + 1 + 1 < W.heap.size
  res : W.heap[w.heap.size + 1]? = some (.cells #[.int .i64 0, .int .i64 0, .int .i64 0, .slice none 0 0, .slice none 0 0] 35 (0, 0))
  row : W.heap[w.heap.size + 1 + 1]? = some (.cells F 24 (0, 0))
  row' : W.heap[w.heap.size + 1 + 1 + 1]? = some (.cells G 73 (0, 0))
theorem CopyAt.on {w W W' : World} {a b q : Int} {n m : Nat} {F G : Array Value} (h : CopyAt w a b q n m F G W) (hb : Below W.heap.size W W') : CopyAt w a b q n m F G W' :=
  ⟨h.box.on hb, Nat.lt_of_lt_of_le h.lt hb.size, (hb.block _ (by have := h.lt; omega)).trans h.res, (hb.block _ (by have := h.lt; omega)).trans h.row, (hb.block _ h.lt).trans h.row'⟩
theorem CopyAt.start (w : World) (a b q : Int) (n m : Nat) (F G : Array Value) :
    CopyAt w a b q n m F G ((((w.alloc (.cells #[.int .i64 a, .int .i64 b, .int .i64 q, .slice (some ⟨w.heap.size + 1 + 1, 0, none⟩) n n, .slice (some ⟨w.heap.size + 1 + 1 + 1, 0, none⟩) m m] 35)).alloc (.cells #[.int .i64 0, .int .i64 0, .int .i64 0, .slice none 0 0, .slice none 0 0] 35)).alloc (.cells F 24)).alloc (.cells G 73)).drew := by
  have h0 := BoxR.start 35 w a b q (.slice (some ⟨w.heap.size + 1 + 1, 0, none⟩) n n) (.slice (some ⟨w.heap.size + 1 + 1 + 1, 0, none⟩) m m)
  have h1 := ((h0.on (Cmd.below_one _ (.cells #[.int .i64 0, .int .i64 0, .int .i64 0, .slice none 0 0, .slice none 0 0] 35))).on (Cmd.below_one _ (.cells F 24))).on (Cmd.below_one _ (.cells G 73))
  unfold cellsR at h1
  have s1 : (w.alloc (.cells #[.int .i64 a, .int .i64 b, .int .i64 q, .slice (some ⟨w.heap.size + 1 + 1, 0, none⟩) n n, .slice (some ⟨w.heap.size + 1 + 1 + 1, 0, none⟩) m m] 35)).heap.size = w.heap.size + 1 := by simp
  generalize w.alloc (.cells #[.int .i64 a, .int .i64 b, .int .i64 q, .slice (some ⟨w.heap.size + 1 + 1, 0, none⟩) n n, .slice (some ⟨w.heap.size + 1 + 1 + 1, 0, none⟩) m m] 35) = W1 at s1 h1
  have e2 := heap_alloc_new W1 (.cells #[.int .i64 0, .int .i64 0, .int .i64 0, .slice none 0 0, .slice none 0 0] 35)
  have s2 : (W1.alloc (.cells #[.int .i64 0, .int .i64 0, .int .i64 0, .slice none 0 0, .slice none 0 0] 35)).heap.size = w.heap.size + 1 + 1 := by simp [s1]
  rw [s1] at e2
  generalize W1.alloc (.cells #[.int .i64 0, .int .i64 0, .int .i64 0, .slice none 0 0, .slice none 0 0] 35) = W2 at s2 e2 h1
  have e3 := heap_alloc_new W2 (.cells F 24)
  have f2 := (Below.heap_alloc W2 (.cells F 24) (w.heap.size + 1) (by omega)).trans e2
  have s3 : (W2.alloc (.cells F 24)).heap.size = w.heap.size + 1 + 1 + 1 := by simp [s2]
  rw [s2] at e3
  generalize W2.alloc (.cells F 24) = W3 at s3 e3 f2 h1
  have e4 := heap_alloc_new W3 (.cells G 73)
  have g2 := (Below.heap_alloc W3 (.cells G 73) (w.heap.size + 1) (by omega)).trans f2
  have g3 := (Below.heap_alloc W3 (.cells G 73) (w.heap.size + 1 + 1) (by omega)).trans e3
  have s4 : (W3.alloc (.cells G 73)).heap.size = w.heap.size + 1 + 1 + 1 + 1 := by simp [s3]
  rw [s3] at e4
  exact ⟨h1.on (Below.refl _ _).drew, by show _ < (W3.alloc _).heap.size; rw [s4]; omega, g2, g3, e4⟩
/-- The answer, in the result's box. -/
def put5 (W : World) (g : Nat) (a b q : Int) (v u : Value) : World := ((((W.setCell ⟨g, 0, none⟩ (.int .i64 a)).setCell ⟨g, 1, none⟩ (.int .i64 b)).setCell ⟨g, 2, none⟩ (.int .i64 q)).setCell ⟨g, 3, none⟩ v).setCell ⟨g, 4, none⟩ u

theorem heap_set {W : World} {g : Nat} {cur : Array Value} {t : TypeId} {fr : Nat × Nat} (hg : W.heap[g]? = some (.cells cur t fr)) (i : Nat) (v : Value) : (W.setCell ⟨g, i, none⟩ v).heap[g]? = some (.cells (cur.setIfInBounds i v) t fr) := by
  rw [setCell_eq_setRow W g i cur t fr v hg]; exact setRow_heap W g cur _ t fr hg
theorem put5_row {W : World} {g : Nat} {x0 x1 x2 x3 x4 : Value} {t : TypeId} (hg : W.heap[g]? = some (.cells #[x0, x1, x2, x3, x4] t (0, 0))) (a b q : Int) (v u : Value) : (put5 W g a b q v u).heap[g]? = some (.cells #[.int .i64 a, .int .i64 b, .int .i64 q, v, u] t (0, 0)) :=
  heap_set (heap_set (heap_set (heap_set (heap_set hg 0 (.int .i64 a)) 1 (.int .i64 b)) 2 (.int .i64 q)) 3 v) 4 u
theorem put5_far (W : World) {g k : Nat} (h : k ≠ g) (a b q : Int) (v u : Value) : (put5 W g a b q v u).heap[k]? = W.heap[k]? := by
  unfold put5
  rw [Below.heap_setCell _ _ _ _ h, Below.heap_setCell _ _ _ _ h, Below.heap_setCell _ _ _ _ h, Below.heap_setCell _ _ _ _ h, Below.heap_setCell _ _ _ _ h]
theorem below_put5 {B : Nat} {a0 W : World} (h : Below B a0 W) {g : Nat} (hg : B ≤ g) (a b q : Int) (v u : Value) : Below B a0 (put5 W g a b q v u) :=
  ((((h.setCell (p := ⟨g, 0, none⟩) hg _).setCell (p := ⟨g, 1, none⟩) hg _).setCell (p := ⟨g, 2, none⟩) hg _).setCell (p := ⟨g, 3, none⟩) hg _).setCell (p := ⟨g, 4, none⟩) hg _
theorem results_cell_one {fn : Func} {p : Tmp} {ty : TypeId} (h : fn.results = #[.cell p ty]) (tmps : Array Value) (P : Program) (w : World) :
    (results fn tmps).run P w = ((asAddr (tmps.getD p undef)).run P w).andThen fun a w₁ => (loadVar ty a).run P w₁ := by
  simp only [results, h]
  simp [Sem.run_bind, Result.andThen]
theorem rec_one {fn : Func} {p : Tmp} (h : fn.results = #[.cell p 35]) (tmps : Array Value) {W : World} {g : Nat} {a b q : Int} {p1 p2 : Option Addr} {n1 c1 n2 c2 : Nat} (hp : tmps.getD p undef = .pointer (some ⟨g, 0, none⟩))
    (hg : W.heap[g]? = some (.cells #[.int .i64 a, .int .i64 b, .int .i64 q, .slice p1 n1 c1, .slice p2 n2 c2] 35 (0, 0))) :
    (results fn tmps).run Try.prog W = .ok (.agg #[.int .i64 a, .int .i64 b, .int .i64 q, .slice p1 n1 c1, .slice p2 n2 c2]) W := by
  have e0 := cell_row (i := 0) hg rfl
  have e1 := cell_row (i := 1) hg rfl
  have e2 := cell_row (i := 2) hg rfl
  have e3 := cell_row (i := 3) hg rfl
  have e4 := cell_row (i := 4) hg rfl
  clear hg
  rw [results_cell_one h, hp]
  go_simp
/-- What Copy leaves: the lists, each in a block of its own, new. -/
structure CopyIs (ds : List Idn) (cs : List Cmdn) (w : World) (g h : Nat) (w' : World) : Prop where
  row : w'.heap[g]? = some (.cells (flat ds).toArray 24 (0, 0))
  row' : w'.heap[h]? = some (.cells (flatC cs).toArray 73 (0, 0))
  own : w.heap.size ≤ g
  own' : w.heap.size ≤ h
  below : Below w.heap.size w w'
def GivesRec (a b q : Int) (ds : List Idn) (cs : List Cmdn) (w : World) (e : Ending) (w' : World) : Prop :=
  ∃ g h, e = .returned (.agg #[.int .i64 a, .int .i64 b, .int .i64 q, .slice (some ⟨g, 0, none⟩) ds.length ds.length, .slice (some ⟨h, 0, none⟩) cs.length cs.length]) ∧ CopyIs ds cs w g h w'

set_option maxHeartbeats 4000000 in
theorem copy_any (a b q : Int) (v u : Value) (ds : List Idn) (cs : List Cmdn) (w : World) (h : RowAt w v ds) (g : layC.Row w u cs) (hl : ds.length ≤ 100000) (hl' : cs.length ≤ 100000) (hw : ∀ x ∈ cs, wfC x) :
    Calls Try.prog 34 #[.agg #[.int .i64 a, .int .i64 b, .int .i64 q, v, u]] w (GivesRec a b q ds cs w) := by
  have C1 := Lib.hid (fun W (hb : Below w.heap.size w W) => copied_ids v ds W (h.on hb) hl)
  have C2 := Lib.hid (fun W (hb : Below w.heap.size w W) => copied_cmds u cs W (g.on hb) hl')
  have hv : ∃ p cap, v = .slice p ds.length cap := by obtain ⟨p, cap, e, _⟩ := h; exact ⟨p, cap, e⟩
  have hu : ∃ p cap, u = .slice p cs.length cap := by obtain ⟨p, cap, e, _⟩ := g; exact ⟨p, cap, e⟩
  obtain ⟨p, k, rfl⟩ := hv
  obtain ⟨p', k', rfl⟩ := hu
  obtain ⟨F, hF⟩ : ∃ F, F = (flat ds).toArray := ⟨_, rfl⟩
  obtain ⟨G, hG⟩ : ∃ G, G = (flatC cs).toArray := ⟨_, rfl⟩
  unfold GivesCopy at C1 C2
  rw [← hF] at C1
  rw [← hG] at C2
  have HF := Lib.hid hF
  have HG := Lib.hid hG
  obtain ⟨n, hn⟩ : ∃ n, n = ds.length := ⟨_, rfl⟩
  obtain ⟨m, hm⟩ : ∃ m, m = cs.length := ⟨_, rfl⟩
  rw [← hn] at C1 hl ⊢
  rw [← hm] at C2 hl' ⊢
  have HN := Lib.hid hn
  have HM := Lib.hid hm
  clear hF hG hn hm
  have B2 : Below w.heap.size w ((w.alloc (.cells #[.int .i64 a, .int .i64 b, .int .i64 q, .slice p n k, .slice p' m k'] 35)).alloc (.cells #[.int .i64 0, .int .i64 0, .int .i64 0, .slice none 0 0, .slice none 0 0] 35)) := (Cmd.below_one _ _).trans ((Cmd.below_one _ _).mono (by simp))
  have Q1 := Lib.hid (C1.out _ B2.drew)
  have Q2 := Lib.hid (C2.out _ (B2.trans ((Cmd.below_one _ (.cells F 24)).mono B2.size)).drew)
  clear B2 C1 C2
  go_enter Try.func34, Try.ntmps34
  go_upto_region 1 with fail
  go_cut [] (fun wc => Hid (CopyAt w a b q n m F G wc))
  case first =>
    go_region_with (first
      | (go_at_call 49; (with_reducible refine Q1.out.mono ?_); rintro e w1 ⟨rfl, rfl⟩)
      | (go_at_call 50; (with_reducible refine Q2.out.mono ?_); rintro e w2 ⟨rfl, rfl⟩))
    all_goals
      go_wp2_with fail
      go_meet
      exact Lib.hid (CopyAt.start _ _ _ _ _ _ _ _)
  case rest =>
    have HC : Hid (∀ j, j < m → ∃ s : List UInt8, s.length ≤ 140737488351232 ∧ G[j * 3 + 1]? = some (.string (str s))) := Lib.hid fun j hj => by
      have hjl : j < cs.length := by rw [← HM.out]; exact hj
      refine ⟨(layC.at cs j).2.1, (hw _ (layC.at_mem hjl)).2, ?_⟩
      have := (flatC_at cs j hjl).2.1
      rw [HG.out]
      simpa using this
    clear h g hw
    have c4 := hcut.out.box.c4
    go_wp2
    go_loopw [15] (fun i wr => ∃ j : Nat, j ≤ m ∧ i = .int .i64 j ∧ Hid (CopyAt w a b q n m F G wr)) (fun i _ => m - (intOf i).toNat)
    case atStart => exact ⟨0, Nat.zero_le _, rfl, hcut⟩
    case round =>
      obtain ⟨j, hj, rfl, hat⟩ := hrel
      by_cases hjm : j < m
      · obtain ⟨s, hs, hsG⟩ := HC.out j hjm
        have c4 := hat.out.box.c4
        have k1 := cell_row hat.out.row' hsG
        have j0 : (0 : Int) ≤ j := by omega
        have jm : (j : Int) < m := by omega
        have HQ : Hid (∀ W, Calls Try.prog 51 #[.string (str s)] W (RetBelow (.string (str s)) W)) := Lib.hid fun W => clone_any s W hs
        have HT : Hid (∀ W, Below wr.heap.size wr W → CopyAt w a b q n m F G W) := Lib.hid fun W hb => hat.out.on hb
        have HS : Hid (∀ W, CopyAt w a b q n m F G W → W.cell? ⟨w.heap.size, 4, none⟩ = some (.slice (some ⟨w.heap.size + 1 + 1 + 1, 0, none⟩) m m) ∧ W.cell? ⟨w.heap.size + 1 + 1 + 1, j * 3 + 1, none⟩ = some (.string (str s)) ∧ W.frozen? ⟨w.heap.size + 1 + 1 + 1, j * 3 + 1, none⟩ = false ∧ W.setCell ⟨w.heap.size + 1 + 1 + 1, j * 3 + 1, none⟩ (.string (str s)) = W) :=
          Lib.hid fun W h => ⟨h.box.c4, cell_row h.row' hsG, free_row h.row', setCell_same h.row' hsG⟩
        clear hsG hs
        go_wp2
        go_region_with (first
          | (go_at_call 51; (with_reducible refine (HQ.out _).mono ?_); rintro e w1 ⟨rfl, hb⟩; have HB1 := Lib.hid (HT.out _ (below_via (Below.refl _ _) hb rfl rfl rfl rfl (Nat.le_refl _))); clear hb; obtain ⟨d0, d1, d2, d3⟩ := HS.out _ HB1.out))
        all_goals
          go_wp2
          go_roundw
          case rel => exact ⟨j + 1, by omega, by go_num, HB1⟩
          case measure => simp [intOf]; omega
      · have jm : ¬ (j : Int) < m := by omega
        have c0 := hat.out.box.c0
        have c1 := hat.out.box.c1
        have c2 := hat.out.box.c2
        have c3 := hat.out.box.c3
        have c4 := hat.out.box.c4
        have r0 := cell_row (i := 0) hat.out.res rfl
        have r1 := cell_row (i := 1) hat.out.res rfl
        have r2 := cell_row (i := 2) hat.out.res rfl
        have r3 := cell_row (i := 3) hat.out.res rfl
        have r4 := cell_row (i := 4) hat.out.res rfl
        have f0 := free_row (i := 0) hat.out.res
        have f1 := free_row (i := 1) hat.out.res
        have f2 := free_row (i := 2) hat.out.res
        have f3 := free_row (i := 3) hat.out.res
        have f4 := free_row (i := 4) hat.out.res
        clear HC
        go_wp2
        (try simp only [Exit.inBlock, Exit.then])
        have HF5 := put5_row hat.out.res a b q (.slice (some ⟨w.heap.size + 1 + 1, 0, none⟩) n n) (.slice (some ⟨w.heap.size + 1 + 1 + 1, 0, none⟩) m m)
        refine bodyPost_ret (v := .agg #[.int .i64 a, .int .i64 b, .int .i64 q, .slice (some ⟨w.heap.size + 1 + 1, 0, none⟩) n n, .slice (some ⟨w.heap.size + 1 + 1 + 1, 0, none⟩) m m]) ?_ rfl ?_
        · exact rec_one rfl _ rfl HF5
        refine ⟨w.heap.size + 1 + 1, w.heap.size + 1 + 1 + 1, by rw [HN.out, HM.out], ?_, ?_, by omega, by omega, below_put5 hat.out.box.below (by omega) _ _ _ _ _⟩
        · rw [← HF.out]; exact (put5_far wr (by omega) _ _ _ _ _).trans hat.out.row
        · rw [← HG.out]; exact (put5_far wr (by omega) _ _ _ _ _).trans hat.out.row'
end Go.Proofs.Ytimkkelnakamkaa.Rec
