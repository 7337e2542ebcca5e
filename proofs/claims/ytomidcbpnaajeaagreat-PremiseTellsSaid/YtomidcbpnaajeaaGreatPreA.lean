/- Edges that lack (layer 20, premise): which records have an edge, which two lack one; the document's Edge and Lacks. Conditions: both records lie in memory as their cells say; texts of a length that Go reads. -/
import Derived.Test.YtomidcbpnaajeaaGreatRecD
import Derived.Test.YtomidcbpnaajeaaGreatBatE
import Derived.Test.YtomidcbpnaajeaaGreatGraA
namespace Go.Proofs.YtomidcbpnaajeaaGreat.Pre
open Go.RowKit Cmd Bat Ids Rec Wid Gra
set_option linter.unusedVariables false
set_option linter.unusedSimpArgs false

/-- Have two records an edge? -/
def edgeR (x y : Rcd) : Bool := decide (y.1 ∈ x.2.2.1) || decide (x.1 ∈ y.2.2.1)
/-- Do two records lack an edge? -/
def lackR (x y : Rcd) : Bool := bConf x.2.2.2 y.2.2.2 && !edgeR x y
theorem edge_comm (x y : Rcd) : edgeR x y = edgeR y x := by unfold edgeR; rw [Bool.or_comm]

theorem refedge_any (a b q : Int) (v u : Value) (a' b' q' : Int) (v' u' : Value) (ds ds' : List Idn) (cs cs' : List Cmdn) (w : World) (h : RowAt w v ds) (g : layC.Row w u cs) (h' : RowAt w v' ds') (g' : layC.Row w u' cs') :
    Calls Tryz.prog 13 #[.agg #[.int .i64 a, .int .i64 b, .int .i64 q, v, u], .agg #[.int .i64 a', .int .i64 b', .int .i64 q', v', u']] w (RetBelow (.bool (edgeR ((a, b), q, ds, cs) ((a', b'), q', ds', cs'))) w) := by
  have C1 : Hid (∀ W, Below w.heap.size w W → Calls Tryz.prog 30 #[v, .agg #[.int .i64 a', .int .i64 b']] W (RetBelow (.bool (decide ((a', b') ∈ ds))) W)) := Lib.hid fun W hb => (refhas_any v ds a' b' W (h.on hb)).mono fun e w' h => h
  have C2 : Hid (∀ W, Below w.heap.size w W → Calls Tryz.prog 30 #[v', .agg #[.int .i64 a, .int .i64 b]] W (RetBelow (.bool (decide ((a, b) ∈ ds'))) W)) := Lib.hid fun W hb => (refhas_any v' ds' a b W (h'.on hb)).mono fun e w' h => h
  have hv : ∃ p n cap, v = .slice p n cap := by obtain ⟨p, cap, e, _⟩ := h; exact ⟨p, _, cap, e⟩
  have hv' : ∃ p n cap, v' = .slice p n cap := by obtain ⟨p, cap, e, _⟩ := h'; exact ⟨p, _, cap, e⟩
  have hu : ∃ p n cap, u = .slice p n cap := by obtain ⟨p, cap, e, _⟩ := g; exact ⟨p, _, cap, e⟩
  have hu' : ∃ p n cap, u' = .slice p n cap := by obtain ⟨p, cap, e, _⟩ := g'; exact ⟨p, _, cap, e⟩
  obtain ⟨p1, n1, k1, rfl⟩ := hv
  obtain ⟨p2, n2, k2, rfl⟩ := hv'
  obtain ⟨p3, n3, k3, rfl⟩ := hu
  obtain ⟨p4, n4, k4, rfl⟩ := hu'
  have HT := Lib.hid (Two8.start 42 w a b q (.slice p1 n1 k1) (.slice p3 n3 k3) a' b' q' (.slice p2 n2 k2) (.slice p4 n4 k4))
  unfold cellsR at HT
  have HE : Hid (edgeR ((a, b), q, ds, cs) ((a', b'), q', ds', cs') = (decide ((a', b') ∈ ds) || decide ((a, b) ∈ ds'))) := Lib.hid rfl
  generalize decide ((a', b') ∈ ds) = x1 at C1 HE
  generalize decide ((a, b) ∈ ds') = x2 at C2 HE
  generalize edgeR ((a, b), q, ds, cs) ((a', b'), q', ds', cs') = r at HE
  have HC1 := Lib.hid (C1.out _ HT.out.a.below)
  clear h g h' g'
  cases x1
  · go_enter Tryz.func13, Tryz.ntmps13
    go_wp2_with (first
      | (go_at_call 30; (with_reducible refine HC1.out.mono ?_); rintro e w1 ⟨rfl, hb⟩; have H1 := Lib.hid (HT.out.on hb); clear hb; have q0 := H1.out.a.c0; have q1 := H1.out.a.c1; have q3 := H1.out.b.c3; have HC2 := Lib.hid (C2.out _ H1.out.a.below))
      | (go_at_call 30; (with_reducible refine HC2.out.mono ?_); rintro e w2 ⟨rfl, hb⟩; have H2 := Lib.hid (H1.out.on hb); clear hb))
    go_ret
    exact ⟨ret_bool (by rw [HE.out]; rfl), H2.out.a.below⟩
  · go_enter Tryz.func13, Tryz.ntmps13
    go_wp2_with (first
      | (go_at_call 30; (with_reducible refine HC1.out.mono ?_); rintro e w1 ⟨rfl, hb⟩; have H1 := Lib.hid (HT.out.on hb); clear hb))
    go_ret
    exact ⟨ret_bool (by rw [HE.out]; rfl), H1.out.a.below⟩
theorem reflacks_any (a b q : Int) (v u : Value) (a' b' q' : Int) (v' u' : Value) (ds ds' : List Idn) (cs cs' : List Cmdn) (w : World) (h : RowAt w v ds) (g : layC.Row w u cs) (h' : RowAt w v' ds') (g' : layC.Row w u' cs') (hw : ∀ x ∈ cs, wfC x) (hw' : ∀ x ∈ cs', wfC x) :
    Calls Tryz.prog 28 #[.agg #[.int .i64 a, .int .i64 b, .int .i64 q, v, u], .agg #[.int .i64 a', .int .i64 b', .int .i64 q', v', u']] w (RetBelow (.bool (lackR ((a, b), q, ds, cs) ((a', b'), q', ds', cs'))) w) := by
  have C1 : Hid (∀ W, Below w.heap.size w W → Calls Tryz.prog 50 #[u, u'] W (RetBelow (.bool (bConf cs cs')) W)) := Lib.hid fun W hb => refbconf_any u u' cs cs' W (g.on hb) (g'.on hb) hw hw'
  have C2 : Hid (∀ W, Below w.heap.size w W → Calls Tryz.prog 13 #[.agg #[.int .i64 a, .int .i64 b, .int .i64 q, v, u], .agg #[.int .i64 a', .int .i64 b', .int .i64 q', v', u']] W (RetBelow (.bool (edgeR ((a, b), q, ds, cs) ((a', b'), q', ds', cs'))) W)) := Lib.hid fun W hb => refedge_any a b q v u a' b' q' v' u' ds ds' cs cs' W (h.on hb) (g.on hb) (h'.on hb) (g'.on hb)
  have hv : ∃ p n cap, v = .slice p n cap := by obtain ⟨p, cap, e, _⟩ := h; exact ⟨p, _, cap, e⟩
  have hv' : ∃ p n cap, v' = .slice p n cap := by obtain ⟨p, cap, e, _⟩ := h'; exact ⟨p, _, cap, e⟩
  have hu : ∃ p n cap, u = .slice p n cap := by obtain ⟨p, cap, e, _⟩ := g; exact ⟨p, _, cap, e⟩
  have hu' : ∃ p n cap, u' = .slice p n cap := by obtain ⟨p, cap, e, _⟩ := g'; exact ⟨p, _, cap, e⟩
  obtain ⟨p1, n1, k1, rfl⟩ := hv
  obtain ⟨p2, n2, k2, rfl⟩ := hv'
  obtain ⟨p3, n3, k3, rfl⟩ := hu
  obtain ⟨p4, n4, k4, rfl⟩ := hu'
  have HT := Lib.hid (Two8.start 42 w a b q (.slice p1 n1 k1) (.slice p3 n3 k3) a' b' q' (.slice p2 n2 k2) (.slice p4 n4 k4))
  unfold cellsR at HT
  have HE : Hid (lackR ((a, b), q, ds, cs) ((a', b'), q', ds', cs') = (bConf cs cs' && !edgeR ((a, b), q, ds, cs) ((a', b'), q', ds', cs'))) := Lib.hid rfl
  generalize edgeR ((a, b), q, ds, cs) ((a', b'), q', ds', cs') = x2 at C2 HE
  generalize lackR ((a, b), q, ds, cs) ((a', b'), q', ds', cs') = r at HE
  generalize bConf cs cs' = x1 at C1 HE
  have HC1 := Lib.hid (C1.out _ HT.out.a.below)
  clear h g h' g' hw hw'
  cases x1
  · go_enter Tryz.func28, Tryz.ntmps28
    go_wp2_with (first
      | (go_at_call 50; (with_reducible refine HC1.out.mono ?_); rintro e w1 ⟨rfl, hb⟩; have H1 := Lib.hid (HT.out.on hb); clear hb))
    go_ret
    exact ⟨ret_bool (by rw [HE.out]; rfl), H1.out.a.below⟩
  · go_enter Tryz.func28, Tryz.ntmps28
    go_wp2_with (first
      | (go_at_call 50; (with_reducible refine HC1.out.mono ?_); rintro e w1 ⟨rfl, hb⟩; have H1 := Lib.hid (HT.out.on hb); clear hb; obtain ⟨q0, q1, q2, q3, q4⟩ := H1.out.a.five; obtain ⟨s0, s1, s2, s3, s4⟩ := H1.out.b.five; have HC2 := Lib.hid (C2.out _ H1.out.a.below))
      | (go_at_call 13; (with_reducible refine HC2.out.mono ?_); rintro e w2 ⟨rfl, hb⟩; have H2 := Lib.hid (H1.out.on hb); clear hb))
    go_ret
    exact ⟨ret_bool (by rw [HE.out]; simp), H2.out.a.below⟩
end Go.Proofs.YtomidcbpnaajeaaGreat.Pre
