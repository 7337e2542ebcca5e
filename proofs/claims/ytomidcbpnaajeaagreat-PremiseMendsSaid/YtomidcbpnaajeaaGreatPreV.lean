/- What the developers' linked and lacks give (layer 20, premise): have two records an edge, do two uses lack one? Conditions: the lists lie in memory as their cells say; all commands may be. -/
import Derived.Test.YtomidcbpnaajeaaGreatPreU
import Derived.Test.YtomidcbpnaajeaaGreatIdF
namespace Go.Proofs.YtomidcbpnaajeaaGreat.Pre
open Go.RowKit Cmd Bat Ids Rec Wid Gra Cps
set_option linter.unusedVariables false
set_option linter.unusedSimpArgs false

theorem row_sliceP {w : World} {v : Value} {zs : List Idn} (h : RowAt w v zs) : ∃ p n c, v = .slice p n c := by obtain ⟨p, c, e, _⟩ := h; exact ⟨p, _, c, e⟩
theorem linked_any (a b q : Int) (v u : Value) (a' b' q' : Int) (v' u' : Value) (ds ds' : List Idn) (cs cs' : List Cmdn) (w : World) (h : RowAt w v ds) (hu : ∃ p n c, u = .slice p n c) (h' : RowAt w v' ds') (hu' : ∃ p n c, u' = .slice p n c) :
    Calls Tryz.prog 29 #[.agg #[.int .i64 a, .int .i64 b, .int .i64 q, v, u], .agg #[.int .i64 a', .int .i64 b', .int .i64 q', v', u']] w (RetBelow (.bool (edgeR ((a, b), q, ds, cs) ((a', b'), q', ds', cs'))) w) := by
  have C1 : Hid (∀ W, Below w.heap.size w W → Calls Tryz.prog 51 #[v, .agg #[.int .i64 a', .int .i64 b']] W (RetBelow (.bool (decide ((a', b') ∈ ds))) W)) := Lib.hid fun W hb => (has_any v ds a' b' W (h.on hb)).mono fun e w' h => h
  have C2 : Hid (∀ W, Below w.heap.size w W → Calls Tryz.prog 51 #[v', .agg #[.int .i64 a, .int .i64 b]] W (RetBelow (.bool (decide ((a, b) ∈ ds'))) W)) := Lib.hid fun W hb => (has_any v' ds' a b W (h'.on hb)).mono fun e w' h => h
  obtain ⟨p1, n1, k1, rfl⟩ := row_sliceP h
  obtain ⟨p2, n2, k2, rfl⟩ := row_sliceP h'
  obtain ⟨p3, n3, k3, rfl⟩ := hu
  obtain ⟨p4, n4, k4, rfl⟩ := hu'
  have HT := Lib.hid (Two8.start 42 w a b q (.slice p1 n1 k1) (.slice p3 n3 k3) a' b' q' (.slice p2 n2 k2) (.slice p4 n4 k4))
  unfold cellsR at HT
  have HE : Hid (edgeR ((a, b), q, ds, cs) ((a', b'), q', ds', cs') = (decide ((a', b') ∈ ds) || decide ((a, b) ∈ ds'))) := Lib.hid rfl
  generalize decide ((a', b') ∈ ds) = x1 at C1 HE
  generalize decide ((a, b) ∈ ds') = x2 at C2 HE
  generalize edgeR ((a, b), q, ds, cs) ((a', b'), q', ds', cs') = r at HE
  have HC1 := Lib.hid (C1.out _ HT.out.a.below)
  clear h h'
  cases x1
  · go_enter Tryz.func29, Tryz.ntmps29
    go_wp2_with (first
      | (go_at_call 51; (with_reducible refine HC1.out.mono ?_); rintro e w1 ⟨rfl, hb⟩; have H1 := Lib.hid (HT.out.on hb); clear hb; have q0 := H1.out.a.c0; have q1 := H1.out.a.c1; have q3 := H1.out.b.c3; have HC2 := Lib.hid (C2.out _ H1.out.a.below))
      | (go_at_call 51; (with_reducible refine HC2.out.mono ?_); rintro e w2 ⟨rfl, hb⟩; have H2 := Lib.hid (H1.out.on hb); clear hb))
    go_ret
    exact ⟨ret_bool (by rw [HE.out]; rfl), H2.out.a.below⟩
  · go_enter Tryz.func29, Tryz.ntmps29
    go_wp2_with (first
      | (go_at_call 51; (with_reducible refine HC1.out.mono ?_); rintro e w1 ⟨rfl, hb⟩; have H1 := Lib.hid (HT.out.on hb); clear hb))
    go_ret
    exact ⟨ret_bool (by rw [HE.out]; rfl), H1.out.a.below⟩

/-! ### lacks -/
/-- The two boxes of a call of lacks. -/
structure TU (w : World) (c c' : Array Value) (X : World) : Prop where
  one : X.heap[w.heap.size]? = some (.cells c 68 (0, 0))
  two : X.heap[w.heap.size + 1]? = some (.cells c' 68 (0, 0))
  below : Below w.heap.size w X
  lt : w.heap.size + 1 < X.heap.size
theorem TU.start (w : World) (c c' : Array Value) : TU w c c' ((w.alloc (.cells c 68)).alloc (.cells c' 68)) := by
  have h := heap_alloc_new (w.alloc (.cells c 68)) (.cells c' 68)
  rw [World.size_alloc] at h
  exact ⟨(Below.heap_alloc _ _ _ (by simp)).trans (heap_alloc_new w _), h, (Cmd.below_one _ _).trans ((Cmd.below_one _ _).mono (by simp)), by show _ < ((w.alloc _).alloc _).heap.size; simp⟩
theorem TU.on {w X Y : World} {c c' : Array Value} (h : TU w c c' X) (hb : Below X.heap.size X Y) : TU w c c' Y :=
  ⟨(hb.block _ (by have := h.lt; omega)).trans h.one, (hb.block _ h.lt).trans h.two, h.below.trans (hb.mono h.below.size), Nat.lt_of_lt_of_le h.lt hb.size⟩
abbrev c7 (a b s : Int) (x3 x4 x5 x6 : Value) : Array Value := #[.int .i64 a, .int .i64 b, .int .i64 s, x3, x4, x5, x6]
theorem TU.cells {w X : World} {a b s a' b' s' : Int} {x3 x4 x5 x6 y3 y4 y5 y6 : Value} (h : TU w (c7 a b s x3 x4 x5 x6) (c7 a' b' s' y3 y4 y5 y6) X) :
    (X.cell? ⟨w.heap.size, 0, none⟩ = some (.int .i64 a) ∧ X.cell? ⟨w.heap.size, 1, none⟩ = some (.int .i64 b) ∧ X.cell? ⟨w.heap.size, 2, none⟩ = some (.int .i64 s) ∧ X.cell? ⟨w.heap.size, 3, none⟩ = some x3 ∧ X.cell? ⟨w.heap.size, 4, none⟩ = some x4 ∧ X.cell? ⟨w.heap.size, 5, none⟩ = some x5 ∧ X.cell? ⟨w.heap.size, 6, none⟩ = some x6) ∧
    (X.cell? ⟨w.heap.size + 1, 0, none⟩ = some (.int .i64 a') ∧ X.cell? ⟨w.heap.size + 1, 1, none⟩ = some (.int .i64 b') ∧ X.cell? ⟨w.heap.size + 1, 2, none⟩ = some (.int .i64 s') ∧ X.cell? ⟨w.heap.size + 1, 3, none⟩ = some y3 ∧ X.cell? ⟨w.heap.size + 1, 4, none⟩ = some y4 ∧ X.cell? ⟨w.heap.size + 1, 5, none⟩ = some y5 ∧ X.cell? ⟨w.heap.size + 1, 6, none⟩ = some y6) :=
  ⟨⟨cell_row (i := 0) h.one rfl, cell_row (i := 1) h.one rfl, cell_row (i := 2) h.one rfl, cell_row (i := 3) h.one rfl, cell_row (i := 4) h.one rfl, cell_row (i := 5) h.one rfl, cell_row (i := 6) h.one rfl⟩, cell_row (i := 0) h.two rfl, cell_row (i := 1) h.two rfl, cell_row (i := 2) h.two rfl, cell_row (i := 3) h.two rfl, cell_row (i := 4) h.two rfl, cell_row (i := 5) h.two rfl, cell_row (i := 6) h.two rfl⟩
/-- A use's lists in memory. -/
structure UseAt (W : World) (vd vk vw : Value) (x : Rcd) : Prop where
  rd : RowAt W vd x.2.2.1
  ks : layS.Row W vk (kset (keys x.2.2.2))
  ws : layS.Row W vw (wrS x.2.2.2)
  ok : ∀ c ∈ x.2.2.2, right c = true
theorem UseAt.on {W X : World} {vd vk vw : Value} {x : Rcd} (h : UseAt W vd vk vw x) (hb : Below W.heap.size W X) : UseAt X vd vk vw x := ⟨h.rd.on hb, h.ks.on hb, h.ws.on hb, h.ok⟩
set_option maxRecDepth 100000 in
set_option maxHeartbeats 4000000 in
theorem lacks_any (a b s a' b' s' : Int) (p1 p2 p3 p4 q1 q2 q3 q4 : Option Addr) (n1 n2 n3 n4 m1 m2 m3 m4 k1 k2 k3 k4 j1 j2 j3 j4 : Nat) (ds ds' : List Idn) (cs cs' : List Cmdn) (w : World)
    (h : UseAt w (.slice p1 n1 k1) (.slice p3 n3 k3) (.slice p4 n4 k4) ((a, b), s, ds, cs)) (h' : UseAt w (.slice q1 m1 j1) (.slice q3 m3 j3) (.slice q4 m4 j4) ((a', b'), s', ds', cs')) :
    Calls Tryz.prog 26 #[.agg #[.int .i64 a, .int .i64 b, .int .i64 s, .slice p1 n1 k1, .slice p2 n2 k2, .slice p3 n3 k3, .slice p4 n4 k4], .agg #[.int .i64 a', .int .i64 b', .int .i64 s', .slice q1 m1 j1, .slice q2 m2 j2, .slice q3 m3 j3, .slice q4 m4 j4]] w (RetBelow (.bool (lackR ((a, b), s, ds, cs) ((a', b'), s', ds', cs'))) w) := by
  have C1 : Hid (∀ W, Below w.heap.size w W → Calls Tryz.prog 49 #[.slice p4 n4 k4, .slice q3 m3 j3] W (RetBelow (.bool (meets (wrS cs) (kset (keys cs')))) W)) := Lib.hid fun W hb => meet_any _ _ _ _ W (h.on hb).ws (h'.on hb).ks (wrS_rise _) (kset_rise _)
  have C2 : Hid (∀ W, Below w.heap.size w W → Calls Tryz.prog 49 #[.slice p3 n3 k3, .slice q4 m4 j4] W (RetBelow (.bool (meets (kset (keys cs)) (wrS cs'))) W)) := Lib.hid fun W hb => meet_any _ _ _ _ W (h.on hb).ks (h'.on hb).ws (kset_rise _) (wrS_rise _)
  have C3 : Hid (∀ W, Below w.heap.size w W → Calls Tryz.prog 29 #[.agg #[.int .i64 a, .int .i64 b, .int .i64 s, .slice p1 n1 k1, .slice p2 n2 k2], .agg #[.int .i64 a', .int .i64 b', .int .i64 s', .slice q1 m1 j1, .slice q2 m2 j2]] W (RetBelow (.bool (edgeR ((a, b), s, ds, cs) ((a', b'), s', ds', cs'))) W)) := Lib.hid fun W hb => linked_any a b s _ _ a' b' s' _ _ ds ds' cs cs' W (h.on hb).rd ⟨_, _, _, rfl⟩ (h'.on hb).rd ⟨_, _, _, rfl⟩
  have HE : Hid (lackR ((a, b), s, ds, cs) ((a', b'), s', ds', cs') = ((meets (wrS cs) (kset (keys cs')) || meets (kset (keys cs)) (wrS cs')) && !edgeR ((a, b), s, ds, cs) ((a', b'), s', ds', cs'))) := Lib.hid (by rw [meets_conf h.ok h'.ok]; rfl)
  generalize meets (wrS cs) (kset (keys cs')) = x1 at C1 HE
  generalize meets (kset (keys cs)) (wrS cs') = x2 at C2 HE
  generalize edgeR ((a, b), s, ds, cs) ((a', b'), s', ds', cs') = x3 at C3 HE
  generalize lackR ((a, b), s, ds, cs) ((a', b'), s', ds', cs') = r at HE ⊢
  have T0 := Lib.hid (TU.start w (c7 a b s (.slice p1 n1 k1) (.slice p2 n2 k2) (.slice p3 n3 k3) (.slice p4 n4 k4)) (c7 a' b' s' (.slice q1 m1 j1) (.slice q2 m2 j2) (.slice q3 m3 j3) (.slice q4 m4 j4)))
  obtain ⟨⟨g0, g1, g2, g3, g4, g5, g6⟩, e0, e1, e2, e3, e4, e5, e6⟩ := T0.out.cells
  have D1 := Lib.hid (C1.out _ T0.out.below)
  clear h h'
  cases x1
  · cases x2
    · go_enter Tryz.func26, Tryz.ntmps26
      go_wp2_with (first
        | (go_at_call 49; (with_reducible refine D1.out.mono ?_); rintro E w1 ⟨rfl, hb⟩; have T1 := Lib.hid (T0.out.on hb); clear hb; obtain ⟨⟨h0, h1, h2, h3, h4, h5, h6⟩, f0, f1, f2, f3, f4, f5, f6⟩ := T1.out.cells; have D2 := Lib.hid (C2.out _ T1.out.below))
        | (go_at_call 49; (with_reducible refine D2.out.mono ?_); rintro E w2 ⟨rfl, hb⟩; have T2 := Lib.hid (T1.out.on hb); clear hb))
      go_ret
      exact ⟨ret_bool (by rw [HE.out]; rfl), T2.out.below⟩
    · go_enter Tryz.func26, Tryz.ntmps26
      go_wp2_with (first
        | (go_at_call 49; (with_reducible refine D1.out.mono ?_); rintro E w1 ⟨rfl, hb⟩; have T1 := Lib.hid (T0.out.on hb); clear hb; obtain ⟨⟨h0, h1, h2, h3, h4, h5, h6⟩, f0, f1, f2, f3, f4, f5, f6⟩ := T1.out.cells; have D2 := Lib.hid (C2.out _ T1.out.below))
        | (go_at_call 49; (with_reducible refine D2.out.mono ?_); rintro E w2 ⟨rfl, hb⟩; have T2 := Lib.hid (T1.out.on hb); clear hb; obtain ⟨⟨i0, i1, i2, i3, i4, i5, i6⟩, l0, l1, l2, l3, l4, l5, l6⟩ := T2.out.cells; have D3 := Lib.hid (C3.out _ T2.out.below))
        | (go_at_call 29; (with_reducible refine D3.out.mono ?_); rintro E w3 ⟨rfl, hb⟩; have T3 := Lib.hid (T2.out.on hb); clear hb))
      go_ret
      exact ⟨ret_bool (by rw [HE.out]; rfl), T3.out.below⟩
  · go_enter Tryz.func26, Tryz.ntmps26
    go_wp2_with (first
      | (go_at_call 49; (with_reducible refine D1.out.mono ?_); rintro E w1 ⟨rfl, hb⟩; have T1 := Lib.hid (T0.out.on hb); clear hb; obtain ⟨⟨h0, h1, h2, h3, h4, h5, h6⟩, f0, f1, f2, f3, f4, f5, f6⟩ := T1.out.cells; have D2 := Lib.hid (C3.out _ T1.out.below))
      | (go_at_call 29; (with_reducible refine D2.out.mono ?_); rintro E w2 ⟨rfl, hb⟩; have T2 := Lib.hid (T1.out.on hb); clear hb))
    go_ret
    exact ⟨ret_bool (by rw [HE.out]; rfl), T2.out.below⟩
end Go.Proofs.YtomidcbpnaajeaaGreat.Pre
