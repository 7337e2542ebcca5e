/- Whether two records are the same (layer 8, record): slices.Equal at ids, the program's Same and the document's. Conditions: the lists lie in memory as their cells say; for the document's numbers' words of 64 bits. -/
import Derived.Test.YtkafhepgonidkaaRecC
namespace Go.Proofs.Ytkafhepgonidkaa.Rec
open Go.RowKit Cmd Bat Ids
set_option linter.unusedVariables false

theorem RowAt.parts {w : World} {v : Value} {zs : List Idn} (h : RowAt w v zs) : ∃ (p : Option Addr) (cap : Nat), v = .slice p zs.length cap ∧ zs.length ≤ 9223372036854775807 ∧ (zs.length = 0 ∨ ∃ B off, p = some ⟨B, off, none⟩ ∧ Hid (Row2 w B off zs)) := by
  obtain ⟨p, cap, rfl, h1, h2, -, h3⟩ := h
  refine ⟨p, cap, rfl, by omega, ?_⟩
  by_cases hz : zs = []
  · left; rw [hz]; rfl
  · right
    obtain ⟨B, off, rfl, hlt, hc⟩ := h3 hz
    exact ⟨B, off, rfl, Lib.hid ⟨hlt, fun j hj => (hc j hj).1, fun j hj => (hc j hj).2⟩⟩

set_option maxHeartbeats 1000000 in
theorem equal_ids (v u : Value) (zs ys : List Idn) (w : World) (h : RowAt w v zs) (g : RowAt w u ys) : Calls Try.prog 27 #[v, u] w (RetBelow (.bool (decide (zs = ys))) w) := by
  obtain ⟨p, cap, rfl, h1, hd⟩ := RowAt.parts h
  obtain ⟨p', cap', rfl, g1, hd'⟩ := RowAt.parts g
  have HM := Lib.hid (eq_nth (zs := zs) (ys := ys))
  obtain ⟨n, hn⟩ : ∃ n, n = zs.length := ⟨_, rfl⟩
  obtain ⟨m, hm⟩ : ∃ m, m = ys.length := ⟨_, rfl⟩
  rw [← hn] at h1 hd ⊢
  rw [← hm] at g1 hd' ⊢
  have HN := Lib.hid hn
  have HN' := Lib.hid hm
  generalize hr : decide (zs = ys) = r
  have HR := Lib.hid hr
  clear hr h g
  by_cases hnm : n = m
  · subst hnm
    clear hn hm
    have hnn : ((n : Int) != (n : Int)) = false := by simp
    go_enter Try.func27, Try.ntmps27
    go_wp2
    go_loopw [13] (fun i wr => ∃ k : Nat, k ≤ n ∧ i = .int .i64 k ∧ Hid (Below w.heap.size w wr) ∧ Hid (∀ j, j < k → nth zs j = nth ys j)) (fun i _ => n - (intOf i).toNat)
    case atStart => exact ⟨0, Nat.zero_le _, rfl, Lib.hid (Below.refl _ _), Lib.hid fun j hj => absurd hj (Nat.not_lt_zero _)⟩
    case round =>
      obtain ⟨k, hk, rfl, hbw, hno⟩ := hrel
      by_cases hkn : k < n
      · obtain ⟨B, off, rfl, HC⟩ := hd.resolve_left (by omega)
        obtain ⟨B', off', rfl, HC'⟩ := hd'.resolve_left (by omega)
        have c1 := (HC.out.on hbw.out).fst k (by rw [← HN.out]; exact hkn)
        have c2 := (HC.out.on hbw.out).snd k (by rw [← HN.out]; exact hkn)
        have c3 := (HC'.out.on hbw.out).fst k (by rw [← HN'.out]; exact hkn)
        have c4 := (HC'.out.on hbw.out).snd k (by rw [← HN'.out]; exact hkn)
        have k0 : (0 : Int) ≤ k := by omega
        have kn : (k : Int) < n := by omega
        obtain ⟨x, y, hxy⟩ : ∃ x y, nth zs k = (x, y) := ⟨_, _, rfl⟩
        obtain ⟨x', y', hxy'⟩ : ∃ x y, nth ys k = (x, y) := ⟨_, _, rfl⟩
        rw [hxy] at c1 c2
        rw [hxy'] at c3 c4
        clear hd hd'
        by_cases he : (x, y) = (x', y')
        · have h3 : (x == x' && y == y') = true := by
            rw [Prod.mk.injEq] at he; rw [he.1, he.2]; simp
          have HX : Hid (nth zs k = nth ys k) := Lib.hid (by rw [hxy, hxy']; exact he)
          have hq : ∀ w, (binOp .neq 23 (.agg #[.int .i64 x, .int .i64 y]) (.agg #[.int .i64 x', .int .i64 y'])).run Try.prog w = .ok (.bool false) w := fun w => by rw [neq_id, h3]; rfl
          clear he hxy hxy' h3
          go_wp2
          go_quiet (fail)
          go_wp2
          go_roundw
          case rel => exact ⟨k + 1, by omega, by go_num, Lib.hid (hbw.out.trans ((Bat.below_draws _ _).mono hbw.out.size)), Lib.hid fun j hj => by
            by_cases e : j = k
            · rw [e]; exact HX.out
            · exact hno.out j (by omega)⟩
          case measure => simp [intOf]; omega
        · have h3 : (x == x' && y == y') = false := by
            rw [Bool.eq_false_iff]; intro h; rw [Bool.and_eq_true, beq_iff_eq, beq_iff_eq] at h; exact he (by rw [h.1, h.2])
          have HX : Hid (nth zs k ≠ nth ys k) := Lib.hid (by rw [hxy, hxy']; exact he)
          have hq : ∀ w, (binOp .neq 23 (.agg #[.int .i64 x, .int .i64 y]) (.agg #[.int .i64 x', .int .i64 y'])).run Try.prog w = .ok (.bool true) w := fun w => by rw [neq_id, h3]; rfl
          clear he hxy hxy' h3
          go_wp2
          go_quiet (fail)
          go_wp2
          go_ret
          refine ⟨ret_bool ?_, hbw.out.trans ((Bat.below_draws _ _).mono hbw.out.size)⟩
          rw [← HR.out]
          exact (decide_eq_false fun h => HX.out ((HM.out.1 h).2 k (by rw [← HN.out]; exact hkn))).symm
      · have kn : ¬ (k : Int) < n := by omega
        clear hd hd'
        go_wp2
        go_ret
        refine ⟨ret_bool ?_, hbw.out⟩
        rw [← HR.out]
        exact (decide_eq_true (HM.out.2 ⟨by rw [← HN.out, ← HN'.out], fun j hj => hno.out j (by rw [← HN.out] at hj; omega)⟩)).symm
  · have h2 : ((n : Int) != (m : Int)) = true := by rw [bne_iff_ne]; omega
    have h3 : (n : Int) ≠ m := by omega
    have HX : Hid (r = false) := Lib.hid (by rw [← HR.out]; exact decide_eq_false fun e => hnm (by rw [hn, hm, e]))
    clear hn hm hnm hd hd'
    go_enter Try.func27, Try.ntmps27
    go_wp2
    go_ret
    exact ⟨ret_bool HX.out.symm, Below.refl _ _⟩

def rSame (a b q : Int) (ds : List Idn) (cs : List Cmdn) (a' b' q' : Int) (ds' : List Idn) (cs' : List Cmdn) : Bool := decide ((a, b) = (a', b')) && decide (q = q') && decide (ds = ds') && bSame cs cs'
set_option maxHeartbeats 2000000 in
theorem same_r (a b q : Int) (v u : Value) (a' b' q' : Int) (v' u' : Value) (ds ds' : List Idn) (cs cs' : List Cmdn) (w : World) (h : RowAt w v ds) (g : layC.Row w u cs) (h' : RowAt w v' ds') (g' : layC.Row w u' cs') :
    Calls Try.prog 11 #[.agg #[.int .i64 a, .int .i64 b, .int .i64 q, v, u], .agg #[.int .i64 a', .int .i64 b', .int .i64 q', v', u']] w (RetBelow (.bool (rSame a b q ds cs a' b' q' ds' cs')) w) := by
  have C1 : Hid (∀ W, Below w.heap.size w W → Calls Try.prog 27 #[v, v'] W (RetBelow (.bool (decide (ds = ds'))) W)) := Lib.hid fun W hb => equal_ids v v' ds ds' W (h.on hb) (h'.on hb)
  have C2 : Hid (∀ W, Below w.heap.size w W → Calls Try.prog 28 #[u, u'] W (RetBelow (.bool (bSame cs cs')) W)) := Lib.hid fun W hb => bsame_any u u' cs cs' W (g.on hb) (g'.on hb)
  have hv : ∃ p n cap, v = .slice p n cap := by obtain ⟨p, cap, e, _⟩ := h; exact ⟨p, _, cap, e⟩
  have hv' : ∃ p n cap, v' = .slice p n cap := by obtain ⟨p, cap, e, _⟩ := h'; exact ⟨p, _, cap, e⟩
  have hu : ∃ p n cap, u = .slice p n cap := by obtain ⟨p, cap, e, _⟩ := g; exact ⟨p, _, cap, e⟩
  have hu' : ∃ p n cap, u' = .slice p n cap := by obtain ⟨p, cap, e, _⟩ := g'; exact ⟨p, _, cap, e⟩
  obtain ⟨p1, n1, k1, rfl⟩ := hv
  obtain ⟨p2, n2, k2, rfl⟩ := hv'
  obtain ⟨p3, n3, k3, rfl⟩ := hu
  obtain ⟨p4, n4, k4, rfl⟩ := hu'
  have HT := Lib.hid (Two8.start 27 w a b q (.slice p1 n1 k1) (.slice p3 n3 k3) a' b' q' (.slice p2 n2 k2) (.slice p4 n4 k4))
  unfold cellsR at HT
  have HE : Hid (rSame a b q ds cs a' b' q' ds' cs' = (decide ((a, b) = (a', b')) && decide (q = q') && decide (ds = ds') && bSame cs cs')) := Lib.hid rfl
  have hi : ∀ w, (binOp .eql 23 (.agg #[.int .i64 a, .int .i64 b]) (.agg #[.int .i64 a', .int .i64 b'])).run Try.prog w = .ok (.bool (decide ((a, b) = (a', b')))) w := fun w => by
    rw [eql_id, show (a == a' && b == b') = decide ((a, b) = (a', b')) by rw [Bool.eq_iff_iff]; simp]
  have hq : (q == q') = decide (q = q') := by rw [Bool.eq_iff_iff]; simp
  generalize decide ((a, b) = (a', b')) = x1 at hi HE
  generalize decide (q = q') = x2 at hq HE
  generalize decide (ds = ds') = x3 at C1 HE
  generalize bSame cs cs' = x4 at C2 HE
  generalize rSame a b q ds cs a' b' q' ds' cs' = r at HE
  have HC1 := Lib.hid (C1.out _ HT.out.a.below)
  clear h g h' g'
  cases x1
  · go_enter Try.func11, Try.ntmps11
    go_wp2
    go_ret
    exact ⟨ret_bool (by rw [HE.out]; rfl), HT.out.a.below⟩
  · cases x2
    · go_enter Try.func11, Try.ntmps11
      go_wp2
      go_ret
      exact ⟨ret_bool (by rw [HE.out]; rfl), HT.out.a.below⟩
    · cases x3
      · go_enter Try.func11, Try.ntmps11
        go_wp2_with (first
          | (go_at_call 27; (with_reducible refine HC1.out.mono ?_); rintro e w1 ⟨rfl, hb⟩; have H1 := Lib.hid (HT.out.on hb); clear hb))
        go_ret
        exact ⟨ret_bool (by rw [HE.out]; rfl), H1.out.a.below⟩
      · go_enter Try.func11, Try.ntmps11
        go_wp2_with (first
          | (go_at_call 27; (with_reducible refine HC1.out.mono ?_); rintro e w1 ⟨rfl, hb⟩; have H1 := Lib.hid (HT.out.on hb); clear hb; have q4 := H1.out.a.c4; have q5 := H1.out.b.c4; have HC2 := Lib.hid (C2.out _ H1.out.a.below))
          | (go_at_call 28; (with_reducible refine HC2.out.mono ?_); rintro e w2 ⟨rfl, hb⟩; have H2 := Lib.hid (H1.out.on hb); clear hb))
        go_ret
        exact ⟨ret_bool (by rw [HE.out]; rfl), H2.out.a.below⟩
set_option maxHeartbeats 2000000 in
theorem refsame_r (a b q : Int) (v u : Value) (a' b' q' : Int) (v' u' : Value) (ds ds' : List Idn) (cs cs' : List Cmdn) (w : World) (h : RowAt w v ds) (g : layC.Row w u cs) (h' : RowAt w v' ds') (g' : layC.Row w u' cs') (hw : ∀ x ∈ cs, wfC x) (hw' : ∀ x ∈ cs', wfC x) :
    Calls Try.prog 7 #[.agg #[.int .i64 a, .int .i64 b, .int .i64 q, v, u], .agg #[.int .i64 a', .int .i64 b', .int .i64 q', v', u']] w (RetBelow (.bool (rSame a b q ds cs a' b' q' ds' cs')) w) := by
  have C1 : Hid (∀ W, Below w.heap.size w W → Calls Try.prog 17 #[v, v'] W (RetBelow (.bool (decide (ds = ds'))) W)) := Lib.hid fun W hb => (Ids.same_any v v' ds ds' W (h.on hb) (h'.on hb)).mono fun e w' h => h
  have C2 : Hid (∀ W, Below w.heap.size w W → Calls Try.prog 18 #[u, u'] W (RetBelow (.bool (bSame cs cs')) W)) := Lib.hid fun W hb => refbsame_any u u' cs cs' W (g.on hb) (g'.on hb) hw hw'
  have hv : ∃ p n cap, v = .slice p n cap := by obtain ⟨p, cap, e, _⟩ := h; exact ⟨p, _, cap, e⟩
  have hv' : ∃ p n cap, v' = .slice p n cap := by obtain ⟨p, cap, e, _⟩ := h'; exact ⟨p, _, cap, e⟩
  have hu : ∃ p n cap, u = .slice p n cap := by obtain ⟨p, cap, e, _⟩ := g; exact ⟨p, _, cap, e⟩
  have hu' : ∃ p n cap, u' = .slice p n cap := by obtain ⟨p, cap, e, _⟩ := g'; exact ⟨p, _, cap, e⟩
  obtain ⟨p1, n1, k1, rfl⟩ := hv
  obtain ⟨p2, n2, k2, rfl⟩ := hv'
  obtain ⟨p3, n3, k3, rfl⟩ := hu
  obtain ⟨p4, n4, k4, rfl⟩ := hu'
  have HT := Lib.hid (Two8.start 27 w a b q (.slice p1 n1 k1) (.slice p3 n3 k3) a' b' q' (.slice p2 n2 k2) (.slice p4 n4 k4))
  unfold cellsR at HT
  have HE : Hid (rSame a b q ds cs a' b' q' ds' cs' = (decide ((a, b) = (a', b')) && decide (q = q') && decide (ds = ds') && bSame cs cs')) := Lib.hid rfl
  have hi : ∀ w, (binOp .eql 23 (.agg #[.int .i64 a, .int .i64 b]) (.agg #[.int .i64 a', .int .i64 b'])).run Try.prog w = .ok (.bool (decide ((a, b) = (a', b')))) w := fun w => by
    rw [eql_id, show (a == a' && b == b') = decide ((a, b) = (a', b')) by rw [Bool.eq_iff_iff]; simp]
  have hq : (q == q') = decide (q = q') := by rw [Bool.eq_iff_iff]; simp
  generalize decide ((a, b) = (a', b')) = x1 at hi HE
  generalize decide (q = q') = x2 at hq HE
  generalize decide (ds = ds') = x3 at C1 HE
  generalize bSame cs cs' = x4 at C2 HE
  generalize rSame a b q ds cs a' b' q' ds' cs' = r at HE
  have HC1 := Lib.hid (C1.out _ HT.out.a.below)
  clear h g h' g' hw hw'
  cases x1
  · go_enter Try.func7, Try.ntmps7
    go_wp2
    go_ret
    exact ⟨ret_bool (by rw [HE.out]; rfl), HT.out.a.below⟩
  · cases x2
    · go_enter Try.func7, Try.ntmps7
      go_wp2
      go_ret
      exact ⟨ret_bool (by rw [HE.out]; rfl), HT.out.a.below⟩
    · cases x3
      · go_enter Try.func7, Try.ntmps7
        go_wp2_with (first
          | (go_at_call 17; (with_reducible refine HC1.out.mono ?_); rintro e w1 ⟨rfl, hb⟩; have H1 := Lib.hid (HT.out.on hb); clear hb))
        go_ret
        exact ⟨ret_bool (by rw [HE.out]; rfl), H1.out.a.below⟩
      · go_enter Try.func7, Try.ntmps7
        go_wp2_with (first
          | (go_at_call 17; (with_reducible refine HC1.out.mono ?_); rintro e w1 ⟨rfl, hb⟩; have H1 := Lib.hid (HT.out.on hb); clear hb; have q4 := H1.out.a.c4; have q5 := H1.out.b.c4; have HC2 := Lib.hid (C2.out _ H1.out.a.below))
          | (go_at_call 18; (with_reducible refine HC2.out.mono ?_); rintro e w2 ⟨rfl, hb⟩; have H2 := Lib.hid (H1.out.on hb); clear hb))
        go_ret
        exact ⟨ret_bool (by rw [HE.out]; rfl), H2.out.a.below⟩
end Go.Proofs.Ytkafhepgonidkaa.Rec
