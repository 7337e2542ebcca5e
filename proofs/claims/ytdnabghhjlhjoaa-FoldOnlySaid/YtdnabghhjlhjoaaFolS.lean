/- What the developers' Prefix gives (layer 14, fold). Conditions: those in each statement. -/
import Derived.Test.YtdnabghhjlhjoaaFolO
import Derived.Deep.DeepCutAuto
import Derived.Deep.LoopGhost
namespace Go.Proofs.Ytdnabghhjlhjoaa.Fol
open Go.RowKit F64 Cmd Bat Cel Wid Vau
set_option linter.unusedVariables false
set_option linter.unusedSimpArgs false

set_option maxHeartbeats 16000000 in
set_option maxRecDepth 100000 in
theorem fprefix_any (v u : Value) (xs ys : List Wr) (w : World) (h : layW.Row w v xs) (g : layW.Row w u ys) : Calls Try.prog 19 #[v, u] w (RetBelow (.bool (firstOf xs ys)) w) := by
  obtain ⟨p, cap, rfl, h1, hd⟩ := h.parts
  obtain ⟨q, capq, rfl, g1, gd⟩ := g.parts
  obtain ⟨n, hn⟩ : ∃ n, n = xs.length := ⟨_, rfl⟩
  obtain ⟨m, hm⟩ : ∃ m, m = ys.length := ⟨_, rfl⟩
  have HN := Lib.hid hn
  have HM := Lib.hid hm
  rw [← hn] at h1 hd ⊢
  rw [← hm] at g1 gd ⊢
  generalize hr : firstOf xs ys = r
  have HR := Lib.hid hr
  clear h g hn hm hr
  go_enter Try.func19, Try.ntmps19
  go_wp2
  go_step3
  go_wp2
  go_step3
  go_wp2
  go_loopw [5, 10] (fun alike idx wr => ∃ k : Nat, alike = .int .i64 k ∧ idx = .int .i64 k ∧ k ≤ n ∧ k ≤ m ∧ Hid (Below w.heap.size w wr) ∧ Hid (∀ j, j < k → layW.at xs j = layW.at ys j)) (fun _ idx _ => n - (intOf idx).toNat)
  case atStart => exact ⟨0, rfl, rfl, Nat.zero_le _, Nat.zero_le _, Lib.hid (Below.refl _ _), Lib.hid fun j hj => absurd hj (Nat.not_lt_zero _)⟩
  case round =>
    obtain ⟨k, rfl, rfl, hk, hkm, HB, HE⟩ := hrel
    have k0 : (0 : Int) ≤ k := by omega
    by_cases hkn : k < n
    · have kn : (k : Int) < n := by omega
      have hne : ((k : Int) == (n : Int)) = false := beq_eq_false_iff_ne.2 (by omega)
      obtain ⟨B, off, rfl, HC⟩ := hd.resolve_left (by omega)
      obtain ⟨a, b, c, hx⟩ : ∃ a b c, layW.at xs k = ((a, b), c) := ⟨_, _, _, rfl⟩
      have hb1 := Cmd.below_one wr (.cells #[.int .i64 a, .int .i64 b, .int .i64 c] 63)
      have HX := heap_alloc_new wr (.cells #[.int .i64 a, .int .i64 b, .int .i64 c] 63)
      obtain ⟨W1, hW1⟩ : ∃ W1, W1 = wr.alloc (.cells #[.int .i64 a, .int .i64 b, .int .i64 c] 63) := ⟨_, rfl⟩
      rw [← hW1] at hb1 HX
      have HB1 := Lib.hid (HB.out.trans (hb1.mono HB.out.size))
      obtain ⟨c0, c1, c2⟩ := cellW (HC.out.on HB.out) (by rw [← HN.out]; exact hkn) hx
      obtain ⟨e0, e1, e2⟩ := box3 HX
      by_cases hmk : k = m
      · have HF : Hid (r = false) := Lib.hid (by rw [← HR.out]; exact firstOf_long (by rw [← HN.out, ← HM.out]; omega))
        have hqm : ((k : Int) == (m : Int)) = true := beq_iff_eq.2 (by omega)
        clear hx hd gd HX hb1 hmk
        go_upto_region 5 with fail
        rw [← hW1]
        clear hW1 c0 c1 c2
        go_wp2_with fail
        rw [Exit.noGoto_ret]
        go_ret
        exact ⟨ret_bool HF.out.symm, HB1.out⟩
      · have km : (k : Int) < m := by omega
        have hqm : ((k : Int) == (m : Int)) = false := beq_eq_false_iff_ne.2 (by omega)
        obtain ⟨B', off', rfl, HD⟩ := gd.resolve_left (by omega)
        obtain ⟨a', b', c', hy⟩ : ∃ a b c, layW.at ys k = ((a, b), c) := ⟨_, _, _, rfl⟩
        obtain ⟨d0, d1, d2⟩ := cellW (HD.out.on HB1.out) (by rw [← HM.out]; omega) hy
        have hq : ∀ w, (binOp .neq 63 (.agg #[.int .i64 a, .int .i64 b, .int .i64 c]) (.agg #[.int .i64 a', .int .i64 b', .int .i64 c'])).run Try.prog w = .ok (.bool (!decide (((a, b), c) = ((a', b'), c')))) w := fun w => by
          rw [neq_wr]
          congr 3
          rw [Bool.eq_iff_iff, decide_eq_true_eq, Prod.mk.injEq, Prod.mk.injEq, Bool.and_eq_true, Bool.and_eq_true, beq_iff_eq, beq_iff_eq, beq_iff_eq]
        have HY : Hid (decide (((a, b), c) = ((a', b'), c')) = true → layW.at xs k = layW.at ys k) := Lib.hid fun h => by rw [hx, hy]; exact of_decide_eq_true h
        have HZ : Hid (decide (((a, b), c) = ((a', b'), c')) = false → r = false) := Lib.hid fun h => by
          rw [← HR.out]
          by_cases hl : xs.length ≤ ys.length
          · exact firstOf_no hl (by rw [← HN.out]; exact hkn) (by rw [hx, hy]; exact of_decide_eq_false h)
          · exact firstOf_long (by omega)
        generalize decide (((a, b), c) = ((a', b'), c')) = r1 at hq HY HZ
        clear hx hy hd gd HX hb1
        go_upto_region 5 with fail
        rw [← hW1]
        clear hW1 c0 c1 c2
        cases r1
        · go_wp2_with fail
          go_quiet (fail)
          go_wp2_with fail
          rw [Exit.noGoto_ret]
          go_ret
          exact ⟨ret_bool (HZ.out (by first | exact rfl | trivial)).symm, HB1.out.trans ((below_draws _ _).mono HB1.out.size)⟩
        · go_wp2_with fail
          go_quiet (fail)
          go_wp2_with fail
          go_roundw
          case rel => exact ⟨k + 1, by go_num, by go_num, by omega, by omega, Lib.hid (HB1.out.trans ((below_draws _ _).mono HB1.out.size)), Lib.hid fun j hj => by
            by_cases e : j = k
            · rw [e]; exact HY.out (by first | exact rfl | trivial)
            · exact HE.out j (by omega)⟩
          case measure => simp [intOf]; omega
    · obtain rfl : k = n := by omega
      have kn : ¬ (k : Int) < k := by omega
      clear hd gd
      go_wp2_with fail
      go_ret
      exact ⟨ret_bool (by rw [← HR.out]; exact (firstOf_yes (by rw [← HN.out, ← HM.out]; exact hkm) fun j hj => HE.out j (by rw [HN.out]; exact hj)).symm), HB.out⟩
end Go.Proofs.Ytdnabghhjlhjoaa.Fol
