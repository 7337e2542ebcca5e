/- What math.Ldexp gives for a finite number and a power of at most 40000: some number, and the exact one, where there is one. -/
import Derived.Test.YtobechecnkmpaaaDoorExactB
namespace Go.Proofs.YtobechecnkmpaaaDoor
set_option linter.unusedVariables false
open Go.RowKit F64 Go.Lib

/-- The number that is b times 2 to the power k, where there is one. -/
def Scaled (b : Nat) (k : Int) (z : Nat) : Prop := z < 18446744073709551616 ∧ ∀ r, 0 < r → r < 9218868437227405312 → val r * 2 ^ (-k).toNat = val (rung b) * 2 ^ k.toNat → z = Ieee.double.word (neg b) r

theorem pow_up {m v A B : Nat} (h : v * 2 ^ B = m * 2 ^ A) (hAB : B ≤ A) : v = m * 2 ^ (A - B) := by
  have e : m * 2 ^ A = m * 2 ^ (A - B) * 2 ^ B := by rw [Nat.mul_assoc, ← Nat.pow_add]; congr 2; omega
  rw [e] at h
  exact Nat.mul_right_cancel (two_pos B) h
theorem pow_down {m v A B : Nat} (h : v * 2 ^ B = m * 2 ^ A) (hAB : A ≤ B) : m = v * 2 ^ (B - A) := (pow_up h.symm hAB)

theorem scaled_eq {b r : Nat} {k : Int} (hz : rung b ≠ 0) (he : val r * 2 ^ (-k).toNat = val (rung b) * 2 ^ k.toNat) : val r * 2 ^ ((-k).toNat + 52) = nM (rung b) * 2 ^ ((nE (rung b) + 1126).toNat + k.toNat) := by
  rw [Nat.pow_add, ← Nat.mul_assoc, he, Nat.pow_add, ← Nat.mul_assoc, nm_val hz, Nat.mul_assoc, Nat.mul_assoc, Nat.mul_comm (2 ^ k.toNat)]

theorem v_mk {s : Bool} {r e : Nat} (hz : r ≠ 0) (he : 1 ≤ e) (he2 : e < 2047) : val (rung (mk s e (nF r))) = nM r * 2 ^ (e - 1) := by
  have h0 := nm_range hz
  rw [(mk_parts (s := s) he2 (nf_lt hz)).2.2.2.1]
  have := val_norm (j := e - 1) h0.1 h0.2
  rw [show e - 1 + 1 = e by omega] at this
  exact this

theorem one_mul_f {y : Nat} (hy : y < 18446744073709551616) (hz : rung y ≠ 0) (hf : rung y < 9218868437227405312) : floatBits .mul .f64 4607182418800017408 y = some y := by
  have r1 : rung 4607182418800017408 = (1022 + 1) * 4503599627370496 + (4503599627370496 - 4503599627370496) := by decide
  have v1 : val (rung 4607182418800017408) = 2 ^ K 1074 := by rw [r1, val_normK (by omega) (by omega), show 4503599627370496 = 2 ^ 52 from p52.symm, pw_split 52 (K 1022) (K 1074) (by rw [K_eq, K_eq])]
  have n1 : neg 4607182418800017408 = false := by decide
  have := mul_exact (a := 4607182418800017408) (b := y) (r := rung y) (by rw [r1]; omega) hf (by omega) hf (by rewrite [v1]; exact Nat.mul_comm _ _)
  rw [n1, Bool.false_xor, word_back hy] at this
  exact this
theorem tiny_mul {y : Nat} (hn : isNan y = false) : ∃ z, floatBits .mul .f64 4368491638549381120 y = some z ∧ z < 18446744073709551616 := by
  obtain ⟨z, h1, _, h2⟩ := mul_some (a := 4368491638549381120) (b := y) (by decide) (by decide) hn
  exact ⟨z, h1, h2⟩
theorem tiny_exact {y r : Nat} (hf : rung y < 9218868437227405312) (h : 0 < r) (hi : r < 9218868437227405312) (he : 2 ^ K 1021 * val (rung y) = val r * 2 ^ K 1074) : floatBits .mul .f64 4368491638549381120 y = some (Ieee.double.word (neg y) r) := by
  have r1 : rung 4368491638549381120 = (969 + 1) * 4503599627370496 + (4503599627370496 - 4503599627370496) := by decide
  have v1 : val (rung 4368491638549381120) = 2 ^ K 1021 := by rw [r1, val_normK (by omega) (by omega), show 4503599627370496 = 2 ^ 52 from p52.symm, pw_split 52 (K 969) (K 1021) (by rw [K_eq, K_eq])]
  have n1 : neg 4368491638549381120 = false := by decide
  have := mul_exact (a := 4368491638549381120) (b := y) (r := r) (by rw [r1]; omega) hf h hi (by rewrite [v1]; exact he)
  rw [n1, Bool.false_xor] at this
  exact this

def SomeF (Q : Nat → Prop) (w : World) (e : Ending) (w' : World) : Prop := ∃ z : Nat, Q z ∧ e = .returned (.float .f64 z) ∧ w = w'

structure Pre (b : Nat) (x k0 : Int) : Prop where
  h0 : feq b 0 = false
  h1 : decide (rung b = 9218868437227405312) = false
  h2 : isNan b = false
  h4 : bits .and .i64 (wrap64 (((nW b : Nat) : Int) / 4503599627370496)) 2047 = x
  h4' : bits .and .i64 (((nW b : Nat) : Int) / 4503599627370496) 2047 = x
  h5 : nK (rung b) = k0
  h6 : flt (nW b) 0 = neg b
  h7 : nW b < 18446744073709551616
  x1 : 1 ≤ x
  x2 : x ≤ 2046
  k1 : -52 ≤ k0
  k2 : k0 ≤ 0
  hE : nE (rung b) = x + k0 - 1075
  hS : ∀ e' : Nat, e' < 2047 → bits .or .u64 (bits .andNot .u64 ((nW b : Nat) : Int) 9218868437227405312) ((e' : Int) * 4503599627370496) = ((mk (neg b) e' (nF (rung b)) : Nat) : Int)

theorem pre (b : Nat) (hz : rung b ≠ 0) (hf : rung b < 9218868437227405312) : ∃ x k0, Pre b x k0 := by
  have hxr := nx_range hz hf
  have hnw := nw_lt b hz hf
  have h4 : bits .and .i64 (wrap64 (((nW b : Nat) : Int) / 4503599627370496)) 2047 = ((nX (rung b) : Nat) : Int) := get_exp_i (by omega) (nf_lt hz)
  refine ⟨(nX (rung b) : Nat), nK (rung b), feq_zero hz, by simp; omega, finite_of hf, h4, ?_, rfl, ?_, hnw, by omega, by omega, by omega, by omega, by omega, ?_⟩
  · rw [IntWalk.wrap64_in _ (by omega)] at h4
    exact h4
  · have h := mk_parts (s := neg b) (e := nX (rung b)) (f := nF (rung b)) (by omega) (nf_lt hz)
    have hl := nf_lt hz
    have e : neg (nW b) = neg b := h.2.2.2.2.1
    rw [← e]
    refine flt_zero ?_ ?_
    · show rung (mk (neg b) (nX (rung b)) (nF (rung b))) ≠ 0
      rw [h.2.2.2.1]; omega
    · show rung (mk (neg b) (nX (rung b)) (nF (rung b))) < _
      rw [h.2.2.2.1]; omega
  · intro e' he'
    have := set_exp (s := neg b) (e := nX (rung b)) (f := nF (rung b)) (e' := e') (by omega) (nf_lt hz) he'
    rw [← this]
    rfl

set_option maxHeartbeats 1000000 in
theorem ldexp_1 (b : Nat) (k x k0 : Int) (w : World) (hb : b < 18446744073709551616) (hz : Hid (rung b ≠ 0)) (hf : rung b < 9218868437227405312) (hk : -40000 ≤ k) (hk2 : k ≤ 40000) (P : Pre b x k0) (hc : k + k0 + (x - 1023) < -1075) :
    Calls Tryd.prog 52 #[.float .f64 b, .int .i64 k] w fun e w' => e = .returned (.float .f64 (sg (nW b) * 9223372036854775808)) ∧ w = w' := by
  obtain ⟨h0, h1, h2, h4, h4', h5, h6, h7, x1, x2, k1, k2, _, _⟩ := P
  go_enter Tryd.func52, Tryd.ntmps52
  go_wp2_with (first
    | (go_at_call 57; ((with_reducible refine (isinf_any _ _ hb).mono ?_); rintro e w' ⟨rfl, rfl⟩))
    | (go_at_call 42; ((with_reducible refine (isnan _ _).mono ?_); rintro e w' ⟨rfl, rfl⟩))
    | (go_at_call 59; ((with_reducible refine (copysign_any _ _ h7).mono ?_); rintro e w' ⟨rfl, rfl⟩))
    | (go_at_call 58; ((with_reducible refine (norm_any _ _ hb hz.out hf).mono ?_); rintro e w' ⟨rfl, rfl⟩)))
  go_ret
  exact ⟨rfl, rfl⟩
set_option maxHeartbeats 1000000 in
theorem ldexp_2 (b : Nat) (k x k0 : Int) (w : World) (hb : b < 18446744073709551616) (hz : Hid (rung b ≠ 0)) (hf : rung b < 9218868437227405312) (hk : -40000 ≤ k) (hk2 : k ≤ 40000) (P : Pre b x k0) (hc : 1023 < k + k0 + (x - 1023)) :
    Calls Tryd.prog 52 #[.float .f64 b, .int .i64 k] w fun e w' => e = .returned (.float .f64 (if neg b then 18442240474082181120 else 9218868437227405312)) ∧ w = w' := by
  obtain ⟨h0, h1, h2, h4, h4', h5, h6, h7, x1, x2, k1, k2, _, _⟩ := P
  cases hn : neg b
  all_goals
    rw [hn] at h6
    go_enter Tryd.func52, Tryd.ntmps52
    go_wp2_with (first
      | (go_at_call 57; ((with_reducible refine (isinf_any _ _ hb).mono ?_); rintro e w' ⟨rfl, rfl⟩))
      | (go_at_call 42; ((with_reducible refine (isnan _ _).mono ?_); rintro e w' ⟨rfl, rfl⟩))
      | (go_at_call 60; ((with_reducible refine (inf_pos _).mono ?_); rintro e w' ⟨rfl, rfl⟩))
      | (go_at_call 60; ((with_reducible refine (inf_neg _).mono ?_); rintro e w' ⟨rfl, rfl⟩))
      | (go_at_call 58; ((with_reducible refine (norm_any _ _ hb hz.out hf).mono ?_); rintro e w' ⟨rfl, rfl⟩)))
    go_ret
    exact ⟨rfl, rfl⟩
set_option maxHeartbeats 1000000 in
theorem ldexp_3 (b y z : Nat) (k x k0 : Int) (w : World) (hb : b < 18446744073709551616) (hz : Hid (rung b ≠ 0)) (hf : rung b < 9218868437227405312) (hk : -40000 ≤ k) (hk2 : k ≤ 40000) (P : Pre b x k0) (hc : k + k0 + (x - 1023) < -1022) (hc2 : -1075 ≤ k + k0 + (x - 1023))
    (hs : bits .or .u64 (bits .andNot .u64 ((nW b : Nat) : Int) 9218868437227405312) ((k + k0 + (x - 1023) + 53 + 1023) * 4503599627370496) = (y : Int)) (hz1 : floatBits .mul .f64 4368491638549381120 y = some z) :
    Calls Tryd.prog 52 #[.float .f64 b, .int .i64 k] w fun e w' => e = .returned (.float .f64 z) ∧ w = w' := by
  obtain ⟨h0, h1, h2, h4, h4', h5, h6, h7, x1, x2, k1, k2, _, _⟩ := P
  have hm : ∀ w, (binOp .mul 22 (.float .f64 4368491638549381120) (.float .f64 y)).run Tryd.prog w = .ok (.float .f64 z) w := fun w => run_float_arith w .mul _ .f64 _ _ _ hz1
  clear hz1
  go_enter Tryd.func52, Tryd.ntmps52
  go_wp2_with (first
    | (go_at_call 57; ((with_reducible refine (isinf_any _ _ hb).mono ?_); rintro e w' ⟨rfl, rfl⟩))
    | (go_at_call 42; ((with_reducible refine (isnan _ _).mono ?_); rintro e w' ⟨rfl, rfl⟩))
    | (go_at_call 58; ((with_reducible refine (norm_any _ _ hb hz.out hf).mono ?_); rintro e w' ⟨rfl, rfl⟩)))
  go_ret
  exact ⟨rfl, rfl⟩
set_option maxHeartbeats 1000000 in
theorem ldexp_4 (b y : Nat) (k x k0 : Int) (w : World) (hb : b < 18446744073709551616) (hz : Hid (rung b ≠ 0)) (hf : rung b < 9218868437227405312) (hk : -40000 ≤ k) (hk2 : k ≤ 40000) (P : Pre b x k0) (hc : -1022 ≤ k + k0 + (x - 1023)) (hc2 : k + k0 + (x - 1023) ≤ 1023)
    (hs : bits .or .u64 (bits .andNot .u64 ((nW b : Nat) : Int) 9218868437227405312) ((k + k0 + (x - 1023) + 1023) * 4503599627370496) = (y : Int)) (hz1 : floatBits .mul .f64 4607182418800017408 y = some y) :
    Calls Tryd.prog 52 #[.float .f64 b, .int .i64 k] w fun e w' => e = .returned (.float .f64 y) ∧ w = w' := by
  obtain ⟨h0, h1, h2, h4, h4', h5, h6, h7, x1, x2, k1, k2, _, _⟩ := P
  have hm : ∀ w, (binOp .mul 22 (.float .f64 4607182418800017408) (.float .f64 y)).run Tryd.prog w = .ok (.float .f64 y) w := fun w => run_float_arith w .mul _ .f64 _ _ _ hz1
  clear hz1
  go_enter Tryd.func52, Tryd.ntmps52
  go_wp2_with (first
    | (go_at_call 57; ((with_reducible refine (isinf_any _ _ hb).mono ?_); rintro e w' ⟨rfl, rfl⟩))
    | (go_at_call 42; ((with_reducible refine (isnan _ _).mono ?_); rintro e w' ⟨rfl, rfl⟩))
    | (go_at_call 58; ((with_reducible refine (norm_any _ _ hb hz.out hf).mono ?_); rintro e w' ⟨rfl, rfl⟩)))
  go_ret
  exact ⟨rfl, rfl⟩

theorem scaled_1 (b : Nat) (k x k0 : Int) (hz : rung b ≠ 0) (P : Pre b x k0) (hc : k + k0 + (x - 1023) < -1075) : Scaled b k (sg (nW b) * 9223372036854775808) := by
  refine ⟨?_, ?_⟩
  · have h7 := P.h7
    have : sg (nW b) ≤ 1 := by unfold sg; omega
    omega
  · intro r hr hi he
    exfalso
    have h := scaled_eq hz he
    have hE := P.hE
    have hM := nm_range hz
    have x1 := P.x1
    have k1 := P.k1
    have h5 := pow_down h (by omega)
    have h6 : 54 ≤ (-k).toNat + 52 - ((nE (rung b) + 1126).toNat + k.toNat) := by omega
    generalize (-k).toNat + 52 - ((nE (rung b) + 1126).toNat + k.toNat) = t at h5 h6
    have h6 : 2 ^ 54 ≤ 2 ^ t := Nat.pow_le_pow_right (by omega) h6
    have h7 := Nat.le_mul_of_pos_left (2 ^ t) (val_pos hr)
    have h8 : (2 : Nat) ^ 54 = 18014398509481984 := by decide
    rw [h8] at h6
    omega
theorem scaled_2 (b z : Nat) (k x k0 : Int) (hz : rung b ≠ 0) (P : Pre b x k0) (hc : 1023 < k + k0 + (x - 1023)) (h : z < 18446744073709551616) : Scaled b k z := by
  refine ⟨h, fun r hr hi he => ?_⟩
  exfalso
  have h := scaled_eq hz he
  have hE := P.hE
  have hM := nm_range hz
  have x1 := P.x1
  have k1 := P.k1
  have h5 := pow_up h (by omega)
  have h6 : 2046 ≤ (nE (rung b) + 1126).toNat + k.toNat - ((-k).toNat + 52) := by omega
  generalize (nE (rung b) + 1126).toNat + k.toNat - ((-k).toNat + 52) = t at h5 h6
  have h6 : 2 ^ K 2046 ≤ 2 ^ t := pw_le (K 2046) t (by rw [K_eq]; exact h6)
  have h7 := Nat.mul_le_mul hM.1 h6
  have h8 := val_lt hi
  rw [val_inf, h5] at h8
  exact absurd h8 (Nat.not_lt.2 h7)
theorem scaled_3 (b e' z : Nat) (k x k0 : Int) (hz : rung b ≠ 0) (P : Pre b x k0) (hc : k + k0 + (x - 1023) < -1022) (hc2 : -1075 ≤ k + k0 + (x - 1023)) (he' : (e' : Int) = k + k0 + (x - 1023) + 53 + 1023)
    (hz1 : floatBits .mul .f64 4368491638549381120 (mk (neg b) e' (nF (rung b))) = some z) (hz2 : z < 18446744073709551616) : Scaled b k z := by
  have hp := mk_parts (s := neg b) (e := e') (f := nF (rung b)) (by omega) (nf_lt hz)
  have hfy : rung (mk (neg b) e' (nF (rung b))) < 9218868437227405312 := by rw [hp.2.2.2.1]; have := nf_lt hz; omega
  refine ⟨hz2, fun r hr hi he => ?_⟩
  have h := scaled_eq hz he
  have hE := P.hE
  have x1 := P.x1
  have k1 := P.k1
  have h5 := pow_down h (by omega)
  have hv := v_mk (s := neg b) (e := e') hz (by omega) (by omega)
  obtain ⟨t, ht, ht2, ht3⟩ : ∃ t, (-k).toNat + 52 - ((nE (rung b) + 1126).toNat + k.toNat) = t ∧ t ≤ 53 ∧ e' - 1 = 53 - t := ⟨_, rfl, by omega, by omega⟩
  rw [ht] at h5
  rw [ht3, h5] at hv
  have h9 := tiny_exact (y := mk (neg b) e' (nF (rung b))) (r := r) hfy hr hi (by
    rw [hv, Nat.mul_assoc, ← Nat.pow_add, show t + (53 - t) = 53 by omega, Nat.mul_left_comm, pw_split (K 1021) 53 (K 1074) (by rw [K_eq, K_eq])])
  rw [hp.2.2.2.2.1, hz1] at h9
  injection h9
theorem scaled_4 (b e' : Nat) (k x k0 : Int) (hz : rung b ≠ 0) (P : Pre b x k0) (hc : -1022 ≤ k + k0 + (x - 1023)) (hc2 : k + k0 + (x - 1023) ≤ 1023) (he' : (e' : Int) = k + k0 + (x - 1023) + 1023) : Scaled b k (mk (neg b) e' (nF (rung b))) := by
  have hp := mk_parts (s := neg b) (e := e') (f := nF (rung b)) (by omega) (nf_lt hz)
  refine ⟨hp.2.2.2.2.2, fun r hr hi he => ?_⟩
  have h := scaled_eq hz he
  have hE := P.hE
  have x1 := P.x1
  have k1 := P.k1
  have h5 := pow_up h (by omega)
  have hv := v_mk (s := neg b) (e := e') hz (by omega) (by omega)
  have ht : (nE (rung b) + 1126).toNat + k.toNat - ((-k).toNat + 52) = e' - 1 := by omega
  rw [ht] at h5
  have h9 : val r = val (rung (mk (neg b) e' (nF (rung b)))) := h5.trans hv.symm
  rw [val_inj h9]
  have := word_back hp.2.2.2.2.2
  rw [hp.2.2.2.2.1] at this
  exact this.symm

theorem ldexp_low (b : Nat) (k : Int) (w : World) (hb : b < 18446744073709551616) (hz : rung b ≠ 0) (hf : rung b < 9218868437227405312) (hk : -40000 ≤ k) (hk2 : k ≤ 40000) :
    Calls Tryd.prog 52 #[.float .f64 b, .int .i64 k] w (SomeF (Scaled b k) w) := by
  obtain ⟨x, k0, P⟩ := pre b hz hf
  have x1 := P.x1
  have x2 := P.x2
  have k1 := P.k1
  have k2 := P.k2
  by_cases hc1 : k + k0 + (x - 1023) < -1075
  · exact (ldexp_1 b k x k0 w hb hz hf hk hk2 P hc1).mono fun _ _ ⟨h, h'⟩ => ⟨_, scaled_1 b k x k0 hz P hc1, h, h'⟩
  · by_cases hc2 : 1023 < k + k0 + (x - 1023)
    · exact (ldexp_2 b k x k0 w hb hz hf hk hk2 P hc2).mono fun _ _ ⟨h, h'⟩ => ⟨_, scaled_2 b _ k x k0 hz P hc2 (by split <;> omega), h, h'⟩
    · have hp := fun e' he => mk_parts (s := neg b) (e := e') (f := nF (rung b)) he (nf_lt hz)
      have hl := nf_lt hz
      by_cases hc3 : k + k0 + (x - 1023) < -1022
      · obtain ⟨e', he'⟩ : ∃ e' : Nat, (e' : Int) = k + k0 + (x - 1023) + 53 + 1023 := ⟨(k + k0 + (x - 1023) + 53 + 1023).toNat, by omega⟩
        have hs := P.hS e' (by omega)
        rw [he'] at hs
        obtain ⟨z, hz1, hz2⟩ := tiny_mul (finite_of (b := mk (neg b) e' (nF (rung b))) (by rw [(hp e' (by omega)).2.2.2.1]; omega))
        exact (ldexp_3 b _ z k x k0 w hb hz hf hk hk2 P hc3 (by omega) hs hz1).mono fun _ _ ⟨h, h'⟩ => ⟨_, scaled_3 b e' z k x k0 hz P hc3 (by omega) he' hz1 hz2, h, h'⟩
      · obtain ⟨e', he'⟩ : ∃ e' : Nat, (e' : Int) = k + k0 + (x - 1023) + 1023 := ⟨(k + k0 + (x - 1023) + 1023).toNat, by omega⟩
        have hs := P.hS e' (by omega)
        rw [he'] at hs
        have q := hp e' (by omega)
        have hz1 := one_mul_f (y := mk (neg b) e' (nF (rung b))) q.2.2.2.2.2 (by rw [q.2.2.2.1]; omega) (by rw [q.2.2.2.1]; omega)
        exact (ldexp_4 b _ k x k0 w hb hz hf hk hk2 P (by omega) (by omega) hs hz1).mono fun _ _ ⟨h, h'⟩ => ⟨_, scaled_4 b e' k x k0 hz P (by omega) (by omega) he', h, h'⟩

theorem ldexp_num (b : Nat) (k : Int) (w : World) (hb : b < 18446744073709551616) (hz : rung b ≠ 0) (hf : rung b < 9218868437227405312) (hk : -40000 ≤ k) (hk2 : k ≤ 40000) :
    Calls Tryd.prog 45 #[.float .f64 b, .int .i64 k] w (SomeF (Scaled b k) w) := by
  have HL := Lib.hid (ldexp_low b k w hb hz hf hk hk2)
  clear hz hf hk hk2
  go_enter Tryd.func45, Tryd.ntmps45
  go_wp2_with (go_at_call 52; ((with_reducible refine HL.out.mono ?_); rintro e w' ⟨z, hz, rfl, rfl⟩; have HQ := Lib.hid hz; clear hz))
  go_ret
  exact ⟨_, HQ.out, rfl, rfl⟩
theorem ldexp_zero (k : Int) (w : World) : Calls Tryd.prog 45 #[.float .f64 0, .int .i64 k] w fun e w' => e = .returned (.float .f64 0) ∧ w = w' := by
  have hl : ∀ w, Calls Tryd.prog 52 #[.float .f64 0, .int .i64 k] w fun e w' => e = .returned (.float .f64 0) ∧ w = w' := by
    intro w
    have h0 : feq 0 0 = true := by decide
    go_enter Tryd.func52, Tryd.ntmps52
    go_wp2
    go_ret
    exact ⟨rfl, rfl⟩
  have HL := Lib.hid hl
  clear hl
  go_enter Tryd.func45, Tryd.ntmps45
  go_wp2_with (go_at_call 52; ((with_reducible refine (HL.out _).mono ?_); rintro e w' ⟨rfl, rfl⟩))
  go_ret
  exact ⟨rfl, rfl⟩
end Go.Proofs.YtobechecnkmpaaaDoor
