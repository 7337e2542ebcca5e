/- What math's small functions on words give: Abs, IsInf, Inf, NaN, Copysign, normalize, Frexp, Ldexp. No condition but those in each statement. -/
import Derived.Test.YtobechecnkmpaaaDoorExactA
import Derived.Laws.BitsAll
import Derived.Laws.Shifts
namespace Go.Proofs.YtobechecnkmpaaaDoor
open Go.RowKit F64 Go.Lib

theorem and_parts {k h h' f f' : Nat} (hf : f < 2 ^ k) (hf' : f' < 2 ^ k) : (2 ^ k * h + f) &&& (2 ^ k * h' + f') = 2 ^ k * (h &&& h') + (f &&& f') := by
  apply Nat.eq_of_testBit_eq
  intro j
  rw [Nat.testBit_and, Nat.testBit_two_pow_mul_add _ hf, Nat.testBit_two_pow_mul_add _ hf', Nat.testBit_two_pow_mul_add _ (Nat.lt_of_le_of_lt Nat.and_le_left hf)]
  split <;> rw [Nat.testBit_and]
theorem or_parts {k h h' f f' : Nat} (hf : f < 2 ^ k) (hf' : f' < 2 ^ k) : (2 ^ k * h + f) ||| (2 ^ k * h' + f') = 2 ^ k * (h ||| h') + (f ||| f') := by
  apply Nat.eq_of_testBit_eq
  intro j
  rw [Nat.testBit_or, Nat.testBit_two_pow_mul_add _ hf, Nat.testBit_two_pow_mul_add _ hf', Nat.testBit_two_pow_mul_add _ (Nat.or_lt_two_pow hf hf')]
  split <;> rw [Nat.testBit_or]

/-- A word's three fields. -/
def sg (b : Nat) : Nat := b / 9223372036854775808
def ex (b : Nat) : Nat := b / 4503599627370496 % 2048
def fr (b : Nat) : Nat := b % 4503599627370496

theorem p52 : (2 : Nat) ^ 52 = 4503599627370496 := by decide
theorem p11 : (2 : Nat) ^ 11 = 2048 := by decide
theorem p63 : (2 : Nat) ^ 63 = 9223372036854775808 := by decide
theorem fields (b : Nat) : b = 2 ^ 52 * (2 ^ 11 * sg b + ex b) + fr b := by
  rw [p52, p11]; unfold sg ex fr; omega
theorem and_abs (b : Nat) : b &&& 9223372036854775807 = rung b := by
  have := Nat.and_two_pow_sub_one_eq_mod b 63
  rw [p63] at this; exact this
theorem and_sign {b : Nat} (hb : b < 18446744073709551616) : b &&& 9223372036854775808 = sg b * 9223372036854775808 := by
  have h1 : b = 2 ^ 63 * sg b + b % 9223372036854775808 := by rw [p63]; unfold sg; omega
  have h2 : (9223372036854775808 : Nat) = 2 ^ 63 * 1 + 0 := by rw [p63]
  have h3 : sg b = 0 ∨ sg b = 1 := by unfold sg; omega
  have h4 := and_parts (k := 63) (h := sg b) (h' := 1) (f := b % 9223372036854775808) (f' := 0) (by rw [p63]; omega) (by rw [p63]; omega)
  rw [← h1, ← h2] at h4
  rw [h4, p63, Nat.and_zero]
  rcases h3 with h3 | h3 <;> rw [h3] <;> rfl
/-- The exponent taken out, and another one put in. -/
theorem and_frac {b : Nat} (hb : b < 18446744073709551616) : b &&& 9227875636482146303 = sg b * 9223372036854775808 + fr b := by
  have h2 : (9227875636482146303 : Nat) = 2 ^ 52 * (2 ^ 11 * 1 + 0) + 4503599627370495 := by decide
  have h3 : sg b = 0 ∨ sg b = 1 := by unfold sg; omega
  have h4 := and_parts (k := 52) (h := 2 ^ 11 * sg b + ex b) (h' := 2 ^ 11 * 1 + 0) (f := fr b) (f' := 4503599627370495) (by rw [p52]; unfold fr; omega) (by decide)
  have h5 := and_parts (k := 11) (h := sg b) (h' := 1) (f := ex b) (f' := 0) (by rw [p11]; unfold ex; omega) (by decide)
  have h6 : fr b &&& 4503599627370495 = fr b := by
    have := Nat.and_two_pow_sub_one_eq_mod (fr b) 52
    rw [p52] at this
    rw [show (4503599627370495 : Nat) = 4503599627370496 - 1 by decide, this]; unfold fr; omega
  rw [← fields, ← h2, h5, h6, Nat.and_zero] at h4
  rw [h4, p52, p11]
  rcases h3 with h3 | h3 <;> rw [h3] <;> simp
theorem or_exp {s f e : Nat} (hf : f < 4503599627370496) (he : e < 2048) : (s * 9223372036854775808 + f) ||| (e * 4503599627370496) = s * 9223372036854775808 + e * 4503599627370496 + f := by
  have h4 := or_parts (k := 52) (h := 2 ^ 11 * s + 0) (h' := 2 ^ 11 * 0 + e) (f := f) (f' := 0) (by rw [p52]; omega) (by decide)
  have h5 := or_parts (k := 11) (h := s) (h' := 0) (f := 0) (f' := e) (by decide) (by rw [p11]; omega)
  rw [h5, Nat.or_zero, Nat.zero_or, Nat.or_zero, p52, p11] at h4
  rw [show s * 9223372036854775808 + f = 4503599627370496 * (2048 * s + 0) + f by omega, show e * 4503599627370496 = 4503599627370496 * (2048 * 0 + e) + 0 by omega, h4]
  omega

theorem abs_any (b : Nat) (w : World) (hb : b < 18446744073709551616) : Calls Tryd.prog 66 #[.float .f64 b] w fun e w' => e = .returned (.float .f64 (rung b)) ∧ w = w' := by
  have h1 : bits .andNot .u64 (b : Int) 9223372036854775808 = ((rung b : Nat) : Int) := by rw [u64_andNot _ _ (by omega) (by omega) (by omega) (by omega), ← and_abs b]; rfl
  go_enter Tryd.func66, Tryd.ntmps66
  go_wp2
  go_ret
  exact ⟨rfl, rfl⟩

theorem rung_rung (b : Nat) : rung (rung b) = rung b := by unfold rung; omega
theorem neg_rung (b : Nat) : neg (rung b) = false := by
  have : rung b / 9223372036854775808 = 0 := Nat.div_eq_of_lt (rung_lt b)
  unfold neg; rw [this]; rfl
theorem rung_small (b : Nat) : rung b < 18446744073709551616 := by unfold rung; omega
theorem key_pmax (b : Nat) : flt 9218868437227405311 (rung b) = decide (rung b = 9218868437227405312) := by
  unfold flt
  rw [k_pmax, n_pmax]
  unfold isNan key
  rw [neg_rung, rung_rung]
  simp only [Bool.not_false, Bool.true_and, Bool.false_eq_true, if_false]
  rw [Bool.eq_iff_iff]; simp; omega

theorem isinf_any (b : Nat) (w : World) (hb : b < 18446744073709551616) : Calls Tryd.prog 57 #[.float .f64 b, .int .i64 0] w fun e w' => e = .returned (.bool (decide (rung b = 9218868437227405312))) ∧ w = w' := by
  have h1 := key_pmax b
  go_enter Tryd.func57, Tryd.ntmps57
  go_wp2_with (go_at_call 66; ((with_reducible refine (abs_any _ _ hb).mono ?_); rintro e w' ⟨rfl, rfl⟩))
  go_ret
  exact ⟨rfl, rfl⟩

theorem inf_pos (w : World) : Calls Tryd.prog 60 #[.int .i64 1] w fun e w' => e = .returned (.float .f64 9218868437227405312) ∧ w = w' := by
  go_enter Tryd.func60, Tryd.ntmps60
  go_wp2
  go_ret
  exact ⟨rfl, rfl⟩
theorem inf_neg (w : World) : Calls Tryd.prog 60 #[.int .i64 (-1)] w fun e w' => e = .returned (.float .f64 18442240474082181120) ∧ w = w' := by
  go_enter Tryd.func60, Tryd.ntmps60
  go_wp2
  go_ret
  exact ⟨rfl, rfl⟩

theorem copysign_any (b : Nat) (w : World) (hb : b < 18446744073709551616) : Calls Tryd.prog 59 #[.float .f64 0, .float .f64 b] w fun e w' => e = .returned (.float .f64 (sg b * 9223372036854775808)) ∧ w = w' := by
  have h1 : bits .and .u64 (b : Int) 9223372036854775808 = ((sg b * 9223372036854775808 : Nat) : Int) := by rw [u64_and _ _ (by omega) (by omega) (by omega) (by omega), ← and_sign hb]; rfl
  have h2 : bits .andNot .u64 0 9223372036854775808 = 0 := by decide
  have h0 : sg b * 9223372036854775808 < 18446744073709551616 := by unfold sg; omega
  have h3 : bits .or .u64 0 ((sg b * 9223372036854775808 : Nat) : Int) = ((sg b * 9223372036854775808 : Nat) : Int) := by rw [u64_or _ _ (by omega) (by omega) (by omega) (by omega), Int.toNat_natCast]; show ((0 ||| _ : Nat) : Int) = _; rw [Nat.zero_or]
  generalize sg b * 9223372036854775808 = x at *
  go_enter Tryd.func59, Tryd.ntmps59
  go_wp2
  go_ret
  exact ⟨rfl, rfl⟩

/-! ### A finite number with all its binary digits, as a word -/
def nX (r : Nat) : Nat := if r < 4503599627370496 then r.log2 + 1 else plc r + 1
def nK (r : Nat) : Int := if r < 4503599627370496 then -52 else 0
def mk (s : Bool) (e f : Nat) : Nat := Ieee.double.word s (e * 4503599627370496 + f)
def nF (r : Nat) : Nat := nM r - 4503599627370496
def nW (b : Nat) : Nat := mk (neg b) (nX (rung b)) (nF (rung b))

theorem mk_parts {s : Bool} {e f : Nat} (he : e < 2047) (hf : f < 4503599627370496) : sg (mk s e f) = s.toNat ∧ ex (mk s e f) = e ∧ fr (mk s e f) = f ∧ rung (mk s e f) = e * 4503599627370496 + f ∧ neg (mk s e f) = s ∧ mk s e f < 18446744073709551616 := by
  have h := word_rung (n := s) (r := e * 4503599627370496 + f) (by omega)
  refine ⟨?_, ?_, ?_, h⟩
  all_goals
    unfold mk Ieee.Format.word
    rw [c_sw]
    cases s
    · simp [sg, ex, fr]; omega
    · simp [sg, ex, fr]; omega
theorem mk_eq (s : Bool) (e f : Nat) : mk s e f = s.toNat * 9223372036854775808 + e * 4503599627370496 + f := by
  unfold mk Ieee.Format.word
  rw [c_sw]
  cases s <;> simp <;> omega
theorem nf_lt {r : Nat} (h : r ≠ 0) : nF r < 4503599627370496 := by have := nm_range h; unfold nF; omega
theorem nx_range {r : Nat} (h : r ≠ 0) (hi : r < 9218868437227405312) : 1 ≤ nX r ∧ nX r ≤ 2046 ∧ -52 ≤ nK r ∧ nK r ≤ 0 ∧ nE r = (nX r : Int) + nK r - 1075 := by
  unfold nX nK nE
  split
  · have h3 : r.log2 < 52 := by rw [Nat.log2_lt h]; omega
    omega
  · unfold plc; omega
theorem get_exp {s : Bool} {e f : Nat} (he : e < 2047) (hf : f < 4503599627370496) : bits .and .u64 (((mk s e f : Nat) : Int) / 4503599627370496) 2047 = (e : Int) := by
  have h := mk_parts (s := s) he hf
  rw [u64_and _ _ (by omega) (by omega) (by omega) (by omega)]
  have e1 : (((mk s e f : Nat) : Int) / 4503599627370496).toNat = mk s e f / 4503599627370496 := by omega
  have e2 := Nat.and_two_pow_sub_one_eq_mod (mk s e f / 4503599627370496) 11
  rw [p11] at e2
  rw [e1]
  show ((mk s e f / 4503599627370496 &&& 2047 : Nat) : Int) = _
  rw [show (2047 : Nat) = 2048 - 1 by decide, e2]
  have := h.2.1
  unfold ex at this
  rw [this]
theorem i64_and2047 (n : Int) : bits .and .i64 n 2047 = n % 2048 := by
  have h127 : (BitVec.ofInt 64 2047).toNat = 2 ^ 11 - 1 := by decide
  have key : (BitVec.ofInt 64 n &&& BitVec.ofInt 64 2047).toNat = (n % ((2 ^ 64 : Nat) : Int)).toNat % 2 ^ 11 := by
    rw [BitVec.toNat_and, BitVec.toNat_ofInt, h127, Nat.and_two_pow_sub_one_eq_mod]
  show IntKind.i64.wrap ((BitVec.ofInt 64 n &&& BitVec.ofInt 64 2047).toNat : Nat) = n % 2048
  rw [key, IntKind.wrap_i64]
  omega
theorem get_exp_i {s : Bool} {e f : Nat} (he : e < 2047) (hf : f < 4503599627370496) : bits .and .i64 (wrap64 (((mk s e f : Nat) : Int) / 4503599627370496)) 2047 = (e : Int) := by
  have h := mk_parts (s := s) he hf
  have h2 : mk s e f / 4503599627370496 % 2048 = e := h.2.1
  rw [IntWalk.wrap64_in _ (by omega), i64_and2047]
  omega
theorem set_exp {s : Bool} {e f e' : Nat} (he : e < 2047) (hf : f < 4503599627370496) (he' : e' < 2047) : bits .or .u64 (bits .andNot .u64 ((mk s e f : Nat) : Int) 9218868437227405312) ((e' * 4503599627370496 : Nat) : Int) = ((mk s e' f : Nat) : Int) := by
  have h := mk_parts (s := s) he hf
  rw [u64_andNot _ _ (by omega) (by omega) (by omega) (by omega)]
  have e1 : (((mk s e f : Nat) : Int).toNat &&& (18446744073709551615 - (9218868437227405312 : Int).toNat)) = s.toNat * 9223372036854775808 + f := by
    rw [Int.toNat_natCast]
    show (mk s e f &&& 9227875636482146303) = _
    rw [and_frac h.2.2.2.2.2, h.1, h.2.2.1]
  rw [e1]
  have hs : s.toNat ≤ 1 := by cases s <;> decide
  rw [u64_or _ _ (by omega) (by omega) (by omega) (by omega), Int.toNat_natCast, Int.toNat_natCast, or_exp hf (by omega), mk_eq]
theorem nw_lt (b : Nat) (hz : rung b ≠ 0) (hf : rung b < 9218868437227405312) : nW b < 18446744073709551616 :=
  (mk_parts (s := neg b) (by have := nx_range hz hf; omega) (nf_lt hz)).2.2.2.2.2

theorem feq_zero {b : Nat} (hz : rung b ≠ 0) : feq b 0 = false := by
  unfold feq
  rw [k_zero, n_zero]
  have : ¬ key b = 0 := by unfold key; split <;> omega
  simp [this]
theorem flt_zero {b : Nat} (hz : rung b ≠ 0) (hf : rung b < 9218868437227405312) : flt b 0 = neg b := by
  unfold flt
  rw [k_zero, n_zero, finite_of hf]
  unfold key
  cases neg b <;> simp <;> omega
theorem flt_tiny {b : Nat} (hf : rung b < 9218868437227405312) : flt (rung b) 4503599627370496 = decide (rung b < 4503599627370496) := by
  unfold flt
  have h1 : isNan 4503599627370496 = false := by decide
  have h2 : key 4503599627370496 = 4503599627370496 := by decide
  rw [h1, h2, finite_of (by rw [rung_rung]; exact hf)]
  unfold key
  rw [neg_rung, rung_rung]
  simp only [Bool.not_false, Bool.true_and, Bool.false_eq_true, if_false]
  rw [decide_eq_decide]; omega

theorem val_nw {b : Nat} (hz : rung b ≠ 0) (hf : rung b < 9218868437227405312) : val (nX (rung b) * 4503599627370496 + nF (rung b)) = nM (rung b) * 2 ^ (nX (rung b) - 1) := by
  have h0 := nm_range hz
  have h1 := nx_range hz hf
  have := val_norm (j := nX (rung b) - 1) h0.1 h0.2
  rw [show nX (rung b) - 1 + 1 = nX (rung b) by omega] at this
  exact this
theorem up_exact {b : Nat} (hz : rung b ≠ 0) (hs : rung b < 4503599627370496) : floatBits .mul .f64 b 4841369599423283200 = some (nW b) := by
  have hf : rung b < 9218868437227405312 := by omega
  have h0 := nm_range hz
  have h1 := nx_range hz hf
  have h2 := nf_lt hz
  have r1 : rung 4841369599423283200 = (1074 + 1) * 4503599627370496 + (4503599627370496 - 4503599627370496) := by decide
  have v1 : val (rung 4841369599423283200) = 4503599627370496 * 2 ^ K 1074 := by rw [r1, val_normK (by omega) (by omega)]
  have n1 : neg 4841369599423283200 = false := by decide
  have e : nM (rung b) * 2 ^ (nX (rung b) - 1) = val (rung b) * 4503599627370496 := by
    have := nm_val hz
    rw [p52] at this
    have hk : nK (rung b) = -52 := by unfold nK; rw [if_pos hs]
    rw [← this, show nX (rung b) - 1 = (nE (rung b) + 1126).toNat by omega]
  have := mul_exact (a := b) (b := 4841369599423283200) (r := nX (rung b) * 4503599627370496 + nF (rung b)) hf (by rw [r1]; omega) (by omega) (by omega) (by rw [val_nw hz hf, e, v1, Nat.mul_assoc])
  rw [n1, Bool.xor_false] at this
  exact this
theorem nw_same {b : Nat} (hb : b < 18446744073709551616) (hs : ¬ rung b < 4503599627370496) : nW b = b := by
  unfold nW mk nX nF nM
  rw [if_neg hs, if_neg hs]
  have e : (plc (rung b) + 1) * 4503599627370496 + (mag (rung b) - 4503599627370496) = rung b := by unfold plc mag; rw [if_neg hs]; omega
  rw [e, word_back hb]

theorem norm_any (b : Nat) (w : World) (hb : b < 18446744073709551616) (hz : rung b ≠ 0) (hf : rung b < 9218868437227405312) : Calls Tryd.prog 58 #[.float .f64 b] w fun e w' => e = .returned (.tuple #[.float .f64 (nW b), .int .i64 (nK (rung b))]) ∧ w = w' := by
  have h1 := flt_tiny hf
  by_cases hs : rung b < 4503599627370496
  · have hm : ∀ w, (binOp .mul 22 (.float .f64 b) (.float .f64 4841369599423283200)).run Tryd.prog w = .ok (.float .f64 (nW b)) w := fun w => run_float_arith w .mul _ .f64 _ _ _ (up_exact hz hs)
    have hk : nK (rung b) = -52 := by unfold nK; rw [if_pos hs]
    rw [hk]
    have h2 : flt (rung b) 4503599627370496 = true := by rw [h1]; simpa using hs
    clear h1 hs hz hf
    go_enter Tryd.func58, Tryd.ntmps58
    go_wp2_with (go_at_call 66; ((with_reducible refine (abs_any _ _ hb).mono ?_); rintro e w' ⟨rfl, rfl⟩))
    go_ret2
    exact ⟨rfl, rfl⟩
  · rw [nw_same hb hs]
    have hk : nK (rung b) = 0 := by unfold nK; rw [if_neg hs]
    rw [hk]
    have h2 : flt (rung b) 4503599627370496 = false := by rw [h1]; simpa using hs
    clear h1 hs hz hf
    go_enter Tryd.func58, Tryd.ntmps58
    go_wp2_with (go_at_call 66; ((with_reducible refine (abs_any _ _ hb).mono ?_); rintro e w' ⟨rfl, rfl⟩))
    go_ret2
    exact ⟨rfl, rfl⟩

theorem ret_pair {a b : Nat} {m n : Int} (h : a = b) (h2 : m = n) : Ending.returned (.tuple #[.float .f64 a, .int .i64 m]) = .returned (.tuple #[.float .f64 b, .int .i64 n]) := by rw [h, h2]

theorem frexp_low (b : Nat) (w : World) (hb : b < 18446744073709551616) (hz : rung b ≠ 0) (hf : rung b < 9218868437227405312) : Calls Tryd.prog 50 #[.float .f64 b] w fun e w' => e = .returned (.tuple #[.float .f64 (mk (neg b) 1022 (nF (rung b))), .int .i64 (nE (rung b) + 53)]) ∧ w = w' := by
  have h0 := feq_zero hz
  have h1 : decide (rung b = 9218868437227405312) = false := by simp; omega
  have h2 : isNan b = false := finite_of hf
  have hx := nx_range hz hf
  have E1 := Lib.hid (set_exp (s := neg b) (e := nX (rung b)) (f := nF (rung b)) (e' := 1022) (by omega) (nf_lt hz) (by omega))
  have E2 := Lib.hid (get_exp (s := neg b) (e := nX (rung b)) (f := nF (rung b)) (by omega) (nf_lt hz))
  have HX := Lib.hid hx
  have HZ := Lib.hid hz
  clear hz hx
  go_enter Tryd.func50, Tryd.ntmps50
  go_wp2_with (first
    | (go_at_call 57; ((with_reducible refine (isinf_any _ _ hb).mono ?_); rintro e w' ⟨rfl, rfl⟩))
    | (go_at_call 42; ((with_reducible refine (isnan _ _).mono ?_); rintro e w' ⟨rfl, rfl⟩))
    | (go_at_call 58; ((with_reducible refine (norm_any _ _ hb HZ.out hf).mono ?_); rintro e w' ⟨rfl, rfl⟩)))
  go_ret2
  have hx := HX.out
  have e1 := E1.out
  have e2 := E2.out
  refine ⟨ret_pair ?_ ?_, rfl⟩
  · show (bits .or .u64 (bits .andNot .u64 ((mk (neg b) (nX (rung b)) (nF (rung b)) : Nat) : Int) 9218868437227405312) ((1022 * 4503599627370496 : Nat) : Int)).toNat = _
    rw [e1]; rfl
  · unfold nW
    rw [e2]
    have hy : (1 : Int) ≤ (nX (rung b) : Nat) ∧ ((nX (rung b) : Nat) : Int) ≤ 2046 := by omega
    have hz := hx.2.2
    clear hx
    generalize ((nX (rung b) : Nat) : Int) = x at hy hz
    rw [show wrap64 x = x from IntWalk.wrap64_in _ (by omega), show wrap64 (x - 1023) = x - 1023 from IntWalk.wrap64_in _ (by omega), show wrap64 (x - 1023 + 1) = x - 1023 + 1 from IntWalk.wrap64_in _ (by omega), IntWalk.wrap64_in _ (by omega)]
    omega
theorem frexp_any (b : Nat) (w : World) (hb : b < 18446744073709551616) (hz : rung b ≠ 0) (hf : rung b < 9218868437227405312) : Calls Tryd.prog 44 #[.float .f64 b] w fun e w' => e = .returned (.tuple #[.float .f64 (mk (neg b) 1022 (nF (rung b))), .int .i64 (nE (rung b) + 53)]) ∧ w = w' := by
  have HZ := Lib.hid hz
  clear hz
  go_enter Tryd.func44, Tryd.ntmps44
  go_wp2_with (go_at_call 50; ((with_reducible refine (frexp_low _ _ hb HZ.out hf).mono ?_); rintro e w' ⟨rfl, rfl⟩))
  go_ret2
  exact ⟨rfl, rfl⟩
end Go.Proofs.YtobechecnkmpaaaDoor
