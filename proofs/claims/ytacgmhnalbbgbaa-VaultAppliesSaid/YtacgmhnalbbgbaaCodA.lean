/- Numbers as bits (layer 11, codec): plain; what the document's Bits and Number give. Conditions: those in each statement. -/
import Derived.Test.YtacgmhnalbbgbaaF64B
import Derived.Test.YtacgmhnalbbgbaaRealB
import Derived.Test.YtacgmhnalbbgbaaNan
import Derived.Test.YtacgmhnalbbgbaaBase
import Derived.Deep.QuietTactic
import Derived.BigQuiet

/- Part: Plain facts on the words of binary64 that the document's answer for layer 11 (codec) goes by: a magnitude doubled and halved till it is whole, its fraction and its place; exact sums. No condition but those in each statement. -/
namespace Go.Proofs.Ytacgmhnalbbgbaa.Cod
open Go.RowKit F64 Ieee
set_option linter.unusedVariables false

/-! ### A magnitude m at place j: m below 2^53 -/
theorem vinf : val 9218868437227405312 = 4503599627370496 * 2 ^ K 2046 := by
  rw [show (9218868437227405312 : Nat) = (2046 + 1) * 4503599627370496 + (4503599627370496 - 4503599627370496) by decide, val_normK (by omega) (by omega)]
theorem inf_of {r : Nat} (h : val r < 9007199254740992 * 2 ^ K 1074) : r < 9218868437227405312 := val_lt_iff.1 (by rw [vinf]; exact Nat.lt_of_lt_of_le h big_small)
theorem vpos {r : Nat} (h : 0 < val r) : 0 < r := by
  rcases Nat.eq_zero_or_pos r with e | e
  · subst e; rw [val_zero] at h; omega
  · exact e
theorem rung_small {r : Nat} (h : r < 9223372036854775808) : rung r = r ∧ neg r = false := by
  unfold rung neg; constructor
  · omega
  · rw [beq_eq_false_iff_ne]; omega
theorem word_false (r : Nat) : double.word false r = r := by unfold Format.word; simp
theorem v53 : val 4845873199050653696 = 9007199254740992 * 2 ^ K 1074 := by
  rw [show (4845873199050653696 : Nat) = (1075 + 1) * 4503599627370496 + (4503599627370496 - 4503599627370496) by decide, val_normK (by omega) (by omega), pw_step]
  generalize 2 ^ K 1074 = t; omega
theorem v52 : val 4841369599423283200 = 4503599627370496 * 2 ^ K 1074 := by
  rw [show (4841369599423283200 : Nat) = (1074 + 1) * 4503599627370496 + (4503599627370496 - 4503599627370496) by decide, val_normK (by omega) (by omega)]
/-- A number above 0, its magnitude m at place j. -/
structure At (m j r : Nat) : Prop where
  lt : m < 9007199254740992
  pos : 0 < m
  fin : r < 9218868437227405312
  val : val r = m * 2 ^ j
theorem At.start {r : Nat} (h : 0 < r) (hf : r < 9218868437227405312) : At (mag r) (plc r) r := ⟨by unfold mag; split <;> omega, mag_pos h, hf, rfl⟩
theorem At.rung {m j r : Nat} (h : At m j r) : F64.rung r = r ∧ F64.neg r = false := rung_small (Nat.lt_trans h.fin (by decide))
theorem At.pr {m j r : Nat} (h : At m j r) : 0 < r := vpos (by rw [h.val]; exact Nat.mul_pos h.pos (two_pos _))
theorem At.half {m j r : Nat} (h : At m (j + 1) r) : ∃ r', At m j r' ∧ floatBits .quo .f64 r 4611686018427387904 = some r' := by
  obtain ⟨s, hs⟩ := val_rep h.lt j
  have h2 : F64.val r = 2 * F64.val s := by rw [h.val, hs, Nat.pow_succ, ← Nat.mul_assoc, Nat.mul_comm 2]
  have hp := two_pos j
  have hs0 : 0 < F64.val s := by rw [hs]; exact Nat.mul_pos h.pos hp
  have hsr : s < r := val_lt_iff.1 (by omega)
  have hf := h.fin
  have e := half_exact (b := r) (r := s) (by rw [h.rung.1]; exact h.fin) (vpos hs0) (by omega) (by rw [h.rung.1]; exact h2)
  rw [h.rung.2, word_false] at e
  exact ⟨s, ⟨h.lt, h.pos, by omega, hs⟩, e⟩
theorem At.dbl {m j r : Nat} (h : At m j r) (hj : j < 1074 ∨ ∃ R, R < 9218868437227405312 ∧ m * 2 ^ (j + 1) ≤ F64.val R) : ∃ r', At m (j + 1) r' ∧ floatBits .mul .f64 4611686018427387904 r = some r' := by
  obtain ⟨s, hs⟩ := val_rep h.lt (j + 1)
  have h2 : F64.val s = 2 * F64.val r := by rw [h.val, hs, Nat.pow_succ, ← Nat.mul_assoc, Nat.mul_comm 2]
  have hs0 : 0 < F64.val s := by rw [hs]; exact Nat.mul_pos h.pos (two_pos _)
  have hi : s < 9218868437227405312 := by
    rcases hj with hj | ⟨R, hR, hle⟩
    · refine inf_of ?_
      rw [hs]
      have h3 : 2 ^ (j + 1) ≤ 2 ^ K 1074 := pw_le _ _ (by rw [K_eq]; omega)
      exact Nat.lt_of_lt_of_le (Nat.mul_lt_mul_of_pos_right h.lt (two_pos _)) (Nat.mul_le_mul_left _ h3)
    · have := val_le_iff.1 (show F64.val s ≤ F64.val R by rw [hs]; exact hle)
      omega
  have e := dbl_exact (b := r) (r := s) (by rw [h.rung.1]; exact h.fin) (vpos hs0) hi (by rw [h.rung.1]; exact h2)
  rw [h.rung.2, word_false] at e
  exact ⟨s, ⟨h.lt, h.pos, hi, hs⟩, e⟩
/-- Is it 2^53 or more; is it below 2^52? -/
theorem At.ge53 {m j r : Nat} (h : At m j r) : (4845873199050653696 ≤ r) ↔ 9007199254740992 * 2 ^ K 1074 ≤ m * 2 ^ j := by rw [← val_le_iff, v53, h.val]
theorem At.lt52 {m j r : Nat} (h : At m j r) : (r < 4841369599423283200) ↔ m * 2 ^ j < 4503599627370496 * 2 ^ K 1074 := by rw [← val_lt_iff, v52, h.val]
theorem At.big {m j r : Nat} (h : At m j r) (hm : 4503599627370496 ≤ m) : (4845873199050653696 ≤ r) ↔ 1074 < j := by
  rw [h.ge53]
  have hK := K_eq 1074
  constructor
  · intro h1
    by_cases hj : 1074 < j
    · exact hj
    · have h3 : 2 ^ j ≤ 2 ^ K 1074 := pw_le _ _ (by omega)
      have h4 := Nat.mul_lt_mul_of_pos_right h.lt (two_pos j)
      have h5 := Nat.mul_le_mul_left 9007199254740992 h3
      omega
  · intro hj
    have h3 : 2 ^ K 1075 ≤ 2 ^ j := pw_le _ _ (by rw [K_eq]; omega)
    have h4 := pw_step
    have h5 := Nat.mul_le_mul hm h3
    rw [h4] at h5
    generalize 2 ^ K 1074 = t at *
    generalize m * 2 ^ j = u at *
    omega
theorem At.low {m j r : Nat} (h : At m j r) (hm : 4503599627370496 ≤ m) : (r < 4841369599423283200) ↔ j < 1074 := by
  rw [h.lt52]
  have hK := K_eq 1074
  constructor
  · intro h1
    by_cases hj : j < 1074
    · exact hj
    · have h3 : 2 ^ K 1074 ≤ 2 ^ j := pw_le _ _ (by omega)
      have h5 := Nat.mul_le_mul hm h3
      omega
  · intro hj
    have h3 : 2 ^ (j + 1) ≤ 2 ^ K 1074 := pw_le _ _ (by omega)
    have h4 := Nat.mul_lt_mul_of_pos_right h.lt (two_pos j)
    rw [Nat.pow_succ] at h3
    generalize 2 ^ K 1074 = t at *
    generalize 2 ^ j = u at *
    omega
theorem At.sub {m j r : Nat} (h : At m j r) (hm : m < 4503599627370496) (hj : j ≤ 1074) : r < 4841369599423283200 := by
  rw [h.lt52]
  have h3 : 2 ^ j ≤ 2 ^ K 1074 := pw_le _ _ (by rw [K_eq]; exact hj)
  exact Nat.lt_of_lt_of_le (Nat.mul_lt_mul_of_pos_right hm (two_pos j)) (Nat.mul_le_mul_left _ h3)
/-- At place 1074 it is whole. -/
theorem At.whole {m r : Nat} (h : At m 1074 r) : floatToIntVal .f64 r .u64 = some (m : Int) := by
  have hv : F64.val r = m * 2 ^ K 1074 := by rw [K_eq]; exact h.val
  have hlt : F64.val r < 9007199254740992 * 2 ^ K 1074 := by rw [hv]; exact Nat.mul_lt_mul_of_pos_right h.lt (two_pos _)
  have hp : plc r ≤ 1074 := by
    by_cases h1 : r < 4503599627370496
    · rw [plc_zero (by omega)]; omega
    · have hb := (val_big (r := r) (by omega)).1
      by_cases h2 : plc r ≤ 1074
      · exact h2
      · exfalso
        have h3 : 2 ^ K 1075 ≤ 2 ^ plc r := pw_le (K 1075) (plc r) (by rw [K_eq]; omega)
        have h4 := pw_step
        have hp := two_pos (K 1074)
        generalize 2 ^ K 1074 = t at *
        omega
  have hd : FloatKind.f64.decode r = .number false (mag r) (-1074 + (plc r : Nat)) := by
    have := read_num (b := r) (by rw [h.rung.1]; exact h.fin)
    rw [h.rung.1, h.rung.2] at this; exact this
  have hK := K_eq 1074
  unfold floatToIntVal
  rw [hd]
  simp only [Datum.toInt, Datum.integral, cut_down]
  rw [show (-1074 + (plc r : Int)).toNat = 0 by omega, show (-(-1074 + (plc r : Int))).toNat = 1074 - plc r by omega, Nat.shiftLeft_zero]
  have e : mag r / 2 ^ (1074 - plc r) = m := by
    have : mag r / 2 ^ (1074 - plc r) = F64.val r / 2 ^ K 1074 := by
      unfold F64.val
      rw [show (2 : Nat) ^ K 1074 = 2 ^ (1074 - plc r) * 2 ^ plc r by rw [← Nat.pow_add]; congr 1; omega, Nat.mul_div_mul_right _ _ (two_pos _)]
    rw [this, hv, Nat.mul_div_cancel _ (two_pos _)]
  rw [e]
  have e2 : signed false m 0 = (m : Int) := by unfold signed; simp
  have hm := h.lt
  rw [e2, if_pos (by have h1 : IntKind.u64.min = 0 := rfl; have h2 : IntKind.u64.max = 18446744073709551615 := rfl; rw [h1, h2]; omega)]

/-! ### A number's bits out of its parts -/
theorem sub_bits {r : Nat} (h : mag r < 4503599627370496) : r < 4503599627370496 ∧ mag r = r ∧ plc r = 0 := by
  have h1 : r < 4503599627370496 := by unfold mag at h; split at h <;> omega
  exact ⟨h1, by unfold mag; rw [if_pos h1], plc_zero (by omega)⟩
theorem norm_bits {r : Nat} (h : ¬ mag r < 4503599627370496) : r = (plc r + 1) * 4503599627370496 + (mag r - 4503599627370496) ∧ 4503599627370496 ≤ mag r := by
  have h1 : ¬ r < 4503599627370496 := by intro h2; unfold mag at h; rw [if_pos h2] at h; omega
  constructor
  · unfold plc mag; rw [if_neg h1]; omega
  · omega
theorem plc_le {r : Nat} (h : r < 9218868437227405312) : plc r ≤ 2045 := by unfold plc; omega
/-! ### Exact sums, whole numbers -/
/-- The sum of two numbers that are not below 0, where that is one. -/
theorem add_exact {a b r : Nat} (ha : a < 9218868437227405312) (hb : b < 9218868437227405312) (h : 0 < r) (hi : r < 9218868437227405312) (he : F64.val r = F64.val a + F64.val b) : double.add a b = some r := by
  have ra := rung_small (r := a) (by omega)
  have rb := rung_small (r := b) (by omega)
  have da := read_num (b := a) (by rw [ra.1]; exact ha)
  have db := read_num (b := b) (by rw [rb.1]; exact hb)
  rw [ra.1, ra.2] at da
  rw [rb.1, rb.2] at db
  unfold Format.add
  rw [da, db]
  simp only [Datum.sum, Option.map, Format.write]
  have e0 : min (-1074 + (plc a : Int)) (-1074 + (plc b : Int)) = -1074 + ((min (plc a) (plc b) : Nat) : Int) := by omega
  rw [e0]
  have e1 : (-1074 + (plc a : Int) - (-1074 + ((min (plc a) (plc b) : Nat) : Int))).toNat = plc a - min (plc a) (plc b) := by omega
  have e2 : (-1074 + (plc b : Int) - (-1074 + ((min (plc a) (plc b) : Nat) : Int))).toNat = plc b - min (plc a) (plc b) := by omega
  rw [e1, e2]
  generalize hq : min (plc a) (plc b) = q
  have s1 : signed false (mag a) (plc a - q) = ((mag a * 2 ^ (plc a - q) : Nat) : Int) := by unfold signed; rw [Nat.shiftLeft_eq]; simp
  have s2 : signed false (mag b) (plc b - q) = ((mag b * 2 ^ (plc b - q) : Nat) : Int) := by unfold signed; rw [Nat.shiftLeft_eq]; simp
  rw [s1, s2]
  have p1 : mag a * 2 ^ (plc a - q) * 2 ^ q = F64.val a := by unfold F64.val; rw [Nat.mul_assoc, ← Nat.pow_add]; congr 2; omega
  have p2 : mag b * 2 ^ (plc b - q) * 2 ^ q = F64.val b := by unfold F64.val; rw [Nat.mul_assoc, ← Nat.pow_add]; congr 2; omega
  generalize mag a * 2 ^ (plc a - q) = u at *
  generalize mag b * 2 ^ (plc b - q) = v at *
  have hv := val_pos h
  have hne : (u : Int) + v ≠ 0 := by
    intro e
    have : u = 0 ∧ v = 0 := by omega
    rw [this.1] at p1; rw [this.2] at p2
    simp at p1 p2; omega
  rw [if_neg hne]
  congr 1
  rw [show decide ((u : Int) + v < 0) = false by rw [decide_eq_false_iff_not]; omega, show ((u : Int) + v).natAbs = u + v by omega]
  rw [nearest_exact h hi ?_, word_false]
  rw [show (-1074 + (q : Int) + 1074).toNat = q by omega, show (-1074 - (-1074 + (q : Int))).toNat = 0 by omega, Nat.pow_zero, Nat.mul_one, Nat.add_mul, p1, p2, he]
/-- A whole number below 2^53 as a float. -/
theorem of_whole {n : Nat} (h : n < 9007199254740992) : ∃ r, floatOfInt .f64 (n : Int) = r ∧ F64.val r = n * 2 ^ K 1074 ∧ r < 9218868437227405312 := by
  by_cases h0 : n = 0
  · subst h0; exact ⟨0, ofint_zero, by rw [val_zero]; simp, by decide⟩
  · obtain ⟨r, hr⟩ := val_rep h (K 1074)
    have h1 : 0 < F64.val r := by rw [hr]; exact Nat.mul_pos (by omega) (two_pos _)
    have h2 : r < 9218868437227405312 := inf_of (by rw [hr]; exact Nat.mul_lt_mul_of_pos_right h (two_pos _))
    refine ⟨r, ?_, hr, h2⟩
    rw [ofint_eq (n := (n : Int)) (r := r) (vpos h1) h2 (by rw [Int.natAbs_natCast]; exact hr), show decide ((n : Int) < 0) = false by rw [decide_eq_false_iff_not]; omega, word_false]
/-- 2^52 more. -/
theorem plus_52 {n : Nat} (h : n < 4503599627370496) : ∃ r f, floatOfInt .f64 (n : Int) = r ∧ floatBits .add .f64 r 4841369599423283200 = some f ∧ At (4503599627370496 + n) 1074 f := by
  obtain ⟨r, h1, h2, h3⟩ := of_whole (n := n) (by omega)
  obtain ⟨f, hf⟩ := val_rep (m := 4503599627370496 + n) (by omega) (K 1074)
  have h4 : 0 < F64.val f := by rw [hf]; exact Nat.mul_pos (by omega) (two_pos _)
  have h5 : f < 9218868437227405312 := inf_of (by rw [hf]; exact Nat.mul_lt_mul_of_pos_right (by omega) (two_pos _))
  refine ⟨r, f, h1, add_exact h3 (by decide) (vpos h4) h5 ?_, by omega, by omega, h5, by rw [hf, K_eq]⟩
  rw [hf, h2, v52, ← Nat.add_mul, Nat.add_comm]
theorem plus_0 {n : Nat} (h : n < 4503599627370496) (h0 : n ≠ 0) : ∃ r, floatOfInt .f64 (n : Int) = r ∧ At n 1074 r := by
  obtain ⟨r, h1, h2, h3⟩ := of_whole (n := n) (by omega)
  exact ⟨r, h1, by omega, by omega, h3, by rw [h2, K_eq]⟩
theorem one_vals : val (rung 4607182418800017408) = 2 ^ K 1074 ∧ val (rung 13830554455654793216) = 2 ^ K 1074 := by
  have r1 : rung 4607182418800017408 = (1022 + 1) * 4503599627370496 + (4503599627370496 - 4503599627370496) := by decide
  have r2 : rung 13830554455654793216 = (1022 + 1) * 4503599627370496 + (4503599627370496 - 4503599627370496) := by decide
  have p52 : (2 : Nat) ^ 52 = 4503599627370496 := by decide
  constructor
  · rw [r1, val_normK (by omega) (by omega), show 4503599627370496 = 2 ^ 52 from p52.symm, pw_split 52 (K 1022) (K 1074) (by rw [K_eq, K_eq])]
  · rw [r2, val_normK (by omega) (by omega), show 4503599627370496 = 2 ^ 52 from p52.symm, pw_split 52 (K 1022) (K 1074) (by rw [K_eq, K_eq])]
/-- A sign put ahead of a number above 0. -/
theorem signed_mul {r : Nat} (h : 0 < r) (hf : r < 9218868437227405312) (s : Bool) : floatBits .mul .f64 (if s then 13830554455654793216 else 4607182418800017408) r = some (double.word s r) := by
  obtain ⟨r1, r2⟩ := rung_small (r := r) (by omega)
  cases s
  · have := mul_exact (a := 4607182418800017408) (b := r) (r := r) (by decide) (by rw [r1]; exact hf) h hf (by rewrite [one_vals.1, r1]; exact Nat.mul_comm _ _)
    rw [r2, show neg 4607182418800017408 = false by decide] at this
    exact this
  · have := mul_exact (a := 13830554455654793216) (b := r) (r := r) (by decide) (by rw [r1]; exact hf) h hf (by rewrite [one_vals.2, r1]; exact Nat.mul_comm _ _)
    rw [r2, show neg 13830554455654793216 = true by decide] at this
    exact this
/-- Bits, taken apart. -/
theorem bit_parts (b : Nat) (hb : b < 18446744073709551616) : ∃ E n : Nat, E < 2048 ∧ n < 4503599627370496 ∧ rung b = E * 4503599627370496 + n ∧ (b : Int) / 4503599627370496 % 2048 = E ∧ (b : Int) % 4503599627370496 = n ∧ ((b : Int) / 9223372036854775808 == 1) = neg b := by
  refine ⟨b / 4503599627370496 % 2048, b % 4503599627370496, by omega, by omega, by unfold rung; omega, by omega, by omega, ?_⟩
  cases h : neg b
  · have := mt (neg_iff b hb).2 (by rw [h]; decide)
    rw [beq_eq_false_iff_ne]; omega
  · have := (neg_iff b hb).1 h
    rw [beq_iff_eq]; omega
end Go.Proofs.Ytacgmhnalbbgbaa.Cod

/- Part: What the document's Bits (layer 11, codec) gives: the bits of a number, of the one NaN for all of them. Condition: a word of 64 bits. -/
namespace Go.Proofs.Ytacgmhnalbbgbaa.Cod
open Go.RowKit F64
set_option linter.unusedVariables false

theorem xor_top {r : Nat} (h : r < 2 ^ 63) : r ^^^ 2 ^ 63 = 2 ^ 63 + r := by
  refine Nat.eq_of_testBit_eq fun i => ?_
  rw [Nat.testBit_xor, Nat.testBit_two_pow]
  rcases Nat.lt_trichotomy i 63 with h1 | h1 | h1
  · rw [Nat.testBit_two_pow_add_gt h1]
    have : ¬ 63 = i := by omega
    simp [this]
  · subst h1
    rw [Nat.testBit_two_pow_add_eq]
    simp
  · have h2 : 2 ^ 63 + r < 2 ^ i := Nat.lt_of_lt_of_le (show 2 ^ 63 + r < 2 ^ 64 by omega) (Nat.pow_le_pow_right (by omega) (by omega))
    rw [Nat.testBit_lt_two_pow h2, Nat.testBit_lt_two_pow (Nat.lt_of_lt_of_le h (Nat.pow_le_pow_right (by omega) (by omega)))]
    have : ¬ 63 = i := by omega
    simp [this]
theorem neg_flip {b : Nat} (hb : b < 18446744073709551616) (hn : neg b = true) : Op.negFloat .f64 b = rung b := by
  have h1 := (neg_iff b hb).1 hn
  have h2 : rung b < 2 ^ 63 := rung_lt b
  have h3 : b = rung b ^^^ 2 ^ 63 := by rw [xor_top h2]; unfold rung; omega
  show b ^^^ 2 ^ 63 = _
  rw [h3, Nat.xor_assoc, Nat.xor_self, Nat.xor_zero, ← h3]
theorem flt_at0 {b : Nat} (hz : rung b ≠ 0) (hf : rung b < 9218868437227405312) : flt b 0 = neg b := by
  unfold flt
  rw [k_zero, n_zero, finite_of hf]
  unfold key
  cases neg b <;> simp <;> omega
theorem pos_num {r : Nat} (hf : r < 9218868437227405312) : isNan r = false ∧ key r = r := by
  obtain ⟨h1, h2⟩ := rung_small (r := r) (by omega)
  exact ⟨finite_of (by rw [h1]; exact hf), by unfold key; rw [h1, h2]; rfl⟩
theorem ge_53 {r : Nat} (hf : r < 9218868437227405312) : (flt 4845873199050653696 r = decide (4845873199050653696 < r)) ∧ (feq r 4845873199050653696 = decide (r = 4845873199050653696)) ∧ feq 4845873199050653696 r = decide (r = 4845873199050653696) := by
  obtain ⟨h1, h2⟩ := pos_num hf
  obtain ⟨h3, h4⟩ := pos_num (r := 4845873199050653696) (by omega)
  refine ⟨by unfold flt; rw [h1, h2, h3, h4]; simp; omega, ?_, ?_⟩
  · unfold feq; rw [h1, h2, h3, h4]; simp; omega
  · unfold feq; rw [h1, h2, h3, h4]; simp; omega
theorem lt_52 {r : Nat} (hf : r < 9218868437227405312) : flt r 4841369599423283200 = decide (r < 4841369599423283200) := by
  obtain ⟨h1, h2⟩ := pos_num hf
  obtain ⟨h3, h4⟩ := pos_num (r := 4841369599423283200) (by omega)
  unfold flt; rw [h1, h2, h3, h4]; simp; omega
theorem ge_cases {r : Nat} (hf : r < 9218868437227405312) (h : 4845873199050653696 ≤ r) : flt 4845873199050653696 r = true ∨ (flt 4845873199050653696 r = false ∧ feq r 4845873199050653696 = true ∧ feq 4845873199050653696 r = true) := by
  obtain ⟨h1, h2, h3⟩ := ge_53 hf
  rw [h1, h2, h3]
  by_cases e : r = 4845873199050653696
  · right; simp [e]
  · left; simp; omega
def bitsF : Value → Nat | .float _ b => b | _ => 0
/-- On the way: a number whose magnitude m stands at place j; e has what the place lost. -/
def Rel1 (m p : Nat) (x i : Value) : Prop := ∃ r j : Nat, x = .float .f64 r ∧ i = .int .i64 (1075 + (p : Int) - j) ∧ At m j r ∧ j ≤ p ∧ (j < 1074 → j = p)
def Rel2 (m p : Nat) (x i : Value) : Prop := ∃ r j : Nat, x = .float .f64 r ∧ i = .int .i64 (1075 + (p : Int) - j) ∧ At m j r ∧ j ≤ 1074

set_option maxHeartbeats 2000000 in
set_option maxRecDepth 100000 in
theorem bits_fin (b : Nat) (w : World) (hb : b < 18446744073709551616) (hk : kind b = 2 ∨ kind b = 5) (hz : rung b ≠ 0) (hf : rung b < 9218868437227405312) :
    Calls Try.prog 61 #[.float .f64 b] w fun e w' => e = .returned (.int .u64 b) ∧ w = w' := by
  have hk0 : (kind b == 0) = false ∧ (kind b == 1) = false ∧ (kind b == 6) = false ∧ (kind b == 3) = false ∧ (kind b == 4) = false := by rcases hk with h | h <;> rw [h] <;> decide
  obtain ⟨k0, k1, k6, k3, k4⟩ := hk0
  clear hk
  have hn := flt_at0 hz hf
  have A0 := At.start (r := rung b) (by omega) hf
  have hp := plc_le hf
  obtain ⟨m, hm⟩ : ∃ m, mag (rung b) = m := ⟨_, rfl⟩
  obtain ⟨p, hpp⟩ : ∃ p, plc (rung b) = p := ⟨_, rfl⟩
  -- what is told in the end
  have hsub : m < 4503599627370496 → rung b = m ∧ p = 0 := fun h => by
    have := sub_bits (r := rung b) (by rw [hm]; exact h); rw [hm] at this; omega
  have hnorm : ¬ m < 4503599627370496 → rung b = (p + 1) * 4503599627370496 + (m - 4503599627370496) ∧ 4503599627370496 ≤ m := fun h => by
    have := norm_bits (r := rung b) (by rw [hm]; exact h); rw [hm, hpp] at this; exact this
  have hsg : neg b = true ∧ b = 9223372036854775808 + rung b ∨ neg b = false ∧ b = rung b := by
    have := neg_iff b hb
    cases h : neg b
    · right; refine ⟨rfl, ?_⟩; rw [h] at this; unfold rung; simp at this; omega
    · left; refine ⟨rfl, ?_⟩; have := this.1 h; unfold rung; omega
  rw [hm, hpp] at A0
  rw [hpp] at hp
  have hfl : neg b = true → Op.negFloat .f64 b = rung b := neg_flip hb
  have hrl := hf
  obtain ⟨r0, hr0⟩ : ∃ r0, rung b = r0 := ⟨_, rfl⟩
  rw [hr0] at hsub hnorm hsg A0 hfl hrl
  have CK := Lib.hid (fun w => ref_kind_any b w hb)
  have HS := Lib.hid hsub
  have HN := Lib.hid hnorm
  clear hz hf hm hpp hr0 hsub hnorm
  have HR1 : Hid (Rel1 m p (.float .f64 r0) (.int .i64 1075)) := Lib.hid ⟨r0, p, rfl, by rw [show (1075 + (p : Int) - p) = 1075 by omega], A0, Nat.le_refl _, fun _ => rfl⟩
  have hml := A0.lt
  clear A0
  obtain ⟨S, hS⟩ : ∃ S : Nat, (neg b = true ∧ S = 9223372036854775808) ∨ (neg b = false ∧ S = 0) := by cases neg b; exact ⟨0, .inr ⟨rfl, rfl⟩⟩; exact ⟨_, .inl ⟨rfl, rfl⟩⟩
  rcases hsg with ⟨hs, hbr⟩ | ⟨hs, hbr⟩
  · have hfl2 := hfl hs
    rw [hs] at hn
    have HB : Hid (b = 9223372036854775808 + r0) := Lib.hid hbr
    clear hfl hs hbr
    go_enter Try.func61, Try.ntmps61
    go_wp2_with (go_at_call 57; ((with_reducible refine (CK.out _).mono ?_); rintro e w' ⟨rfl, rfl⟩))
    clear hn hfl2 hS k0 k1 k6 k3 k4
    go_loop [0, 5] (fun x i => Rel1 m p x i) (fun x _ => bitsF x)
    case atStart => exact HR1.out
    case round =>
      obtain ⟨r, j, rfl, rfl, H, hj, hjp⟩ := hrel
      have hrf := H.fin
      by_cases hbig : 4845873199050653696 ≤ r
      · have hm4 : 4503599627370496 ≤ m := by
          by_cases h : m < 4503599627370496
          · exfalso
            have h2 := (HS.out h).2
            have := H.sub h (by omega)
            omega
          · omega
        have hj2 := (H.big hm4).1 hbig
        obtain ⟨j', rfl⟩ : ∃ j', j = j' + 1 := ⟨j - 1, by omega⟩
        obtain ⟨r', H', hq⟩ := H.half
        have hlt : Hid (r' < r) := Lib.hid (by
          have h1 := H.val; have h2 := H'.val
          rw [Nat.pow_succ, ← Nat.mul_assoc] at h1
          have h3 := Nat.mul_pos H.pos (two_pos j')
          exact val_lt_iff.1 (by omega))
        have hd : ∀ w, (binOp .quo 35 (.float .f64 r) (.float .f64 4611686018427387904)).run Try.prog w = .ok (.float .f64 r') w := fun w => run_float_arith w .quo _ .f64 _ _ _ hq
        have HR : Hid (Rel1 m p (.float .f64 r') (.int .i64 (1075 + (p : Int) - ((j' + 1 : Nat) : Int) + 1))) := Lib.hid ⟨r', j', rfl, by congr 1; omega, H', by omega, fun h => by omega⟩
        have hg := ge_cases hrf hbig
        have hj3 : (j' : Int) ≤ p := by omega
        clear hq H' H hbig hm4 hj2 hjp
        rcases hg with h | ⟨h, h1, h2⟩
        all_goals
          go_wp2_with fail
          go_round
          case rel => exact HR.out
          case measure => exact hlt.out
      · obtain ⟨h1, h2, h3⟩ := ge_53 hrf
        rw [decide_eq_false (by omega)] at h1 h2 h3
        have HR : Hid (Rel2 m p (.float .f64 r) (.int .i64 (1075 + (p : Int) - (j : Int)))) := Lib.hid ⟨r, j, rfl, rfl, H, by
          by_cases h : m < 4503599627370496
          · have h2 := (HS.out h).2; omega
          · have h4 := (HN.out h).2
            have := H.big h4
            omega⟩
        clear H hbig hjp
        go_wp2_with fail
        clear h1 h2 h3
        go_loop [0, 5] (fun x i => Rel2 m p x i) (fun _ i => (intOf i).toNat)
        case atStart => exact HR.out
        case round =>
          obtain ⟨r, j, rfl, rfl, H, hj⟩ := hrel
          have hrf := H.fin
          have hlow := lt_52 hrf
          by_cases hj2 : j < 1074
          · have hl : r < 4841369599423283200 := by
              by_cases h : m < 4503599627370496
              · exact H.sub h hj
              · exact (H.low (HN.out h).2).2 hj2
            rw [decide_eq_true hl] at hlow
            obtain ⟨r', H', hq⟩ := H.dbl (.inl hj2)
            have hd : ∀ w, (binOp .mul 35 (.float .f64 4611686018427387904) (.float .f64 r)).run Try.prog w = .ok (.float .f64 r') w := fun w => run_float_arith w .mul _ .f64 _ _ _ hq
            have HR : Hid (Rel2 m p (.float .f64 r') (.int .i64 (1075 + (p : Int) - (j : Int) - 1))) := Lib.hid ⟨r', j + 1, rfl, by congr 1; omega, H', by omega⟩
            have he1 : (1 : Int) < 1075 + (p : Int) - j := by omega
            clear hq H' H hl
            go_wp2_with fail
            go_round
            case rel => exact HR.out
            case measure => simp [intOf]; omega
          · obtain rfl : j = 1074 := by omega
            have hi := H.whole
            have hc : ∀ w, (convert 35 49 (.float .f64 r)).run Try.prog w = .ok (.int .u64 m) w := fun w => run_convert_float_int w _ _ _ _ _ _ (by kernel_rfl) (by kernel_rfl) hi
            have he0 : (1075 + (p : Int) - ((1074 : Nat) : Int)) = p + 1 := by omega
            rw [he0]
            by_cases hm4 : m < 4503599627370496
            · have hl := H.sub hm4 (Nat.le_refl _)
              rw [decide_eq_true hl] at hlow
              have hp0 := (HS.out hm4).2
              have he1 : ¬ (1 : Int) < (p : Int) + 1 := by omega
              have hm5 : (m : Int) < 4503599627370496 := by omega
              have HE : Hid (b = 9223372036854775808 + m) := Lib.hid (by rw [HB.out, (HS.out hm4).1])
              clear hi hl H hj hj2
              go_wp2_with fail
              go_ret
              exact ⟨by rw [HE.out]; simp, rfl⟩
            · have hl := mt (H.low (HN.out hm4).2).1 (by omega)
              rw [decide_eq_false hl] at hlow
              have hm5 : ¬ (m : Int) < 4503599627370496 := by omega
              have hm6 : (m : Int) < 9007199254740992 := by omega
              have hp2 : (p : Int) ≤ 2045 := by omega
              have HE : Hid ((b : Int) = 9223372036854775808 + ((p : Int) + 1) * 4503599627370496 + ((m : Int) - 4503599627370496)) := Lib.hid (by have := HN.out hm4; rw [HB.out]; omega)
              clear hi hl H hj hj2
              go_wp2_with fail
              go_ret
              exact ⟨by rw [HE.out]; simp, rfl⟩
  · rw [hs] at hn
    have HB : Hid (b = r0) := Lib.hid hbr
    have HR1' : Hid (Rel1 m p (.float .f64 b) (.int .i64 1075)) := Lib.hid (by rw [hbr]; exact HR1.out)
    clear hfl hs hbr HR1
    go_enter Try.func61, Try.ntmps61
    go_wp2_with (go_at_call 57; ((with_reducible refine (CK.out _).mono ?_); rintro e w' ⟨rfl, rfl⟩))
    clear hn hS k0 k1 k6 k3 k4
    go_loop [0, 5] (fun x i => Rel1 m p x i) (fun x _ => bitsF x)
    case atStart => exact HR1'.out
    case round =>
      obtain ⟨r, j, rfl, rfl, H, hj, hjp⟩ := hrel
      have hrf := H.fin
      by_cases hbig : 4845873199050653696 ≤ r
      · have hm4 : 4503599627370496 ≤ m := by
          by_cases h : m < 4503599627370496
          · exfalso
            have h2 := (HS.out h).2
            have := H.sub h (by omega)
            omega
          · omega
        have hj2 := (H.big hm4).1 hbig
        obtain ⟨j', rfl⟩ : ∃ j', j = j' + 1 := ⟨j - 1, by omega⟩
        obtain ⟨r', H', hq⟩ := H.half
        have hlt : Hid (r' < r) := Lib.hid (by
          have h1 := H.val; have h2 := H'.val
          rw [Nat.pow_succ, ← Nat.mul_assoc] at h1
          have h3 := Nat.mul_pos H.pos (two_pos j')
          exact val_lt_iff.1 (by omega))
        have hd : ∀ w, (binOp .quo 35 (.float .f64 r) (.float .f64 4611686018427387904)).run Try.prog w = .ok (.float .f64 r') w := fun w => run_float_arith w .quo _ .f64 _ _ _ hq
        have HR : Hid (Rel1 m p (.float .f64 r') (.int .i64 (1075 + (p : Int) - ((j' + 1 : Nat) : Int) + 1))) := Lib.hid ⟨r', j', rfl, by congr 1; omega, H', by omega, fun h => by omega⟩
        have hg := ge_cases hrf hbig
        have hj3 : (j' : Int) ≤ p := by omega
        clear hq H' H hbig hm4 hj2 hjp
        rcases hg with h | ⟨h, h1, h2⟩
        all_goals
          go_wp2_with fail
          go_round
          case rel => exact HR.out
          case measure => exact hlt.out
      · obtain ⟨h1, h2, h3⟩ := ge_53 hrf
        rw [decide_eq_false (by omega)] at h1 h2 h3
        have HR : Hid (Rel2 m p (.float .f64 r) (.int .i64 (1075 + (p : Int) - (j : Int)))) := Lib.hid ⟨r, j, rfl, rfl, H, by
          by_cases h : m < 4503599627370496
          · have h2 := (HS.out h).2; omega
          · have h4 := (HN.out h).2
            have := H.big h4
            omega⟩
        clear H hbig hjp
        go_wp2_with fail
        clear h1 h2 h3
        go_loop [0, 5] (fun x i => Rel2 m p x i) (fun _ i => (intOf i).toNat)
        case atStart => exact HR.out
        case round =>
          obtain ⟨r, j, rfl, rfl, H, hj⟩ := hrel
          have hrf := H.fin
          have hlow := lt_52 hrf
          by_cases hj2 : j < 1074
          · have hl : r < 4841369599423283200 := by
              by_cases h : m < 4503599627370496
              · exact H.sub h hj
              · exact (H.low (HN.out h).2).2 hj2
            rw [decide_eq_true hl] at hlow
            obtain ⟨r', H', hq⟩ := H.dbl (.inl hj2)
            have hd : ∀ w, (binOp .mul 35 (.float .f64 4611686018427387904) (.float .f64 r)).run Try.prog w = .ok (.float .f64 r') w := fun w => run_float_arith w .mul _ .f64 _ _ _ hq
            have HR : Hid (Rel2 m p (.float .f64 r') (.int .i64 (1075 + (p : Int) - (j : Int) - 1))) := Lib.hid ⟨r', j + 1, rfl, by congr 1; omega, H', by omega⟩
            have he1 : (1 : Int) < 1075 + (p : Int) - j := by omega
            clear hq H' H hl
            go_wp2_with fail
            go_round
            case rel => exact HR.out
            case measure => simp [intOf]; omega
          · obtain rfl : j = 1074 := by omega
            have hi := H.whole
            have hc : ∀ w, (convert 35 49 (.float .f64 r)).run Try.prog w = .ok (.int .u64 m) w := fun w => run_convert_float_int w _ _ _ _ _ _ (by kernel_rfl) (by kernel_rfl) hi
            have he0 : (1075 + (p : Int) - ((1074 : Nat) : Int)) = p + 1 := by omega
            rw [he0]
            by_cases hm4 : m < 4503599627370496
            · have hl := H.sub hm4 (Nat.le_refl _)
              rw [decide_eq_true hl] at hlow
              have hp0 := (HS.out hm4).2
              have he1 : ¬ (1 : Int) < (p : Int) + 1 := by omega
              have hm5 : (m : Int) < 4503599627370496 := by omega
              have HE : Hid (b = 0 + m) := Lib.hid (by rw [HB.out, (HS.out hm4).1]; omega)
              clear hi hl H hj hj2
              go_wp2_with fail
              go_ret
              exact ⟨by rw [HE.out]; simp, rfl⟩
            · have hl := mt (H.low (HN.out hm4).2).1 (by omega)
              rw [decide_eq_false hl] at hlow
              have hm5 : ¬ (m : Int) < 4503599627370496 := by omega
              have hm6 : (m : Int) < 9007199254740992 := by omega
              have hp2 : (p : Int) ≤ 2045 := by omega
              have HE : Hid ((b : Int) = 0 + ((p : Int) + 1) * 4503599627370496 + ((m : Int) - 4503599627370496)) := Lib.hid (by have := HN.out hm4; rw [HB.out]; omega)
              clear hi hl H hj hj2
              go_wp2_with fail
              go_ret
              exact ⟨by rw [HE.out]; simp, rfl⟩

set_option maxRecDepth 100000 in
theorem bits_any (b : Nat) (w : World) (hb : b < 18446744073709551616) : Calls Try.prog 61 #[.float .f64 b] w fun e w' => e = .returned (.int .u64 (canon b : Nat)) ∧ w = w' := by
  rcases kind_cases b with h | h | h | h | h | h
  case inr.inr.inr.inr.inr =>
    have e : canon b = b := by unfold canon; rw [h.2.1]; rfl
    rw [e]; exact bits_fin b w hb h.1 h.2.2.1 h.2.2.2
  all_goals

    obtain ⟨c, hc⟩ : ∃ c, canon b = c := ⟨_, rfl⟩
    have hcv := hc
    unfold canon at hcv
    first
      | (rw [if_pos h.2] at hcv)
      | (rw [h.2.1, if_neg (by decide)] at hcv
         have hw := word_back hb
         rw [h.2.2.1, h.2.2.2] at hw
         rw [← hw] at hcv
         unfold Ieee.Format.word at hcv
         rw [c_sw] at hcv)
    try simp at hcv
    rw [hc, ← hcv]
    have hk := h.1
    have CK := Lib.hid (fun w => ref_kind_any b w hb)
    clear h hcv hc hb
    go_enter Try.func61, Try.ntmps61
    go_wp2_with (go_at_call 57; ((with_reducible refine (CK.out _).mono ?_); rintro e w' ⟨rfl, rfl⟩))
    go_ret
    exact ⟨rfl, rfl⟩
end Go.Proofs.Ytacgmhnalbbgbaa.Cod

/- Part: What the document's Number (layer 11, codec) gives: of any bits the number, and whether they are those of one. Condition: a word of 64 bits. -/
namespace Go.Proofs.Ytacgmhnalbbgbaa.Cod
open Go.RowKit F64
set_option linter.unusedVariables false

/-- A number, and whether it is one: that of the bits, or a NaN. -/
structure IsNum (b z : Nat) (ok : Bool) : Prop where
  lt : z < 18446744073709551616
  num : isNan b = false → z = b ∧ ok = true
  nan : isNan b = true → isNan z = true ∧ ok = decide (b = 9221120237041090561)
def GivesNum (b : Nat) (w : World) (e : Ending) (w' : World) : Prop := ∃ (z : Nat) (ok : Bool), e = .returned (.tuple #[.float .f64 z, .bool ok]) ∧ IsNum b z ok ∧ ∃ q, w' = w.drewN q

theorem is_num {b z : Nat} (hb : b < 18446744073709551616) (hn : isNan b = false) (h : z = b) : IsNum b z true := by
  subst h; exact ⟨hb, fun _ => ⟨rfl, rfl⟩, fun h => absurd h (by rw [hn]; decide)⟩

/-! ### A number that is not 0 -/
theorem feq_zero' {g : Nat} (h : 0 < g) (hf : g < 9218868437227405312) : feq g 0 = false := by
  obtain ⟨h1, h2⟩ := pos_num hf
  unfold feq; rw [h1, h2, k_zero, n_zero]; simp; omega
theorem place_le {m j r : Nat} (h : At m j r) : j ≤ 1000000 := by
  by_cases hj : j ≤ 2098
  · omega
  · exfalso
    have h1 := val_lt_iff.2 h.fin
    rw [vinf, h.val] at h1
    have h2 : 2 ^ K 2098 ≤ 2 ^ j := pw_le (K 2098) j (by rw [K_eq]; omega)
    have h3 := pw_split 52 (K 2046) (K 2098) (by rw [K_eq, K_eq])
    have h4 : (2 : Nat) ^ 52 = 4503599627370496 := by decide
    have h5 := Nat.mul_le_mul h.pos h2
    rw [← h3, h4] at h5
    omega
def Up (m p : Nat) (i x : Value) : Prop := ∃ r j : Nat, x = .float .f64 r ∧ i = .int .i64 (1075 + (p : Int) - j) ∧ At m j r ∧ 1074 ≤ j ∧ (j ≤ p ∨ j = 1074)
def Down (m p : Nat) (i x : Value) : Prop := ∃ r j : Nat, x = .float .f64 r ∧ i = .int .i64 (1075 + (p : Int) - j) ∧ At m j r ∧ p ≤ j ∧ j ≤ 1075 + p

end Go.Proofs.Ytacgmhnalbbgbaa.Cod
