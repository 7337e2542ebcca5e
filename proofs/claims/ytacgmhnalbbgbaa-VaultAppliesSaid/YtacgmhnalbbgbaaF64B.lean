/- Plain facts on the words of binary64: exact products and halves, whole numbers, which magnitudes there are. No condition but those in each statement. -/
import Derived.Test.YtacgmhnalbbgbaaF64
namespace Go.Proofs.Ytacgmhnalbbgbaa.F64
open Ieee

theorem two_pos (k : Nat) : 0 < 2 ^ k := Nat.two_pow_pos k
/-- A number, behind a name that nothing unfolds: great powers of 2 are not reckoned then. -/
def konst (n k : Nat) : Nat := if h : k = 0 then n else konst n (k - 1)
  termination_by k
def K (n : Nat) : Nat := konst n 0
theorem K_eq (n : Nat) : K n = n := by unfold K; rw [konst, dif_pos rfl]
theorem pw_le (a b : Nat) (h : a ≤ b) : 2 ^ a ≤ 2 ^ b := Nat.pow_le_pow_right (by omega) h
theorem pw_split (a b c : Nat) (h : a + b = c) : 2 ^ a * 2 ^ b = 2 ^ c := by subst h; exact (Nat.pow_add ..).symm
theorem div_small {a b c : Nat} (h : a < b * c) : a / c < b := Nat.div_lt_of_lt_mul (by rw [Nat.mul_comm]; exact h)
theorem big_small : 9007199254740992 * 2 ^ K 1074 ≤ 4503599627370496 * 2 ^ K 2046 := by
  rewrite [show (4503599627370496 : Nat) = 2 ^ 52 by decide, show (9007199254740992 : Nat) = 2 ^ 53 by decide, pw_split 53 (K 1074) (K 1127) (by rw [K_eq, K_eq]), pw_split 52 (K 2046) (K 2098) (by rw [K_eq, K_eq])]
  exact pw_le (K 1127) (K 2098) (by rw [K_eq, K_eq]; omega)
theorem log2_shift (m k : Nat) (h : m ≠ 0) : (m * 2 ^ k).log2 = m.log2 + k := by
  have hp := two_pos k
  have h0 : m * 2 ^ k ≠ 0 := Nat.pos_iff_ne_zero.1 (Nat.mul_pos (Nat.pos_of_ne_zero h) hp)
  rw [Nat.log2_eq_iff h0]
  have h1 := Nat.log2_self_le h
  have h2 := (Nat.log2_lt h (k := m.log2 + 1)).1 (by omega)
  have e1 : 2 ^ (m.log2 + k) = 2 ^ m.log2 * 2 ^ k := Nat.pow_add ..
  have e2 : 2 ^ (m.log2 + k + 1) = 2 ^ (m.log2 + 1) * 2 ^ k := by rw [show m.log2 + k + 1 = m.log2 + 1 + k by omega, Nat.pow_add]
  rw [e1, e2]
  exact ⟨Nat.mul_le_mul_right _ h1, Nat.mul_lt_mul_of_pos_right h2 hp⟩

theorem cut_shift (s : Bool) (m k d : Nat) (h : m ≠ 0) : Toward.even.cut s (m * 2 ^ k) (d + k) = Toward.even.cut s m d := by
  unfold Toward.cut
  rw [log2_shift m k h]
  have e : 1 <<< min (d + k) (m.log2 + k + 2) = 1 <<< min d (m.log2 + 2) * 2 ^ k := by
    rw [show min (d + k) (m.log2 + k + 2) = min d (m.log2 + 2) + k by omega, Nat.one_shiftLeft, Nat.one_shiftLeft, Nat.pow_add]
  simp only [e]
  have hp := two_pos k
  have hg : 0 < 1 <<< min d (m.log2 + 2) := by rw [Nat.one_shiftLeft]; exact two_pos _
  generalize 1 <<< min d (m.log2 + 2) = g at hg
  have e1 : m * 2 ^ k / (g * 2 ^ k) = m / g := Nat.mul_div_mul_right _ _ hp
  have e2 : m * 2 ^ k % (g * 2 ^ k) = m % g * 2 ^ k := Nat.mul_mod_mul_right ..
  rw [e1, e2]
  have e3 : 2 * (m % g * 2 ^ k) = 2 * (m % g) * 2 ^ k := by rw [Nat.mul_assoc]
  rw [e3]
  have e4 : decide (g * 2 ^ k < 2 * (m % g) * 2 ^ k) = decide (g < 2 * (m % g)) := by
    rw [decide_eq_decide]; exact Nat.mul_lt_mul_right hp
  have e5 : (g * 2 ^ k == 2 * (m % g) * 2 ^ k) = (g == 2 * (m % g)) := by
    rw [Bool.eq_iff_iff, beq_iff_eq, beq_iff_eq]; exact Nat.mul_right_cancel_iff hp
  rw [e4, e5]

theorem cut_zero (s : Bool) (m : Nat) : Toward.even.cut s m 0 = m := by
  have := cut_exact s m 0 (by omega) (by simp [Nat.mod_one])
  simpa using this

theorem nearest_shift (n : Bool) (m k : Nat) (p : Int) (h : m ≠ 0) : double.nearest n (m * 2 ^ k) p = double.nearest n m (p + k) := by
  have hp := two_pos k
  have h0 : m * 2 ^ k ≠ 0 := Nat.pos_iff_ne_zero.1 (Nat.mul_pos (Nat.pos_of_ne_zero h) hp)
  unfold Format.nearest
  rw [if_neg h0, if_neg h, log2_shift m k h]
  have e : p + ((m.log2 + k : Nat) : Int) - (double.fractionBits : Int) = p + k + (m.log2 : Int) - (double.fractionBits : Int) := by omega
  simp only [e]
  generalize max (p + (k : Int) + (m.log2 : Int) - (double.fractionBits : Int)) double.leastPlace = last
  have hc : Toward.even.cut n ((m * 2 ^ k) <<< (p - last).toNat) (last - p).toNat = Toward.even.cut n (m <<< (p + k - last).toNat) (last - (p + k)).toNat := by
    by_cases h1 : last ≤ p
    · have z1 : (last - p).toNat = 0 := by omega
      have z2 : (last - (p + k)).toNat = 0 := by omega
      rw [z1, z2, cut_zero, cut_zero, Nat.shiftLeft_eq, Nat.shiftLeft_eq, Nat.mul_assoc, ← Nat.pow_add]
      congr 2; omega
    · by_cases h2 : last ≤ p + k
      · have z1 : (p - last).toNat = 0 := by omega
        have z2 : (last - (p + k)).toNat = 0 := by omega
        rw [z1, z2, cut_zero, Nat.shiftLeft_zero, Nat.shiftLeft_eq]
        have hd : (last - p).toNat ≤ k := by omega
        have e2 : m * 2 ^ k = m * 2 ^ (k - (last - p).toNat) * 2 ^ (last - p).toNat := by
          rw [Nat.mul_assoc, ← Nat.pow_add]; congr 2; omega
        rw [cut_exact _ _ _ (by rw [log2_shift m k h]; omega) (by rw [e2]; exact Nat.mul_mod_left _ _), e2, Nat.mul_div_cancel _ (two_pos _)]
        congr 2; omega
      · have z1 : (p - last).toNat = 0 := by omega
        have z2 : (p + k - last).toNat = 0 := by omega
        rw [z1, z2, Nat.shiftLeft_zero, Nat.shiftLeft_zero]
        rw [show (last - p).toNat = (last - (p + k)).toNat + k by omega, cut_shift _ _ _ _ h]
  rw [hc]

/-- A magnitude that is there is met just so. -/
theorem nearest_exact {n : Bool} {m r : Nat} {p : Int} (h : 0 < r) (hi : r < 9218868437227405312) (he : m * 2 ^ (p + 1074).toNat = val r * 2 ^ (-1074 - p).toNat) : double.nearest n m p = double.word n r := by
  have hv := val_pos h
  have hm : m ≠ 0 := by
    intro e; subst e
    rw [Nat.zero_mul] at he
    have := Nat.mul_pos hv (two_pos (-1074 - p).toNat)
    omega
  by_cases h1 : -1074 ≤ p
  · have z : (-1074 - p).toNat = 0 := by omega
    rw [z, Nat.pow_zero, Nat.mul_one] at he
    rw [← nearest_val h hi, ← he, nearest_shift _ _ _ _ hm]
    congr 1; omega
  · have z : (p + 1074).toNat = 0 := by omega
    rw [z, Nat.pow_zero, Nat.mul_one] at he
    rw [← nearest_val h hi, he, nearest_shift _ _ _ _ (by omega)]
    congr 1; omega

theorem word_rung {n : Bool} {r : Nat} (h : r < 9223372036854775808) : rung (double.word n r) = r ∧ neg (double.word n r) = n ∧ double.word n r < 18446744073709551616 := by
  unfold Format.word rung neg
  rw [c_sw]
  cases n
  · simp; omega
  · simp; omega
theorem word_not_nan {n : Bool} {r : Nat} (h : r ≤ 9218868437227405312) : isNan (double.word n r) = false := by
  unfold isNan
  rw [(word_rung (n := n) (r := r) (by omega)).1]
  simp; omega
theorem nearest_not_nan (n : Bool) (m : Nat) (p : Int) : isNan (double.nearest n m p) = false ∧ double.nearest n m p < 18446744073709551616 ∧ neg (double.nearest n m p) = n := by
  unfold Format.nearest
  split
  · exact ⟨word_not_nan (by omega), (word_rung (by omega)).2.2, (word_rung (by omega)).2.1⟩
  · simp only [c_inf]
    exact ⟨word_not_nan (by omega), (word_rung (by omega)).2.2, (word_rung (by omega)).2.1⟩

theorem mag_pos {r : Nat} (h : 0 < r) : 0 < mag r := by unfold mag; split <;> omega
theorem finite_of {b : Nat} (h : rung b < 9218868437227405312) : isNan b = false := by unfold isNan; simp; omega

theorem val_norm {m j : Nat} (h : 4503599627370496 ≤ m) (h2 : m < 9007199254740992) : val ((j + 1) * 4503599627370496 + (m - 4503599627370496)) = m * 2 ^ j := by
  unfold val mag plc
  rw [if_neg (by omega)]
  have e1 : ((j + 1) * 4503599627370496 + (m - 4503599627370496)) % 4503599627370496 = m - 4503599627370496 := by omega
  have e2 : ((j + 1) * 4503599627370496 + (m - 4503599627370496)) / 4503599627370496 = j + 1 := by omega
  rw [e1, e2, show j + 1 - 1 = j by omega, show 4503599627370496 + (m - 4503599627370496) = m by omega]

theorem val_normK {m j : Nat} (h : 4503599627370496 ≤ m) (h2 : m < 9007199254740992) : val ((j + 1) * 4503599627370496 + (m - 4503599627370496)) = m * 2 ^ K j := by rw [K_eq]; exact val_norm h h2
theorem pw_step : 2 ^ K 1075 = 2 ^ K 1074 * 2 := by
  have := pw_split (K 1074) 1 (K 1075) (by rw [K_eq, K_eq])
  rw [Nat.pow_one] at this
  exact this.symm

/-- A product that is there is met just so. -/
theorem mul_exact {a b r : Nat} (ha : rung a < 9218868437227405312) (hb : rung b < 9218868437227405312) (h : 0 < r) (hi : r < 9218868437227405312) (he : val (rung a) * val (rung b) = val r * 2 ^ K 1074) :
    double.mul a b = some (double.word (neg a ^^ neg b) r) := by
  have hK := K_eq 1074
  unfold Format.mul
  rw [read_num ha, read_num hb]
  simp only [Datum.product, Option.map, Format.write]
  congr 1
  refine nearest_exact h hi ?_
  have e0 : mag (rung a) * mag (rung b) * 2 ^ (plc (rung a) + plc (rung b)) = val r * 2 ^ K 1074 := by
    rw [← he]; unfold val; rw [Nat.pow_add]; simp only [Nat.mul_assoc, Nat.mul_left_comm]
  generalize mag (rung a) * mag (rung b) = m at e0
  by_cases h1 : 1074 ≤ plc (rung a) + plc (rung b)
  · rw [show (-1074 + (plc (rung a) : Int) + (-1074 + (plc (rung b) : Nat)) + 1074).toNat = plc (rung a) + plc (rung b) - 1074 by omega, show (-1074 - (-1074 + (plc (rung a) : Int) + (-1074 + (plc (rung b) : Nat)))).toNat = 0 by omega]
    rw [show plc (rung a) + plc (rung b) = plc (rung a) + plc (rung b) - 1074 + K 1074 by omega, Nat.pow_add, ← Nat.mul_assoc] at e0
    rw [Nat.mul_right_cancel (two_pos (K 1074)) e0]; simp
  · rw [show (-1074 + (plc (rung a) : Int) + (-1074 + (plc (rung b) : Nat)) + 1074).toNat = 0 by omega, show (-1074 - (-1074 + (plc (rung a) : Int) + (-1074 + (plc (rung b) : Nat)))).toNat = 1074 - (plc (rung a) + plc (rung b)) by omega]
    have e1 : val r * 2 ^ K 1074 = val r * 2 ^ (1074 - (plc (rung a) + plc (rung b))) * 2 ^ (plc (rung a) + plc (rung b)) := by
      rw [Nat.mul_assoc, ← Nat.pow_add]; congr 2; omega
    rw [e1] at e0
    rw [Nat.mul_right_cancel (two_pos _) e0]; simp

theorem mul_some {a b : Nat} (hz : rung a ≠ 0) (hf : rung a < 9218868437227405312) (hb : isNan b = false) : ∃ x, double.mul a b = some x ∧ isNan x = false ∧ x < 18446744073709551616 := by
  unfold Format.mul
  rw [read_num hf]
  rcases not_nan hb with h | h
  · rw [read_num h]
    simp only [Datum.product, Option.map, Format.write]
    exact ⟨_, rfl, (nearest_not_nan _ _ _).1, (nearest_not_nan _ _ _).2.1⟩
  · rw [read_inf h]
    have hm : mag (rung a) ≠ 0 := by have := mag_pos (r := rung a) (by omega); omega
    simp only [Datum.product, Option.map, Format.write, if_neg hm]
    rw [c_inf]
    exact ⟨_, rfl, word_not_nan (by omega), (word_rung (by omega)).2.2⟩

theorem r_two : rung 4611686018427387904 = 4611686018427387904 := by decide
theorem n_two : neg 4611686018427387904 = false := by decide
theorem v_two : val 4611686018427387904 = 2 * 2 ^ K 1074 := by
  have e : (4611686018427387904 : Nat) = (1023 + 1) * 4503599627370496 + (4503599627370496 - 4503599627370496) := by decide
  rw [e, val_normK (by omega) (by omega), show (4503599627370496 : Nat) = 2 ^ 52 by decide, pw_split 52 (K 1023) (K 1075) (by rw [K_eq, K_eq]), pw_step, Nat.mul_comm]
theorem read_two : double.read 4611686018427387904 = .number false 4503599627370496 (-51) := by decide

/-- Twice a number, where that is one. -/
theorem dbl_exact {b r : Nat} (hb : rung b < 9218868437227405312) (h : 0 < r) (hi : r < 9218868437227405312) (he : val r = 2 * val (rung b)) : double.mul 4611686018427387904 b = some (double.word (neg b) r) := by
  rw [mul_exact (by rw [r_two]; omega) hb h hi (by rewrite [r_two, v_two, he]; exact Nat.mul_right_comm 2 _ _), n_two, Bool.false_xor]
theorem dbl_some {b : Nat} (hb : isNan b = false) : ∃ x, double.mul 4611686018427387904 b = some x ∧ isNan x = false ∧ x < 18446744073709551616 :=
  mul_some (by rw [r_two]; omega) (by rw [r_two]; omega) hb

theorem half_eq {b : Nat} (hb : rung b < 9218868437227405312) (hz : rung b ≠ 0) : double.div b 4611686018427387904 = some (double.nearest (neg b) (mag (rung b)) (-1074 + (plc (rung b) : Nat) - 1)) := by
  have hm := mag_pos (r := rung b) (by omega)
  have hl : (mag (rung b)).log2 < 53 := by
    rw [Nat.log2_lt (by omega)]
    unfold mag; split <;> omega
  unfold Format.div
  rw [read_num hb, read_two]
  have e1 : (4503599627370496 : Nat).log2 = 52 := by decide
  simp only [Datum.quotient, Option.map, Format.write, e1, c_frac, Bool.xor_false]
  rw [if_neg (by omega : ¬ 4503599627370496 = 0)]
  simp only []
  congr 1
  generalize mag (rung b) = m at hm hl
  generalize (-1074 + (plc (rung b) : Int)) = i
  have e2 : m <<< (52 + 2 + 52 - m.log2) = m * 2 ^ (54 - m.log2) * 4503599627370496 := by
    rw [Nat.shiftLeft_eq, show 52 + 2 + 52 - m.log2 = 54 - m.log2 + 52 by omega, Nat.pow_add, ← Nat.mul_assoc]
  rw [e2, Nat.mul_div_cancel _ (by decide), Nat.mul_mod_left]
  have e3 : 2 * (m * 2 ^ (54 - m.log2)) + ((0 : Nat) != 0).toNat = m * 2 ^ (55 - m.log2) := by
    rw [show 55 - m.log2 = 54 - m.log2 + 1 by omega, Nat.pow_succ]
    have : ((0 : Nat) != 0).toNat = 0 := rfl
    rw [this, Nat.add_zero, Nat.mul_comm 2, Nat.mul_assoc]
  rw [e3, nearest_shift _ _ _ _ (by omega)]
  congr 1
  omega

/-- Half a number, where that is one. -/
theorem half_exact {b r : Nat} (hb : rung b < 9218868437227405312) (h : 0 < r) (hi : r < 9218868437227405312) (he : val (rung b) = 2 * val r) : double.div b 4611686018427387904 = some (double.word (neg b) r) := by
  have hz : rung b ≠ 0 := by
    intro e
    rw [e, val_zero] at he
    have := val_pos h; omega
  rw [half_eq hb hz]
  congr 1
  refine nearest_exact h hi ?_
  unfold val at he
  by_cases h1 : 1 ≤ plc (rung b)
  · rw [show (-1074 + (plc (rung b) : Int) - 1 + 1074).toNat = plc (rung b) - 1 by omega, show (-1074 - (-1074 + (plc (rung b) : Int) - 1)).toNat = 0 by omega]
    rw [show plc (rung b) = plc (rung b) - 1 + 1 by omega, Nat.pow_succ, ← Nat.mul_assoc] at he
    have : mag (rung b) * 2 ^ (plc (rung b) - 1) = val r := by unfold val; omega
    rw [this]; simp
  · rw [show (-1074 + (plc (rung b) : Int) - 1 + 1074).toNat = 0 by omega, show (-1074 - (-1074 + (plc (rung b) : Int) - 1)).toNat = 1 by omega]
    rw [show plc (rung b) = 0 by omega] at he
    unfold val; omega
theorem half_some {b : Nat} (hb : isNan b = false) (hb' : b < 18446744073709551616) : ∃ x, double.div b 4611686018427387904 = some x ∧ isNan x = false ∧ x < 18446744073709551616 := by
  rcases not_nan hb with h | h
  · by_cases hz : rung b = 0
    · have : b = 0 ∨ b = 9223372036854775808 := by unfold rung at hz; omega
      rcases this with rfl | rfl
      · exact ⟨0, by decide, by decide, by decide⟩
      · exact ⟨9223372036854775808, by decide, by decide, by decide⟩
    · rw [half_eq h hz]
      exact ⟨_, rfl, (nearest_not_nan _ _ _).1, (nearest_not_nan _ _ _).2.1⟩
  · unfold Format.div
    rw [read_inf h, read_two]
    simp only [Datum.quotient, Option.map, Format.write]
    rw [c_inf]
    exact ⟨_, rfl, word_not_nan (by omega), (word_rung (by omega)).2.2⟩

/-! ### Which magnitudes there are -/
theorem val_rep {m : Nat} (hm : m < 9007199254740992) (j : Nat) : ∃ r, val r = m * 2 ^ j := by
  by_cases h0 : m = 0
  · subst h0; exact ⟨0, by rw [val_zero]; simp⟩
  have h1 := Nat.log2_self_le h0
  have h2 := (Nat.log2_lt h0 (k := m.log2 + 1)).1 (by omega)
  have h3 : m.log2 < 53 := by rw [Nat.log2_lt h0]; omega
  by_cases hk : 52 - m.log2 ≤ j
  · have e : m * 2 ^ j = m * 2 ^ (52 - m.log2) * 2 ^ (j - (52 - m.log2)) := by
      rw [Nat.mul_assoc, ← Nat.pow_add]; congr 2; omega
    rw [e]
    have p1 : 2 ^ m.log2 * 2 ^ (52 - m.log2) = 4503599627370496 := by rw [← Nat.pow_add, show m.log2 + (52 - m.log2) = 52 by omega]
    have p2 : 2 ^ (m.log2 + 1) * 2 ^ (52 - m.log2) = 9007199254740992 := by rw [← Nat.pow_add, show m.log2 + 1 + (52 - m.log2) = 53 by omega]
    have b1 := Nat.mul_le_mul_right (2 ^ (52 - m.log2)) h1
    have b2 := Nat.mul_lt_mul_of_pos_right h2 (two_pos (52 - m.log2))
    rw [p1] at b1; rw [p2] at b2
    exact ⟨_, val_norm b1 b2⟩
  · refine ⟨m * 2 ^ j, val_small ?_⟩
    have p2 : 2 ^ (m.log2 + 1) * 2 ^ j ≤ 2 ^ 53 := by rw [← Nat.pow_add]; exact Nat.pow_le_pow_right (by omega) (by omega)
    have b2 := Nat.mul_lt_mul_of_pos_right h2 (two_pos j)
    have : (2 : Nat) ^ 53 = 9007199254740992 := by decide
    omega
theorem val_inj {r s : Nat} (h : val r = val s) : r = s := by
  rcases Nat.lt_trichotomy r s with h1 | h1 | h1
  · have := val_lt h1; omega
  · exact h1
  · have := val_lt h1; omega
theorem val_le_iff {r s : Nat} : val r ≤ val s ↔ r ≤ s := by
  constructor
  · intro h
    by_cases h1 : r ≤ s
    · exact h1
    · have := val_lt (r := s) (s := r) (by omega); omega
  · intro h
    by_cases h1 : r = s
    · subst h1; omega
    · have := val_lt (r := r) (s := s) (by omega); omega
theorem val_lt_iff {r s : Nat} : val r < val s ↔ r < s := by
  have := val_le_iff (r := s) (s := r); omega

/-! ### Whole numbers -/
theorem cut_down (s : Bool) (n d : Nat) : Toward.zero.cut s n d = n / 2 ^ d := by
  unfold Toward.cut
  simp only [Bool.toNat_false, Nat.add_zero]
  rw [Nat.one_shiftLeft]
  by_cases h : d ≤ n.log2 + 2
  · rw [Nat.min_eq_left h]
  · rw [Nat.min_eq_right (by omega)]
    have h2 : n < 2 ^ (n.log2 + 2) := by
      by_cases h0 : n = 0
      · subst h0; exact two_pos _
      · have := (Nat.log2_lt h0 (k := n.log2 + 1)).1 (by omega)
        rw [Nat.pow_succ]; have := two_pos (n.log2 + 1); omega
    have h3 : 2 ^ (n.log2 + 2) ≤ 2 ^ d := Nat.pow_le_pow_right (by omega) (by omega)
    rw [Nat.div_eq_of_lt h2, Nat.div_eq_of_lt (by omega)]

/-- A number's whole part, where an int64 holds it. -/
def ipart (b : Nat) : Int := if neg b then -((val (rung b) / 2 ^ K 1074 : Nat) : Int) else ((val (rung b) / 2 ^ K 1074 : Nat) : Int)
theorem plc_small {r : Nat} (h : val r < 9007199254740992 * 2 ^ K 1074) : plc r ≤ 1074 := by
  by_cases h1 : r < 4503599627370496
  · rw [plc_zero (by omega)]; omega
  · have hb := (val_big (r := r) (by omega)).1
    by_cases h2 : plc r ≤ 1074
    · exact h2
    · exfalso
      have h3 : 2 ^ K 1075 ≤ 2 ^ plc r := pw_le (K 1075) (plc r) (by rw [K_eq]; omega)
      have h4 := pw_step
      have hp := two_pos (K 1074)
      generalize 2 ^ K 1074 = t at *
      omega
theorem ipart_eq {b : Nat} (h : val (rung b) < 9007199254740992 * 2 ^ K 1074) : floatToIntVal .f64 b .i64 = some (ipart b) := by
  have hp := plc_small h
  have hK := K_eq 1074
  have hf : rung b < 9218868437227405312 := by
    rw [← val_lt_iff]
    refine Nat.lt_of_lt_of_le h ?_
    have h1 : (9218868437227405312 : Nat) = (2046 + 1) * 4503599627370496 + (4503599627370496 - 4503599627370496) := by decide
    rw [h1, val_normK (by omega) (by omega)]
    have h2 : (2 : Nat) ^ K 1075 ≤ 2 ^ K 2046 := pw_le (K 1075) (K 2046) (by rw [K_eq, K_eq]; omega)
    have h4 := pw_step
    generalize 2 ^ K 1074 = t at *
    generalize 2 ^ K 2046 = u at *
    omega
  have hd : FloatKind.f64.decode b = .number (neg b) (mag (rung b)) (-1074 + (plc (rung b) : Nat)) := read_num hf
  unfold floatToIntVal
  rw [hd]
  simp only [Datum.toInt, Datum.integral, cut_down]
  rw [show (-1074 + (plc (rung b) : Int)).toNat = 0 by omega, show (-(-1074 + (plc (rung b) : Int))).toNat = 1074 - plc (rung b) by omega, Nat.shiftLeft_zero]
  have e : mag (rung b) / 2 ^ (1074 - plc (rung b)) = val (rung b) / 2 ^ K 1074 := by
    unfold val
    rw [show (2 : Nat) ^ K 1074 = 2 ^ (1074 - plc (rung b)) * 2 ^ plc (rung b) by rw [← Nat.pow_add]; congr 1; omega, Nat.mul_div_mul_right _ _ (two_pos _)]
  rw [e]
  have hb : val (rung b) / 2 ^ K 1074 < 9007199254740992 := div_small h
  have e2 : signed (neg b) (val (rung b) / 2 ^ K 1074) 0 = ipart b := by unfold signed ipart; simp
  rw [e2]
  have h1 : IntKind.i64.min = -9223372036854775808 := rfl
  have h2 : IntKind.i64.max = 9223372036854775807 := rfl
  rw [h1, h2, if_pos]
  unfold ipart
  generalize val (rung b) / 2 ^ K 1074 = q at *
  split <;> omega

theorem ofint_zero : floatOfInt .f64 0 = 0 := by decide
theorem ofint_eq {n : Int} {r : Nat} (h : 0 < r) (hi : r < 9218868437227405312) (hv : val r = n.natAbs * 2 ^ K 1074) : floatOfInt .f64 n = double.word (decide (n < 0)) r := by
  show double.nearest (decide (n < 0)) n.natAbs 0 = _
  refine nearest_exact h hi ?_
  rewrite [hv, K_eq, show ((0 : Int) + 1074).toNat = 1074 by decide, show ((-1074 : Int) - 0).toNat = 0 by decide, Nat.pow_zero, Nat.mul_one]
  exact Eq.refl _
theorem ofint_some (n : Int) : isNan (floatOfInt .f64 n) = false ∧ floatOfInt .f64 n < 18446744073709551616 := by
  have : floatOfInt .f64 n = double.nearest (decide (n < 0)) n.natAbs 0 := rfl
  rw [this]
  exact ⟨(nearest_not_nan _ _ _).1, (nearest_not_nan _ _ _).2.1⟩
end Go.Proofs.Ytacgmhnalbbgbaa.F64
