/- Plain facts on the words of binary64: how two stand to each other, sums, round trips. No condition but those in each statement. -/
import Derived.Laws.FloatArith
namespace Go.Proofs.YtomidcbpnaajeaaGreat.F64
open Ieee

def neg (b : Nat) : Bool := b / 9223372036854775808 % 2 == 1
def rung (b : Nat) : Nat := b % 9223372036854775808
def mag (r : Nat) : Nat := if r < 4503599627370496 then r else 4503599627370496 + r % 4503599627370496
def plc (r : Nat) : Nat := r / 4503599627370496 - 1
def isNan (b : Nat) : Bool := decide (9218868437227405312 < rung b)
def key (b : Nat) : Int := if neg b then -(rung b : Int) else rung b

theorem c_sw : double.signWeight = 9223372036854775808 := rfl
theorem c_bin : double.binade = 4503599627370496 := rfl
theorem c_inf : double.infRung = 9218868437227405312 := rfl
theorem c_least : double.leastPlace = -1074 := by decide
theorem c_frac : double.fractionBits = 52 := rfl

theorem read_num {b : Nat} (h : rung b < 9218868437227405312) : double.read b = .number (neg b) (mag (rung b)) (-1074 + (plc (rung b) : Nat)) := by
  unfold Format.read
  simp only [c_sw, c_bin, c_inf, c_least]
  unfold rung at h
  unfold mag plc rung neg
  by_cases h1 : b % 9223372036854775808 < 4503599627370496
  · simp only [h1, if_true]
    have : b % 9223372036854775808 / 4503599627370496 = 0 := Nat.div_eq_of_lt h1
    simp [this]
  · simp only [h1, if_false, h, if_true]

theorem read_inf {b : Nat} (h : rung b = 9218868437227405312) : double.read b = .infinity (neg b) := by
  unfold Format.read
  simp only [c_sw, c_bin, c_inf, c_least]
  unfold rung at h
  simp [h, neg]

theorem read_nan {b : Nat} (h : 9218868437227405312 < rung b) : double.read b = .nan (neg b) (rung b - 9218868437227405312) := by
  unfold Format.read
  simp only [c_sw, c_bin, c_inf, c_least]
  unfold rung at h ⊢
  have h1 : ¬ b % 9223372036854775808 < 4503599627370496 := by omega
  have h2 : ¬ b % 9223372036854775808 < 9218868437227405312 := by omega
  have h3 : ¬ b % 9223372036854775808 = 9218868437227405312 := by omega
  simp [h1, h2, h3, neg]

theorem cmp_lt {x y : Int} (h : x < y) : compare x y = .lt := by simp [compare, compareOfLessAndEq, h]
theorem cmp_gt {x y : Int} (h : y < x) : compare x y = .gt := by
  have h1 : ¬ x < y := by omega
  have h2 : ¬ x = y := by omega
  simp [compare, compareOfLessAndEq, h1, h2]
theorem cmp_eq {x y : Int} (h : x = y) : compare x y = .eq := by simp [compare, compareOfLessAndEq, h]

theorem some_lt {x y : Int} (h : x < y) : some Ordering.lt = some (compare x y) := by rw [cmp_lt h]
theorem some_gt {x y : Int} (h : y < x) : some Ordering.gt = some (compare x y) := by rw [cmp_gt h]
/-- The magnitude in units of the least place. -/
def val (r : Nat) : Nat := mag r * 2 ^ plc r
theorem plc_zero {r : Nat} (h : r < 9007199254740992) : plc r = 0 := by unfold plc; omega
theorem val_small {r : Nat} (h : r < 9007199254740992) : val r = r := by
  unfold val; rw [plc_zero h]; unfold mag; split <;> omega
theorem val_big {r : Nat} (h : 4503599627370496 ≤ r) : 4503599627370496 * 2 ^ plc r ≤ val r ∧ val r < 9007199254740992 * 2 ^ plc r := by
  unfold val mag
  have hp : 0 < 2 ^ plc r := Nat.two_pow_pos _
  rw [if_neg (by omega)]
  constructor
  · exact Nat.mul_le_mul_right _ (by omega)
  · exact Nat.mul_lt_mul_of_pos_right (by omega) hp
theorem val_lt {r s : Nat} (h : r < s) : val r < val s := by
  by_cases hs : s < 9007199254740992
  · rw [val_small hs, val_small (by omega)]; exact h
  · have hb := val_big (r := s) (by omega)
    by_cases hq : plc r = plc s
    · unfold val; rw [hq]
      refine Nat.mul_lt_mul_of_pos_right ?_ (Nat.two_pow_pos _)
      unfold plc at hq; unfold mag
      split <;> split <;> omega
    · have hl : plc r + 1 ≤ plc s := by unfold plc at hq ⊢; omega
      have hpw : 2 ^ (plc r + 1) ≤ 2 ^ plc s := Nat.pow_le_pow_right (by omega) hl
      rw [Nat.pow_succ] at hpw
      by_cases hr : r < 4503599627370496
      · have h0 : plc r = 0 := plc_zero (by omega)
        rw [h0] at hpw
        rw [val_small (r := r) (by omega)]
        omega
      · have ha := val_big (r := r) (by omega)
        omega
theorem val_zero : val 0 = 0 := by decide

def sval (b : Nat) : Int := if neg b then -(val (rung b) : Int) else val (rung b)

theorem signed_scale (s : Bool) (m p k : Nat) (h : k ≤ p) : signed s m (p - k) * (2 ^ k : Nat) = if s then -((m * 2 ^ p : Nat) : Int) else ((m * 2 ^ p : Nat) : Int) := by
  have e : m * 2 ^ (p - k) * 2 ^ k = m * 2 ^ p := by rw [Nat.mul_assoc, ← Nat.pow_add]; congr 2; omega
  unfold signed
  rw [Nat.shiftLeft_eq]
  cases s
  · simp only [Bool.false_eq_true, if_false]; rw [← e]; simp
  · simp only [if_true]; rw [← e, Int.neg_mul]; simp

theorem key_lt_iff (a b : Nat) : sval a < sval b ↔ key a < key b := by
  have hv : ∀ r s : Nat, val r < val s ↔ r < s := fun r s => ⟨fun h => by
    by_cases h1 : r < s
    · exact h1
    · by_cases h2 : s = r
      · subst h2; omega
      · have := val_lt (r := s) (s := r) (by omega); omega, val_lt⟩
  have h1 := hv (rung a) (rung b)
  have h2 := hv (rung b) (rung a)
  have h3 := hv 0 (rung a)
  have h4 := hv 0 (rung b)
  rw [val_zero] at h3 h4
  unfold sval key
  cases neg a <;> cases neg b <;> simp only [Bool.false_eq_true, if_false, if_true] <;> omega

theorem cmp_scale (x y : Int) (k : Nat) : compare (x * (2 ^ k : Nat)) (y * (2 ^ k : Nat)) = compare x y := by
  have hp : (0 : Int) < (2 ^ k : Nat) := Int.ofNat_lt.2 (Nat.two_pow_pos _)
  by_cases h : x < y
  · rw [cmp_lt h, cmp_lt (Int.mul_lt_mul_of_pos_right h hp)]
  · by_cases h2 : y < x
    · rw [cmp_gt h2, cmp_gt (Int.mul_lt_mul_of_pos_right h2 hp)]
    · have : x = y := by omega
      rw [this, cmp_eq rfl, cmp_eq rfl]

theorem cmp_sval (a b : Nat) : compare (sval a) (sval b) = compare (key a) (key b) := by
  have h1 := key_lt_iff a b
  have h2 := key_lt_iff b a
  by_cases h : key a < key b
  · rw [cmp_lt h, cmp_lt (h1.2 h)]
  · by_cases h' : key b < key a
    · rw [cmp_gt h', cmp_gt (h2.2 h')]
    · rw [cmp_eq (by omega : key a = key b), cmp_eq (by omega : sval a = sval b)]

theorem rung_lt (b : Nat) : rung b < 9223372036854775808 := Nat.mod_lt _ (by decide)

theorem order_eq {a b : Nat} (ha : isNan a = false) (hb : isNan b = false) : double.order a b = some (compare (key a) (key b)) := by
  unfold isNan at ha hb
  simp only [decide_eq_false_iff_not, Nat.not_lt] at ha hb
  unfold Format.order
  by_cases h1 : rung a = 9218868437227405312 <;> by_cases h2 : rung b = 9218868437227405312
  · rw [read_inf h1, read_inf h2]
    unfold key; rw [h1, h2]
    cases neg a <;> cases neg b <;> rfl
  · rw [read_inf h1, read_num (by omega)]
    simp only [Datum.order]
    unfold key; rw [h1]
    cases neg a <;> cases neg b <;> simp only [Bool.false_eq_true, if_false, if_true] <;> first | exact some_lt (by omega) | exact some_gt (by omega)
  · rw [read_inf h2, read_num (by omega)]
    simp only [Datum.order]
    unfold key; rw [h2]
    cases neg a <;> cases neg b <;> simp only [Bool.false_eq_true, if_false, if_true] <;> first | exact some_lt (by omega) | exact some_gt (by omega)
  · rw [read_num (by omega : rung a < _), read_num (by omega : rung b < _)]
    simp only [Datum.order]
    congr 1
    rw [← cmp_sval]
    have e0 : min (-1074 + (plc (rung a) : Int)) (-1074 + (plc (rung b) : Int)) = -1074 + (min (plc (rung a)) (plc (rung b)) : Nat) := by omega
    rw [e0]
    have e1 : (-1074 + (plc (rung a) : Int) - (-1074 + ((min (plc (rung a)) (plc (rung b)) : Nat) : Int))).toNat = plc (rung a) - min (plc (rung a)) (plc (rung b)) := by omega
    have e2 : (-1074 + (plc (rung b) : Int) - (-1074 + ((min (plc (rung a)) (plc (rung b)) : Nat) : Int))).toNat = plc (rung b) - min (plc (rung a)) (plc (rung b)) := by omega
    rw [e1, e2, ← cmp_scale _ _ (min (plc (rung a)) (plc (rung b))), signed_scale _ _ _ _ (by omega), signed_scale _ _ _ _ (by omega)]
    rfl

theorem order_nan {a b : Nat} (h : isNan a = true ∨ isNan b = true) : double.order a b = none := by
  unfold isNan at h
  simp only [decide_eq_true_eq] at h
  unfold Format.order
  by_cases h1 : 9218868437227405312 < rung a
  · rw [read_nan h1]; rfl
  · have h2 : 9218868437227405312 < rung b := by omega
    rw [read_nan h2]
    cases double.read a <;> rfl

def flt (a b : Nat) : Bool := !isNan a && !isNan b && decide (key a < key b)
def feq (a b : Nat) : Bool := !isNan a && !isNan b && decide (key a = key b)
def fle (a b : Nat) : Bool := !isNan a && !isNan b && decide (key a ≤ key b)

theorem lss_eq (a b : Nat) : (double.order a b == some .lt) = flt a b := by
  unfold flt
  cases ha : isNan a
  · cases hb : isNan b
    · rw [order_eq ha hb]
      by_cases h : key a < key b
      · rw [cmp_lt h]; simp [h]
      · by_cases h2 : key b < key a
        · rw [cmp_gt h2]; simp [h]
        · rw [cmp_eq (by omega : key a = key b)]; simp [h]
    · rw [order_nan (.inr hb)]; simp
  · rw [order_nan (.inl ha)]; simp

theorem gtr_eq (a b : Nat) : (double.order a b == some .gt) = flt b a := by
  unfold flt
  cases ha : isNan a
  · cases hb : isNan b
    · rw [order_eq ha hb]
      by_cases h : key b < key a
      · rw [cmp_gt h]; simp [h]
      · by_cases h2 : key a < key b
        · rw [cmp_lt h2]; simp [h]
        · rw [cmp_eq (by omega : key a = key b)]; simp [h]
    · rw [order_nan (.inr hb)]; simp
  · rw [order_nan (.inl ha)]; simp

theorem eql_eq (a b : Nat) : (double.order a b == some .eq) = feq a b := by
  unfold feq
  cases ha : isNan a
  · cases hb : isNan b
    · rw [order_eq ha hb]
      by_cases h : key b = key a
      · rw [cmp_eq h.symm]; simp [h]
      · by_cases h2 : key a < key b
        · rw [cmp_lt h2]; simp; omega
        · rw [cmp_gt (by omega : key b < key a)]; simp; omega
    · rw [order_nan (.inr hb)]; simp
  · rw [order_nan (.inl ha)]; simp

theorem neq_eq (a b : Nat) : (double.order a b != some .eq) = !feq a b := by
  rw [← eql_eq]; rfl

theorem leq_eq (a b : Nat) : (double.order a b == some .lt || double.order a b == some .eq) = fle a b := by
  rw [lss_eq, eql_eq]
  unfold flt feq fle
  cases isNan a <;> cases isNan b <;> simp
  rw [← Bool.decide_or, decide_eq_decide]; omega

theorem geq_eq (a b : Nat) : (double.order a b == some .gt || double.order a b == some .eq) = fle b a := by
  rw [gtr_eq, eql_eq]
  unfold flt feq fle
  cases isNan a <;> cases isNan b <;> simp
  rw [← Bool.decide_or, decide_eq_decide]; omega

theorem feq_self (a : Nat) : feq a a = !isNan a := by unfold feq; simp

/-- The same word: of words of 64 bits. -/
theorem word_eq {a b : Nat} (ha : a < 18446744073709551616) (hb : b < 18446744073709551616) (hn : neg a = neg b) (hr : rung a = rung b) : a = b := by
  unfold neg rung at *
  have h1 : (a / 9223372036854775808 % 2 = 1) ↔ (b / 9223372036854775808 % 2 = 1) := by
    rw [← beq_iff_eq, hn, beq_iff_eq]
  omega
theorem neg_iff (b : Nat) (hb : b < 18446744073709551616) : neg b = true ↔ 9223372036854775808 ≤ b := by
  unfold neg; rw [beq_iff_eq]; omega

theorem log2_val {r : Nat} (h : 0 < r) : (4503599627370496 ≤ r → (val r).log2 = 52 + plc r) ∧ (r < 4503599627370496 → (val r).log2 < 52 ∧ plc r = 0) := by
  constructor
  · intro hr
    have hv := val_big hr
    have e1 : 2 ^ (52 + plc r) = 4503599627370496 * 2 ^ plc r := by rw [Nat.pow_add]
    have e2 : 2 ^ (52 + plc r + 1) = 9007199254740992 * 2 ^ plc r := by rw [show 52 + plc r + 1 = 53 + plc r by omega, Nat.pow_add]
    have hp : 0 < 2 ^ plc r := Nat.two_pow_pos _
    rw [Nat.log2_eq_iff (by omega)]
    omega
  · intro hr
    have hp : plc r = 0 := plc_zero (by omega)
    refine ⟨?_, hp⟩
    rw [val_small (by omega), Nat.log2_lt (by omega)]
    omega

theorem rung_back {r : Nat} : plc r * 4503599627370496 + mag r = r := by
  unfold plc mag
  split <;> omega

theorem cut_exact (s : Bool) (n d : Nat) (h : d ≤ n.log2 + 2) (hd : n % 2 ^ d = 0) : Toward.even.cut s n d = n / 2 ^ d := by
  have hg : 1 <<< min d (n.log2 + 2) = 2 ^ d := by rw [Nat.min_eq_left h, Nat.one_shiftLeft]
  have hp : 0 < 2 ^ d := Nat.two_pow_pos _
  have h4 : ¬ 2 ^ d = 0 := by omega
  unfold Toward.cut
  simp only [hg, hd]
  simp

theorem nearest_val {n : Bool} {r : Nat} (h : 0 < r) (hi : r < 9218868437227405312) : double.nearest n (val r) (-1074) = double.word n r := by
  have hl := log2_val h
  have hp : 0 < 2 ^ plc r := Nat.two_pow_pos _
  have hm : 0 < mag r := by unfold mag; split <;> omega
  have hv : val r ≠ 0 := by unfold val; exact Nat.pos_iff_ne_zero.1 (Nat.mul_pos hm hp)
  have hlast : max ((-1074 : Int) + (val r).log2 - double.fractionBits) double.leastPlace = -1074 + (plc r : Int) := by
    rw [c_frac, c_least]
    by_cases hr : 4503599627370496 ≤ r
    · have := hl.1 hr; omega
    · have := hl.2 (by omega); omega
  have hle : plc r ≤ (val r).log2 := by
    by_cases hr : 4503599627370496 ≤ r
    · have := hl.1 hr; omega
    · have := hl.2 (by omega); omega
  unfold Format.nearest
  rw [if_neg hv]
  simp only [hlast]
  have e1 : ((-1074 : Int) - (-1074 + (plc r : Int))).toNat = 0 := by omega
  have e2 : ((-1074 : Int) + (plc r : Int) - -1074).toNat = plc r := by omega
  have e3 : ((-1074 : Int) + (plc r : Int) - double.leastPlace).toNat = plc r := by rw [c_least]; omega
  rw [e1, e2, e3, c_bin, c_inf]
  have hc : Toward.even.cut n (val r <<< 0) (plc r) = mag r := by
    rw [Nat.shiftLeft_zero, cut_exact _ _ _ (by omega) (by unfold val; exact Nat.mul_mod_left _ _)]
    unfold val; exact Nat.mul_div_cancel _ hp
  rw [hc, rung_back, Nat.min_eq_left (by omega)]

theorem signed_zero (s : Bool) (k : Nat) : signed s 0 k = 0 := by unfold signed; cases s <;> simp
theorem signed_val (s : Bool) (r : Nat) : signed s (mag r) (plc r) = if s then -(val r : Int) else val r := by
  unfold signed val; rw [Nat.shiftLeft_eq]
theorem word_back {b : Nat} (hb : b < 18446744073709551616) : double.word (neg b) (rung b) = b := by
  unfold Format.word
  rw [c_sw]
  unfold neg rung
  by_cases h : b / 9223372036854775808 % 2 = 1
  · simp [h]; omega
  · simp [h]; omega
theorem val_pos {r : Nat} (h : 0 < r) : 0 < val r := by have := val_lt h; rw [val_zero] at this; exact this

/-- +0 added changes none but -0. -/
theorem add_zero {b : Nat} (hb : b < 18446744073709551616) (hn : isNan b = false) : double.add b 0 = some (if b = 9223372036854775808 then 0 else b) := by
  unfold isNan at hn
  simp only [decide_eq_false_iff_not, Nat.not_lt] at hn
  have h0 : double.read 0 = .number false 0 (-1074) := by decide
  unfold Format.add
  rw [h0]
  by_cases h1 : rung b = 9218868437227405312
  · rw [read_inf h1]
    simp only [Datum.sum, Option.map, Format.write]
    rw [c_inf, ← h1, word_back hb, if_neg]
    intro e; subst e; revert h1; decide
  · rw [read_num (by omega : rung b < _)]
    simp only [Datum.sum, Option.map, Format.write]
    have e0 : min ((-1074 : Int) + (plc (rung b) : Nat)) (-1074) = -1074 := by omega
    have e1 : ((-1074 : Int) + (plc (rung b) : Nat) - -1074).toNat = plc (rung b) := by omega
    rw [e0, e1, signed_zero, signed_val, Int.add_zero]
    by_cases hz : rung b = 0
    · have hv : val (rung b) = 0 := by rw [hz]; exact val_zero
      rw [hv]
      have hb' : b = 0 ∨ b = 9223372036854775808 := by unfold rung at hz; omega
      rcases hb' with rfl | rfl <;> decide
    · have hp := val_pos (r := rung b) (by omega)
      have hne : b ≠ 9223372036854775808 := by intro e; subst e; exact hz (by decide)
      rw [if_neg hne]
      congr 1
      cases hs : neg b
      · simp only [Bool.false_eq_true, if_false]
        rw [if_neg (by omega), show decide ((val (rung b) : Int) < 0) = neg b by rw [hs, decide_eq_false_iff_not]; omega, Int.natAbs_natCast, nearest_val (by omega) (by omega), word_back hb]
      · simp only [if_true]
        rw [if_neg (by omega), show decide (-(val (rung b) : Int) < 0) = neg b by rw [hs, decide_eq_true_eq]; omega, Int.natAbs_neg, Int.natAbs_natCast, nearest_val (by omega) (by omega), word_back hb]

theorem sum_comm (x y : Datum) : x.sum y = y.sum x := by
  cases x <;> cases y <;> simp only [Datum.sum]
  case number.number s m i t n j =>
    rw [Int.min_comm j i, Int.add_comm, Bool.and_comm]
  case infinity.infinity s t =>
    by_cases h : s = t
    · subst h; rfl
    · rw [if_neg h, if_neg (fun e => h e.symm)]
theorem add_comm (a b : Nat) : double.add a b = double.add b a := by unfold Format.add; rw [sum_comm]
theorem add_nan {a b : Nat} (h : isNan a = true) : double.add a b = none := by
  unfold isNan at h
  simp only [decide_eq_true_eq] at h
  unfold Format.add
  rw [read_nan h]; cases double.read b <;> rfl
theorem not_nan {b : Nat} (h : isNan b = false) : rung b < 9218868437227405312 ∨ rung b = 9218868437227405312 := by
  unfold isNan at h; simp only [decide_eq_false_iff_not] at h; omega
end Go.Proofs.YtomidcbpnaajeaaGreat.F64
