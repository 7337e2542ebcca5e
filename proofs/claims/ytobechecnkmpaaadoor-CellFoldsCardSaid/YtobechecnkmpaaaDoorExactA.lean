/- What a number's text is (layer 2, exact), as a plain function of its word; that it is short, and that the word is known by it. No condition but those in each statement. -/
import Derived.Test.YtobechecnkmpaaaDoorRealB
import Derived.Test.YtobechecnkmpaaaDoorF64B
import Derived.Test.YtobechecnkmpaaaDoorDec
namespace Go.Proofs.YtobechecnkmpaaaDoor
open Go.RowKit F64 Go.Lib

/-- How many factors 2 a number has; what is left of it. -/
def tw (n : Nat) : Nat := if h : n ≠ 0 ∧ n % 2 = 0 then tw (n / 2) + 1 else 0
  termination_by n
  decreasing_by omega
def od (n : Nat) : Nat := n / 2 ^ tw n

theorem tw_odd {n : Nat} (h : n % 2 = 1) : tw n = 0 := by rw [tw, dif_neg (by omega)]
theorem tw_even {n : Nat} (h : n ≠ 0) : tw (2 * n) = tw n + 1 := by
  rw [tw, dif_pos (by omega), show 2 * n / 2 = n by omega]
theorem tw_mul {m : Nat} (h : m % 2 = 1) (k : Nat) : tw (m * 2 ^ k) = k := by
  induction k with
  | zero => rw [Nat.pow_zero, Nat.mul_one]; exact tw_odd h
  | succ k ih =>
    rw [show m * 2 ^ (k + 1) = 2 * (m * 2 ^ k) by rw [Nat.pow_succ, ← Nat.mul_assoc, Nat.mul_comm], tw_even (by have := Nat.mul_pos (show 0 < m by omega) (two_pos k); omega), ih]
theorem od_mul {m : Nat} (h : m % 2 = 1) (k : Nat) : od (m * 2 ^ k) = m := by
  unfold od; rw [tw_mul h k, Nat.mul_div_cancel _ (two_pos k)]
theorem split_two : ∀ n : Nat, n ≠ 0 → ∃ m k, m % 2 = 1 ∧ n = m * 2 ^ k := by
  intro n
  induction n using Nat.strongRecOn with
  | ind n ih =>
    intro h
    by_cases h2 : n % 2 = 1
    · exact ⟨n, 0, h2, by rw [Nat.pow_zero, Nat.mul_one]⟩
    · obtain ⟨m, k, h3, h4⟩ := ih (n / 2) (by omega) (by omega)
      exact ⟨m, k + 1, h3, by rw [Nat.pow_succ, ← Nat.mul_assoc, ← h4]; omega⟩
theorem od_tw {n : Nat} (h : n ≠ 0) : n = od n * 2 ^ tw n ∧ od n % 2 = 1 := by
  obtain ⟨m, k, h1, h2⟩ := split_two n h
  rw [h2, od_mul h1, tw_mul h1]
  exact ⟨rfl, h1⟩
theorem tw_shift {n : Nat} (h : n ≠ 0) (k : Nat) : tw (n * 2 ^ k) = tw n + k ∧ od (n * 2 ^ k) = od n := by
  obtain ⟨m, j, h1, h2⟩ := split_two n h
  rw [h2, od_mul h1, tw_mul h1, Nat.mul_assoc, ← Nat.pow_add, od_mul h1, tw_mul h1]
  exact ⟨rfl, rfl⟩
theorem od_le (n : Nat) : od n ≤ n := Nat.div_le_self _ _
theorem od_half {n : Nat} (h : n ≠ 0) : od (2 * n) = od n := by
  have := (tw_shift h 1).2
  rw [Nat.pow_one, Nat.mul_comm] at this; exact this

/-- A number with a sign. -/
def sgn (s : Bool) (n : Nat) : Int := if s then -(n : Int) else n
/-- The odd factor of a finite number that is not 0, and the power. -/
def oddOf (b : Nat) : Int := sgn (neg b) (od (val (rung b)))
def powOf (b : Nat) : Int := (tw (val (rung b)) : Int) - 1074

def text (b : Nat) : List UInt8 :=
  if isNan b then [110, 97, 110]
  else if rung b = 9218868437227405312 then (if neg b then [45, 105, 110, 102] else [105, 110, 102])
  else if rung b = 0 then (if neg b then [45, 48] else [48])
  else itoa (oddOf b) ++ 112 :: itoa (powOf b)

theorem val_ne {r : Nat} (h : r ≠ 0) : val r ≠ 0 := by have := val_pos (r := r) (by omega); omega
theorem od_val_lt {r : Nat} (h : r ≠ 0) : od (val r) < 9007199254740992 ∧ od (val r) % 2 = 1 := by
  have h1 : mag r < 9007199254740992 := by unfold mag; split <;> omega
  have h2 : mag r ≠ 0 := by have := mag_pos (r := r) (by omega); omega
  refine ⟨?_, (od_tw (val_ne h)).2⟩
  have h3 : od (val r) = od (mag r) := by unfold val; exact (tw_shift h2 _).2
  rw [h3]
  have := od_le (mag r); omega
theorem inf_norm : (9218868437227405312 : Nat) = (2046 + 1) * 4503599627370496 + (4503599627370496 - 4503599627370496) := by decide
theorem val_inf : val 9218868437227405312 = 4503599627370496 * 2 ^ K 2046 := by rw [inf_norm, val_normK (by omega) (by omega)]
theorem tw_val_lt {r : Nat} (h : r ≠ 0) (hi : r < 9218868437227405312) : tw (val r) < 2098 := by
  have h1 := (od_tw (val_ne h))
  have h2 := val_lt hi
  rw [val_inf] at h2
  by_cases h3 : tw (val r) < 2098
  · exact h3
  · exfalso
    have h4 : 2 ^ K 2098 ≤ 2 ^ tw (val r) := pw_le (K 2098) (tw (val r)) (by rw [K_eq]; omega)
    have h5 : 2 ^ K 2098 = 4503599627370496 * 2 ^ K 2046 := by
      have := pw_split 52 (K 2046) (K 2098) (by rw [K_eq, K_eq])
      rw [← this]
    have h6 : 2 ^ tw (val r) ≤ val r := by
      have := Nat.le_mul_of_pos_left (2 ^ tw (val r)) (show 0 < od (val r) by omega)
      omega
    rw [← h5] at h2
    omega
theorem odd_small {b : Nat} (h : rung b ≠ 0) : -9007199254740992 < oddOf b ∧ oddOf b < 9007199254740992 ∧ oddOf b ≠ 0 ∧ (oddOf b < 0 ↔ neg b = true) ∧ oddOf b % 2 ≠ 0 ∧ (oddOf b).natAbs = od (val (rung b)) := by
  have := od_val_lt h
  unfold oddOf sgn
  cases neg b <;> simp <;> omega
theorem pow_small {b : Nat} (h : rung b ≠ 0) (hi : rung b < 9218868437227405312) : -1074 ≤ powOf b ∧ powOf b ≤ 1023 := by
  have := tw_val_lt h hi
  unfold powOf; omega

theorem text_num {b : Nat} (h : rung b ≠ 0) (hi : rung b < 9218868437227405312) : text b = itoa (oddOf b) ++ 112 :: itoa (powOf b) := by
  unfold text
  rw [finite_of hi, if_neg (by simp), if_neg (by omega), if_neg h]

theorem text_inf {b : Nat} (h : rung b = 9218868437227405312) : text b = if neg b then [45, 105, 110, 102] else [105, 110, 102] := by
  have : isNan b = false := by unfold isNan; rw [h]; decide
  unfold text
  rw [this, if_neg (by simp), if_pos h]
theorem text_zero {b : Nat} (h : rung b = 0) : text b = if neg b then [45, 48] else [48] := by
  unfold text
  rw [finite_of (by omega), if_neg (by simp), if_neg (by omega), if_pos h]

theorem text_len (b : Nat) : (text b).length ≤ 23 := by
  by_cases hn : isNan b = true
  · unfold text; rw [if_pos hn]; decide
  · rcases not_nan (by simpa using hn) with h | h
    · by_cases hz : rung b = 0
      · unfold text; rw [if_neg hn, if_neg (by omega), if_pos hz]; split <;> decide
      · rw [text_num hz h]
        have h1 := odd_small hz
        have h2 := pow_small hz h
        have l1 := Dec.itoa_len (k := 16) (n := oddOf b) (by omega) (by rw [show (10 : Nat) ^ 16 = 10000000000000000 by decide]; omega)
        have l2 := Dec.itoa_len (k := 4) (n := powOf b) (by omega) (by rw [show (10 : Nat) ^ 4 = 10000 by decide]; omega)
        rw [List.length_append, List.length_cons]; omega
    · unfold text; rw [if_neg hn, if_pos h]; split <;> decide

theorem itoa_first (n : Int) : ∃ c r, itoa n = c :: r ∧ (c.toNat = 45 ∧ (∃ d r', r = d :: r' ∧ 48 ≤ d.toNat ∧ d.toNat ≤ 57) ∨ 48 ≤ c.toNat ∧ c.toNat ≤ 57) := by
  by_cases hn : n < 0
  · obtain ⟨c, r, e, _, _, h⟩ := Dec.dd_head n.natAbs
    refine ⟨45, decDigits n.natAbs, by unfold itoa; rw [if_pos hn], .inl ⟨rfl, c, r, e, h⟩⟩
  · obtain ⟨c, r, e, _, _, h⟩ := Dec.dd_head n.toNat
    exact ⟨c, r, by unfold itoa; rw [if_neg hn, e], .inr h⟩
theorem pair_not {m e : Int} {l : List UInt8} (h : l = [110, 97, 110] ∨ l = [45, 105, 110, 102] ∨ l = [105, 110, 102] ∨ l = [45, 48] ∨ l = [48]) : itoa m ++ 112 :: itoa e ≠ l := by
  intro e1
  have hm : (112 : UInt8) ∈ l := by rw [← e1]; simp
  rcases h with rfl | rfl | rfl | rfl | rfl <;> simp at hm

theorem rung_of_parts {a b : Nat} (ha : rung a ≠ 0) (hb : rung b ≠ 0) (h1 : oddOf a = oddOf b) (h2 : powOf a = powOf b) : rung a = rung b ∧ neg a = neg b := by
  have a1 := odd_small ha
  have b1 := odd_small hb
  refine ⟨?_, ?_⟩
  · apply val_inj
    rw [(od_tw (val_ne ha)).1, (od_tw (val_ne hb)).1]
    have e1 : od (val (rung a)) = od (val (rung b)) := by rw [← a1.2.2.2.2.2, ← b1.2.2.2.2.2, h1]
    have e2 : tw (val (rung a)) = tw (val (rung b)) := by unfold powOf at h2; omega
    rw [e1, e2]
  · rw [Bool.eq_iff_iff, ← a1.2.2.2.1, ← b1.2.2.2.1, h1]

/-- The five texts that are no numerals'. -/
theorem text_five (b : Nat) (h : isNan b = true ∨ rung b = 9218868437227405312 ∨ rung b = 0) : text b = [110, 97, 110] ∨ text b = [45, 105, 110, 102] ∨ text b = [105, 110, 102] ∨ text b = [45, 48] ∨ text b = [48] := by
  unfold text
  by_cases h1 : isNan b = true
  · rw [if_pos h1]; simp
  · rw [if_neg h1]
    by_cases h2 : rung b = 9218868437227405312
    · rw [if_pos h2]; cases neg b <;> simp
    · rw [if_neg h2, if_pos (by rcases h with h | h | h; exact absurd h h1; exact absurd h h2; exact h)]; cases neg b <;> simp

/-- A number is known by its text. -/
theorem text_inj {a b : Nat} (ha : a < 18446744073709551616) (hb : b < 18446744073709551616) (h : text a = text b) : same a b = true := by
  by_cases na : isNan a = true
  · rw [same_nan na]
    unfold text at h
    rw [if_pos na] at h
    by_cases nb : isNan b = true
    · exact nb
    · exfalso
      rw [if_neg nb] at h
      by_cases h2 : rung b = 9218868437227405312
      · rw [if_pos h2] at h; split at h <;> simp at h
      · rw [if_neg h2] at h
        by_cases h3 : rung b = 0
        · rw [if_pos h3] at h; split at h <;> simp at h
        · rw [if_neg h3] at h
          exact pair_not (.inl rfl) h.symm
  · by_cases nb : isNan b = true
    · exfalso
      unfold text at h
      rw [if_pos nb, if_neg na] at h
      by_cases h2 : rung a = 9218868437227405312
      · rw [if_pos h2] at h; split at h <;> simp at h
      · rw [if_neg h2] at h
        by_cases h3 : rung a = 0
        · rw [if_pos h3] at h; split at h <;> simp at h
        · rw [if_neg h3] at h
          exact pair_not (.inl rfl) h
    · have key : rung a = rung b ∧ neg a = neg b := by
        by_cases fa : rung a = 9218868437227405312 ∨ rung a = 0
        · by_cases fb : rung b = 9218868437227405312 ∨ rung b = 0
          · rcases fa with f | f <;> rcases fb with g | g
            · rw [text_inf f, text_inf g] at h
              exact ⟨f.trans g.symm, by cases h1 : neg a <;> cases h2 : neg b <;> simp [h1, h2] at h ⊢⟩
            · rw [text_inf f, text_zero g] at h
              exfalso; cases h1 : neg a <;> cases h2 : neg b <;> simp [h1, h2] at h
            · rw [text_zero f, text_inf g] at h
              exfalso; cases h1 : neg a <;> cases h2 : neg b <;> simp [h1, h2] at h
            · rw [text_zero f, text_zero g] at h
              exact ⟨f.trans g.symm, by cases h1 : neg a <;> cases h2 : neg b <;> simp [h1, h2] at h ⊢⟩
          · exfalso
            have hz : rung b ≠ 0 := fun e => fb (.inr e)
            have hf : rung b < 9218868437227405312 := by
              rcases not_nan (by simpa using nb) with g | g
              · exact g
              · exact absurd (.inl g) fb
            rw [text_num hz hf] at h
            exact pair_not (text_five a (.inr fa)) h.symm
        · have hz : rung a ≠ 0 := fun e => fa (.inr e)
          have hf : rung a < 9218868437227405312 := by
            rcases not_nan (by simpa using na) with g | g
            · exact g
            · exact absurd (.inl g) fa
          rw [text_num hz hf] at h
          by_cases fb : rung b = 9218868437227405312 ∨ rung b = 0
          · exfalso
            exact pair_not (text_five b (.inr fb)) h
          · have hzb : rung b ≠ 0 := fun e => fb (.inr e)
            have hfb : rung b < 9218868437227405312 := by
              rcases not_nan (by simpa using nb) with g | g
              · exact g
              · exact absurd (.inl g) fb
            rw [text_num hzb hfb] at h
            have a1 := odd_small hz; have b1 := odd_small hzb
            have a2 := pow_small hz hf; have b2 := pow_small hzb hfb
            obtain ⟨e1, e2⟩ := Dec.pair_inj h (by omega) (by omega) (by omega) (by omega) (by omega) (by omega) (by omega) (by omega)
            exact rung_of_parts hz hzb e1 e2
      have : a = b := word_eq ha hb key.2 key.1
      subst this
      unfold same; simp

/-! ### A finite number with all its binary digits -/
def nM (r : Nat) : Nat := if r < 4503599627370496 then r * 2 ^ (52 - r.log2) else mag r
def nE (r : Nat) : Int := if r < 4503599627370496 then (r.log2 : Int) - 1126 else (plc r : Int) - 1074
theorem nm_range {r : Nat} (h : r ≠ 0) : 4503599627370496 ≤ nM r ∧ nM r < 9007199254740992 := by
  unfold nM
  split
  · rename_i hr
    have h1 := Nat.log2_self_le h
    have h2 := (Nat.log2_lt h (k := r.log2 + 1)).1 (by omega)
    have h3 : r.log2 < 52 := by rw [Nat.log2_lt h]; omega
    have p1 : 2 ^ r.log2 * 2 ^ (52 - r.log2) = 4503599627370496 := by rw [← Nat.pow_add, show r.log2 + (52 - r.log2) = 52 by omega]
    have p2 : 2 ^ (r.log2 + 1) * 2 ^ (52 - r.log2) = 9007199254740992 := by rw [← Nat.pow_add, show r.log2 + 1 + (52 - r.log2) = 53 by omega]
    have b1 := Nat.mul_le_mul_right (2 ^ (52 - r.log2)) h1
    have b2 := Nat.mul_lt_mul_of_pos_right h2 (two_pos (52 - r.log2))
    rw [p1] at b1; rw [p2] at b2
    exact ⟨b1, b2⟩
  · unfold mag; rw [if_neg (by assumption)]; omega
theorem ne_range {r : Nat} (h : r ≠ 0) (hi : r < 9218868437227405312) : -1126 ≤ nE r ∧ nE r ≤ 971 := by
  unfold nE
  split
  · have h3 : r.log2 < 52 := by rw [Nat.log2_lt h]; omega
    omega
  · unfold plc; omega
theorem nm_val {r : Nat} (h : r ≠ 0) : nM r * 2 ^ (nE r + 1126).toNat = val r * 2 ^ 52 := by
  unfold nM nE
  split
  · rename_i hr
    have h3 : r.log2 < 52 := by rw [Nat.log2_lt h]; omega
    rw [val_small (by omega), Nat.mul_assoc, ← Nat.pow_add]
    congr 2; omega
  · unfold val
    rw [Nat.mul_assoc, ← Nat.pow_add]
    congr 2; omega
theorem nm_odd {r : Nat} (h : r ≠ 0) : od (nM r) = od (val r) ∧ nE r + (tw (nM r) : Int) = (tw (val r) : Int) - 1074 := by
  have h0 := nm_range h
  have h1 := nm_val h
  have h2 := tw_shift (n := nM r) (by omega) (nE r + 1126).toNat
  have h3 := tw_shift (val_ne h) 52
  rw [h1] at h2
  refine ⟨by rw [← h2.2, h3.2], ?_⟩
  have : -1126 ≤ nE r := by unfold nE; split <;> omega
  omega
/-- The same digits as a word between 1/2 and 1; as a whole number. -/
theorem val_half {r : Nat} (h : r ≠ 0) : val (1022 * 4503599627370496 + (nM r - 4503599627370496)) = nM r * 2 ^ K 1021 :=
  have h0 := nm_range h
  val_normK (j := 1021) h0.1 h0.2
theorem val_whole {r : Nat} (h : r ≠ 0) : val (1075 * 4503599627370496 + (nM r - 4503599627370496)) = nM r * 2 ^ K 1074 :=
  have h0 := nm_range h
  val_normK (j := 1074) h0.1 h0.2

/-! ### Some numbers' texts -/
theorem text_of {b m k : Nat} (hz : rung b ≠ 0) (hf : rung b < 9218868437227405312) (h : val (rung b) = m * 2 ^ k) (hm : m % 2 = 1) : text b = itoa (sgn (neg b) m) ++ 112 :: itoa ((k : Int) - 1074) := by
  rw [text_num hz hf]
  unfold oddOf powOf
  rw [h, od_mul hm, tw_mul hm]
theorem text_m8 : text 13844065254536904704 = [45, 49, 112, 51] := by
  have hr : rung 13844065254536904704 = (1025 + 1) * 4503599627370496 + (4503599627370496 - 4503599627370496) := by decide
  have hn : neg 13844065254536904704 = true := by decide
  have hv : val (rung 13844065254536904704) = 1 * 2 ^ K 1077 := by
    rw [hr, val_normK (by omega) (by omega), show (4503599627370496 : Nat) = 2 ^ 52 by decide, pw_split 52 (K 1025) (K 1077) (by rw [K_eq, K_eq]), Nat.one_mul]
  have h := text_of (b := 13844065254536904704) (by rw [hr]; omega) (by rw [hr]; omega) hv (by decide)
  rw [hn] at h
  have e1 : itoa (sgn true 1) = [45, 49] := by
    show itoa (-((1 : Nat) : Int)) = _
    rw [itoa_neg 1 (by omega), Dec.dd_small (by omega)]; rfl
  have e2 : itoa (((1077 : Nat) : Int) - 1074) = [51] := by
    rw [show ((1077 : Nat) : Int) - 1074 = 3 by omega, Dec.itoa_one (by omega) (by omega)]; rfl
  rw [e1, K_eq, e2] at h
  exact h
theorem text_15 : text 4609434218613702656 = [51, 112, 45, 49] := by
  have hr : rung 4609434218613702656 = (1022 + 1) * 4503599627370496 + (6755399441055744 - 4503599627370496) := by decide
  have hn : neg 4609434218613702656 = false := by decide
  have hv : val (rung 4609434218613702656) = 3 * 2 ^ K 1073 := by
    rw [hr, val_normK (by omega) (by omega), show (6755399441055744 : Nat) = 3 * 2 ^ 51 by decide, Nat.mul_assoc, pw_split 51 (K 1022) (K 1073) (by rw [K_eq, K_eq])]
  have h := text_of (b := 4609434218613702656) (by rw [hr]; omega) (by rw [hr]; omega) hv (by decide)
  rw [hn] at h
  have e1 : itoa (sgn false 3) = [51] := by
    show itoa ((3 : Nat) : Int) = _
    rw [itoa_nonneg, Dec.dd_small (by omega)]; rfl
  have e2 : itoa (((1073 : Nat) : Int) - 1074) = [45, 49] := by
    rw [show ((1073 : Nat) : Int) - 1074 = -((1 : Nat) : Int) by omega, itoa_neg 1 (by omega), Dec.dd_small (by omega)]; rfl
  rw [e1, K_eq, e2] at h
  exact h
theorem text_00 : text 0 = [48] := by
  have h := text_zero (b := 0) (by decide)
  rw [show neg 0 = false by decide] at h
  exact h
end Go.Proofs.YtobechecnkmpaaaDoor
