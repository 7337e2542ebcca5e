/- What the document's answer for layer 2 (exact) gives: Digits, whole, Text. Conditions: a word of 64 bits; a number of 64 bits. -/
import Derived.Test.YtobechecnkmpaaaDoorExactD
import Derived.Deep.QuietTactic
import Derived.BigQuiet
namespace Go.Proofs.YtobechecnkmpaaaDoor
open Go.RowKit F64 Go.Lib
set_option linter.unusedVariables false

/-! ### whole -/
def wholeB (b : Nat) : Bool := decide (val (rung b) % 2 ^ K 1074 = 0)
theorem sgn_neg {s : Bool} {q : Nat} (h : q ≠ 0) : (sgn s q < 0 ↔ s = true) ∧ (sgn s q).natAbs = q := by unfold sgn; cases s <;> simp <;> omega
theorem ipart_sgn (b : Nat) : ipart b = sgn (neg b) (val (rung b) / 2 ^ K 1074) := rfl
theorem small_inf {m : Nat} (h : m < 9007199254740992 * 2 ^ K 1074) : m < val 9218868437227405312 := by
  rewrite [val_inf]
  exact Nat.lt_of_lt_of_le h big_small
theorem whole_back {b : Nat} (hz : rung b ≠ 0) (h : val (rung b) < 9007199254740992 * 2 ^ K 1074) : feq (floatOfInt .f64 (ipart b)) b = wholeB b := by
  have hf : rung b < 9218868437227405312 := val_lt_iff.1 (small_inf h)
  have hd := Nat.div_add_mod (val (rung b)) (2 ^ K 1074)
  have hq : val (rung b) / 2 ^ K 1074 < 9007199254740992 := div_small h
  rw [ipart_sgn]
  unfold wholeB
  generalize val (rung b) / 2 ^ K 1074 = q at *
  by_cases h0 : q = 0
  · subst h0
    have e : sgn (neg b) 0 = 0 := by unfold sgn; cases neg b <;> rfl
    rw [e, ofint_zero]
    have h1 : feq 0 b = false := by
      unfold feq
      rw [k_zero]
      have : ¬ (0 = key b) := by unfold key; split <;> omega
      simp [this]
    rw [h1]
    have hv := val_ne hz
    rw [Nat.mul_zero, Nat.zero_add] at hd
    rw [hd]
    simp [hv]
  · obtain ⟨r0, hr0⟩ := val_rep (m := q) hq (K 1074)
    have h1 := sgn_neg (s := neg b) h0
    have hr : 0 < r0 := by
      rcases Nat.eq_zero_or_pos r0 with e | e
      · subst e
        rw [val_zero] at hr0
        have := Nat.mul_pos (show 0 < q by omega) (two_pos (K 1074))
        omega
      · exact e
    have hi : r0 < 9218868437227405312 := val_lt_iff.1 (small_inf (by rewrite [hr0]; exact Nat.mul_lt_mul_of_pos_right hq (two_pos (K 1074))))
    have hp := word_rung (n := decide (sgn (neg b) q < 0)) (r := r0) (by omega)
    rw [ofint_eq (n := sgn (neg b) q) hr hi (by rw [h1.2]; exact hr0)]
    have hs : decide (sgn (neg b) q < 0) = neg b := by rw [Bool.eq_iff_iff, decide_eq_true_eq]; exact h1.1
    rw [hs] at hp ⊢
    unfold feq
    rw [finite_of (by rw [hp.1]; exact hi), finite_of hf]
    unfold key
    rw [hp.1, hp.2.1]
    have e2 : (r0 = rung b) ↔ val (rung b) % 2 ^ K 1074 = 0 := by
      constructor
      · intro e
        rw [← e, hr0]; exact Nat.mul_mod_left _ _
      · intro e
        rw [e, Nat.add_zero] at hd
        exact val_inj (by rw [hr0, ← hd, Nat.mul_comm])
    rw [Bool.eq_iff_iff]
    simp only [Bool.not_false, Bool.true_and, decide_eq_true_eq]
    rw [← e2]
    cases neg b <;> simp <;> omega

theorem ref_whole (b : Nat) (w : World) (hz : rung b ≠ 0) (h : val (rung b) < 9007199254740992 * 2 ^ K 1074) : Calls Tryd.prog 38 #[.float .f64 b] w fun e w' => e = .returned (.bool (wholeB b)) ∧ w = w' := by
  have hc : ∀ w, (convert 22 2 (.float .f64 b)).run Tryd.prog w = .ok (.int .i64 (ipart b)) w := fun w => run_convert_float_int w _ _ _ _ _ _ (by kernel_rfl) (by kernel_rfl) (ipart_eq h)
  have hw := whole_back hz h
  clear hz h
  go_enter Tryd.func38, Tryd.ntmps38
  go_wp2_with fail
  go_ret
  exact ⟨rfl, rfl⟩

/-! ### Text -/
/-- f is b, moved by a power of 2. -/
structure Mid (b f : Nat) (e : Int) : Prop where
  ng : neg f = neg b
  nz : rung f ≠ 0
  fi : rung f < 9218868437227405312
  od : od (val (rung f)) = od (val (rung b))
  tw : (tw (val (rung f)) : Int) + e = tw (val (rung b))
  lt : f < 18446744073709551616
theorem Mid.small {b f : Nat} {e : Int} (h : Mid b f e) (hz : rung b ≠ 0) (hf : rung b < 9218868437227405312) : -2098 < e ∧ e < 2098 := by
  have h1 := tw_val_lt h.nz h.fi
  have h2 := tw_val_lt hz hf
  have := h.tw
  omega
theorem Mid.start {b : Nat} (hb : b < 18446744073709551616) (hz : rung b ≠ 0) (hf : rung b < 9218868437227405312) : Mid b b 0 := ⟨rfl, hz, hf, rfl, by omega, hb⟩
theorem val_two {r : Nat} (h : 9007199254740992 ≤ r) : val r = 2 * val (r - 4503599627370496) := by
  unfold val mag plc
  rw [if_neg (by omega), if_neg (by omega)]
  have e1 : (r - 4503599627370496) % 4503599627370496 = r % 4503599627370496 := by omega
  have e2 : (r - 4503599627370496) / 4503599627370496 = r / 4503599627370496 - 1 := by omega
  rw [e1, e2, show r / 4503599627370496 - 1 = r / 4503599627370496 - 1 - 1 + 1 by omega, Nat.pow_succ]
  rw [← Nat.mul_assoc, Nat.mul_comm]
  rfl
theorem mid_half {b f : Nat} {e : Int} (M : Mid b f e) (hb : 4845873199050653696 ≤ rung f) : ∃ f', floatBits .quo .f64 f 4611686018427387904 = some f' ∧ Mid b f' (e + 1) ∧ rung f' < rung f := by
  have hv := val_two (r := rung f) (by omega)
  have hi := M.fi
  have hp := word_rung (n := neg f) (r := rung f - 4503599627370496) (by omega)
  have hv0 : val (rung f - 4503599627370496) ≠ 0 := val_ne (by omega)
  refine ⟨_, half_exact M.fi (by omega) (by omega) hv, ⟨?_, ?_, ?_, ?_, ?_, hp.2.2⟩, ?_⟩
  · rw [hp.2.1]; exact M.ng
  · rw [hp.1]; omega
  · rw [hp.1]; omega
  · rw [hp.1, ← od_half hv0, ← hv]; exact M.od
  · have := M.tw
    rw [hv, tw_even hv0] at this
    rw [hp.1]; omega
  · rw [hp.1]; omega
theorem not_whole {f : Nat} (hz : rung f ≠ 0) (h : wholeB f = false) (hs : val (rung f) < 9007199254740992 * 2 ^ K 1074) : tw (val (rung f)) < 1074 ∧ 2 * val (rung f) < 9007199254740992 * 2 ^ K 1074 := by
  unfold wholeB at h
  rw [decide_eq_false_iff_not] at h
  have h1 := (od_tw (val_ne hz)).1
  constructor
  · by_cases h2 : tw (val (rung f)) < 1074
    · exact h2
    · exfalso
      apply h
      rw [h1, show tw (val (rung f)) = tw (val (rung f)) - 1074 + K 1074 by rw [K_eq]; omega, Nat.pow_add, ← Nat.mul_assoc]
      exact Nat.mul_mod_left _ _
  · by_cases h2 : plc (rung f) < 1074
    · have h3 : mag (rung f) < 9007199254740992 := by unfold mag; split <;> omega
      unfold val
      have h4 : 2 * (mag (rung f) * 2 ^ plc (rung f)) = mag (rung f) * 2 ^ (plc (rung f) + 1) := by rw [Nat.pow_succ, Nat.mul_left_comm, Nat.mul_comm 2]
      rw [h4]
      have h5 : 2 ^ (plc (rung f) + 1) ≤ 2 ^ K 1074 := pw_le (plc (rung f) + 1) (K 1074) (by rw [K_eq]; omega)
      exact Nat.lt_of_le_of_lt (Nat.mul_le_mul_left _ h5) (Nat.mul_lt_mul_of_pos_right h3 (two_pos (K 1074)))
    · exfalso
      apply h
      unfold val
      rw [show plc (rung f) = plc (rung f) - 1074 + K 1074 by rw [K_eq]; omega, Nat.pow_add, ← Nat.mul_assoc]
      exact Nat.mul_mod_left _ _
theorem mid_dbl {b f : Nat} {e : Int} (M : Mid b f e) (h : wholeB f = false) (hs : val (rung f) < 9007199254740992 * 2 ^ K 1074) :
    ∃ f', floatBits .mul .f64 4611686018427387904 f = some f' ∧ Mid b f' (e - 1) ∧ val (rung f') < 9007199254740992 * 2 ^ K 1074 ∧ tw (val (rung f')) = tw (val (rung f)) + 1 ∧ tw (val (rung f)) < 1074 := by
  have hn := not_whole M.nz h hs
  have hv0 := val_ne M.nz
  obtain ⟨r, hr⟩ := val_rep (m := mag (rung f)) (by unfold mag; split <;> omega) (plc (rung f) + 1)
  have hr2 : val r = 2 * val (rung f) := by rw [hr]; unfold val; rw [Nat.pow_succ, ← Nat.mul_assoc, Nat.mul_comm]
  have hr0 : 0 < r := by
    rcases Nat.eq_zero_or_pos r with e0 | e0
    · subst e0; rw [val_zero] at hr2; omega
    · exact e0
  have hi : r < 9218868437227405312 := val_lt_iff.1 (small_inf (by rewrite [hr2]; exact hn.2))
  have hp := word_rung (n := neg f) (r := r) (by omega)
  refine ⟨_, dbl_exact M.fi hr0 hi hr2, ⟨?_, ?_, ?_, ?_, ?_, hp.2.2⟩, ?_, ?_, hn.1⟩
  · rw [hp.2.1]; exact M.ng
  · rw [hp.1]; omega
  · rw [hp.1]; exact hi
  · rw [hp.1, hr2, od_half hv0]; exact M.od
  · have := M.tw
    rw [hp.1, hr2, tw_even hv0]; omega
  · rewrite [hp.1, hr2]; exact hn.2
  · rw [hp.1, hr2, tw_even hv0]
theorem mid_end {b f : Nat} {e : Int} (M : Mid b f e) (h : wholeB f = true) (hs : val (rung f) < 9007199254740992 * 2 ^ K 1074) :
    ∃ N, floatToIntVal .f64 f .i64 = some (sgn (neg b) N) ∧ N ≠ 0 ∧ N < 9007199254740992 ∧ od N = od (val (rung b)) ∧ e + (tw N : Int) = powOf b := by
  unfold wholeB at h
  rw [decide_eq_true_eq] at h
  have hd := Nat.div_add_mod (val (rung f)) (2 ^ K 1074)
  have hq : val (rung f) / 2 ^ K 1074 < 9007199254740992 := div_small hs
  rw [h, Nat.add_zero, Nat.mul_comm] at hd
  have hv := val_ne M.nz
  have hN : val (rung f) / 2 ^ K 1074 ≠ 0 := by intro e0; rw [e0, Nat.zero_mul] at hd; omega
  have ht := tw_shift hN (K 1074)
  rw [hd] at ht
  have hK := K_eq 1074
  refine ⟨_, by rw [ipart_eq hs, ipart_sgn, M.ng], hN, hq, by rw [← ht.2]; exact M.od, ?_⟩
  have := M.tw
  unfold powOf
  omega

theorem r_c53 : rung 4845873199050653696 = 4845873199050653696 ∧ neg 4845873199050653696 = false ∧ rung 14069245235905429504 = 4845873199050653696 ∧ neg 14069245235905429504 = true ∧ isNan 4845873199050653696 = false ∧ isNan 14069245235905429504 = false := by decide
theorem big_facts {f : Nat} (fi : rung f < 9218868437227405312) : flt 4845873199050653696 f = (!neg f && decide (4845873199050653696 < rung f)) ∧ feq f 4845873199050653696 = (!neg f && decide (rung f = 4845873199050653696))
    ∧ flt f 14069245235905429504 = (neg f && decide (4845873199050653696 < rung f)) ∧ feq f 14069245235905429504 = (neg f && decide (rung f = 4845873199050653696)) := by
  obtain ⟨h1, h2, h3, h4, h5, h6⟩ := r_c53
  unfold flt feq
  rw [finite_of fi, h5, h6]
  unfold key
  rw [h1, h2, h3, h4]
  refine ⟨?_, ?_, ?_, ?_⟩
  all_goals
    rw [Bool.eq_iff_iff]
    cases neg f <;> simp <;> omega
theorem not_big {f : Nat} (h : rung f < 4845873199050653696) : val (rung f) < 9007199254740992 * 2 ^ K 1074 := by
  have h1 := val_lt h
  have h2 : val 4845873199050653696 = 9007199254740992 * 2 ^ K 1074 := by
    have e : (4845873199050653696 : Nat) = (1075 + 1) * 4503599627370496 + (4503599627370496 - 4503599627370496) := by decide
    rw [e, val_normK (by omega) (by omega), show (4503599627370496 : Nat) = 2 ^ 52 by decide, show (9007199254740992 : Nat) = 2 ^ 53 by decide, pw_split 52 (K 1075) (K 1127) (by rw [K_eq, K_eq]), pw_split 53 (K 1074) (K 1127) (by rw [K_eq, K_eq])]
  omega
end Go.Proofs.YtobechecnkmpaaaDoor
