/- The statements' functions of layer 1 (real): each returns true, for any words of 64 bits. -/
import Derived.Test.YtdnabghhjlhjoaaRealC
namespace Go.Proofs.Ytdnabghhjlhjoaa
open Go.RowKit F64


theorem canon_lt {a : Nat} (ha : a < 18446744073709551616) : canon a < 18446744073709551616 := by unfold canon; split <;> omega
theorem canon_canon (a : Nat) : canon (canon a) = canon a := by
  have h : canon 9221120237041090561 = 9221120237041090561 := by decide
  by_cases h1 : isNan a = true
  · rw [show canon a = 9221120237041090561 by unfold canon; rw [if_pos h1], h]
  · have e : canon a = a := by unfold canon; rw [if_neg h1]
    rw [e, e]
theorem same_canon (a : Nat) : same (canon a) a = true := by unfold same; rw [canon_canon]; simp
theorem canon_nan {a : Nat} (h : isNan a = true) : canon a = 9221120237041090561 := by unfold canon; rw [if_pos h]


theorem ord_flip (a b : Nat) : ord a b = - ord b a := by unfold ord; repeat' split <;> omega
theorem ord_trans (a b c : Nat) (h1 : ord a b ≤ 0) (h2 : ord b c ≤ 0) : ord a c ≤ 0 := by
  unfold ord at *
  repeat' split at h1
  all_goals repeat' split at h2
  all_goals repeat' split
  all_goals omega
theorem ord_small (a b : Nat) : -1 ≤ ord a b ∧ ord a b ≤ 1 := by unfold ord; repeat' split <;> omega
theorem rank_eq {a b : Nat} (ha : a < 18446744073709551616) (hb : b < 18446744073709551616) : rank a = rank b ↔ same a b = true := by
  rcases rank_facts a with ⟨h1, h2⟩ | ⟨h1, h2, h3, h4, h5⟩ | ⟨h1, h2, h3, h4, h5⟩ <;> rcases rank_facts b with ⟨g1, g2⟩ | ⟨g1, g2, g3, g4, g5⟩ | ⟨g1, g2, g3, g4, g5⟩
  case inl.inl => rw [same_nan h1, h2, g2]; simp [g1]
  case inl.inr.inl => rw [same_nan h1, h2, g1]; simp; omega
  case inl.inr.inr => rw [same_nan h1, h2, g1]; simp; omega
  case inr.inl.inl => rw [same_nan' g1, g2, h1]; simp; omega
  case inr.inr.inl => rw [same_nan' g1, g2, h1]; simp; omega
  all_goals
    unfold same canon
    rw [h1, g1]
    simp only [Bool.false_eq_true, if_false, decide_eq_true_eq]
    constructor
    · intro h
      rw [h3, g3] at h
      first
        | (exfalso; omega)
        | (refine word_eq ha hb (h2.trans g2.symm) ?_
           have hk : key a = key b := by omega
           unfold key at hk
           rw [h2, g2] at hk
           simp only [Bool.false_eq_true, if_false, if_true] at hk
           omega)
    · intro h; rw [h]
theorem ord_zero {a b : Nat} (ha : a < 18446744073709551616) (hb : b < 18446744073709551616) : (ord a b == 0) = same a b := by
  rw [Bool.eq_iff_iff, beq_iff_eq, ← rank_eq ha hb]
  unfold ord
  repeat' split <;> omega


theorem sum_comm (a b : Nat) : floatBits .add .f64 a b = floatBits .add .f64 b a := add_comm a b
theorem sum_zero {a : Nat} (ha : a < 18446744073709551616) (h : isNan a = false) : floatBits .add .f64 a 0 = some (if a = 9223372036854775808 then 0 else a) := add_zero ha h
theorem sum_nan {a b : Nat} (h : isNan a = true) : floatBits .add .f64 a b = none := add_nan h
theorem sum_lt {a b r : Nat} (h : floatBits .add .f64 a b = some r) : r < 18446744073709551616 := by
  have := floatBits_wf h
  simpa [Lit.wf] using this
theorem same_refl (a : Nat) : same a a = true := by unfold same; simp
theorem kind_three (a : Nat) (ha : a < 18446744073709551616) : kind a = 3 ↔ a = 9223372036854775808 := by
  constructor
  · intro h
    have h2 := (kd a)
    rcases h2 with h2 | h2 | h2 | h2 | h2 | h2 | h2
    all_goals try omega
    rcases zero_of ha h2.2.2.2.1 with rfl | rfl
    · have := h2.2.2.2.2.1; revert this; decide
    · rfl
  · rintro rfl; decide


theorem same_nb (a b : Nat) (w : World) : same 9221120237041090561 (nb a b w) = true := by
  rw [same_nan (by decide)]; exact (nb_nan a b w).1



end Go.Proofs.Ytdnabghhjlhjoaa
