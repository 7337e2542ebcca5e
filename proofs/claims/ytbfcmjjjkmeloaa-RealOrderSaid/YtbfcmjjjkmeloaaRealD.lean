/- The statements' functions of layer 1 (real): each returns true, for any words of 64 bits. -/
import Derived.Test.YtbfcmjjjkmeloaaRealC
namespace Go.Proofs.Ytbfcmjjjkmeloaa
open Go.RowKit F64

set_option maxHeartbeats 1000000 in
theorem tells_any (a b : Nat) (w : World) (ha : a < 18446744073709551616) (hb : b < 18446744073709551616) : Calls Try.prog 3 #[.float .f64 a, .float .f64 b] w fun e w' => e = .returned (.bool true) ∧ w = w' := by
  go_enter Try.func3, Try.ntmps3
  go_wp2_with (first
    | (go_at_call 7; ((with_reducible refine (kind_any _ _ (by assumption)).mono ?_); rintro e w' ⟨rfl, rfl⟩))
    | (go_at_call 8; ((with_reducible refine (ref_kind_any _ _ (by assumption)).mono ?_); rintro e w' ⟨rfl, rfl⟩))
    | (go_at_call 11; ((with_reducible refine (order_any _ _ _ (by assumption) (by assumption)).mono ?_); rintro e w' ⟨rfl, rfl⟩))
    | (go_at_call 12; ((with_reducible refine (ref_order_any _ _ _ (by assumption) (by assumption)).mono ?_); rintro e w' ⟨rfl, rfl⟩))
    | (go_at_call 9; ((with_reducible refine (same_any _ _ _).mono ?_); rintro e w' ⟨rfl, rfl⟩))
    | (go_at_call 10; ((with_reducible refine (ref_same_any _ _ _ (by assumption) (by assumption)).mono ?_); rintro e w' ⟨rfl, rfl⟩))
    | (go_at_call 13; ((with_reducible refine (works_any _).mono ?_); rintro e w' ⟨rfl, rfl⟩)))
  all_goals (go_ret; exact ⟨rfl, rfl⟩)

theorem canon_lt {a : Nat} (ha : a < 18446744073709551616) : canon a < 18446744073709551616 := by unfold canon; split <;> omega
theorem canon_canon (a : Nat) : canon (canon a) = canon a := by
  have h : canon 9221120237041090561 = 9221120237041090561 := by decide
  by_cases h1 : isNan a = true
  · rw [show canon a = 9221120237041090561 by unfold canon; rw [if_pos h1], h]
  · have e : canon a = a := by unfold canon; rw [if_neg h1]
    rw [e, e]
theorem same_canon (a : Nat) : same (canon a) a = true := by unfold same; rw [canon_canon]; simp
theorem canon_nan {a : Nat} (h : isNan a = true) : canon a = 9221120237041090561 := by unfold canon; rw [if_pos h]

set_option maxHeartbeats 1000000 in
theorem one_any (a b : Nat) (w : World) (ha : a < 18446744073709551616) (hb : b < 18446744073709551616) : Calls Try.prog 4 #[.float .f64 a, .float .f64 b] w fun e w' => e = .returned (.bool true) ∧ w = w' := by
  have hc := canon_lt ha
  have h1 := same_canon a
  have h3 : (((canon a : Nat) : Int) == ((canon b : Nat) : Int)) = same a b := by unfold same; rw [Bool.eq_iff_iff, beq_iff_eq, decide_eq_true_eq]; omega
  have h4 := canon_canon a
  by_cases h0 : isNan a = true
  · have h2 : canon a = 9221120237041090561 := canon_nan h0
    rw [h2] at hc h1 h3 h4
    have h5 : ((9221120237041090561 : Int) == ((canon b : Nat) : Int)) = same a b := h3
    go_enter Try.func4, Try.ntmps4
    go_wp2_with (first
      | (go_at_call 14; ((with_reducible refine (canon_any _ _).mono ?_); rintro e w' ⟨rfl, rfl⟩))
      | (go_at_call 16; ((with_reducible refine (bits_any _ _).mono ?_); rintro e w' ⟨rfl, rfl⟩))
      | (go_at_call 15; ((with_reducible refine (nan_ref _ _).mono ?_); rintro e w' ⟨rfl, rfl⟩))
      | (go_at_call 10; ((with_reducible refine (ref_same_any _ _ _ (by assumption) (by assumption)).mono ?_); rintro e w' ⟨rfl, rfl⟩))
      | (go_at_call 13; ((with_reducible refine (works_any _).mono ?_); rintro e w' ⟨rfl, rfl⟩)))
    all_goals (go_ret; exact ⟨rfl, rfl⟩)
  · go_enter Try.func4, Try.ntmps4
    go_wp2_with (first
      | (go_at_call 14; ((with_reducible refine (canon_any _ _).mono ?_); rintro e w' ⟨rfl, rfl⟩))
      | (go_at_call 16; ((with_reducible refine (bits_any _ _).mono ?_); rintro e w' ⟨rfl, rfl⟩))
      | (go_at_call 15; ((with_reducible refine (nan_ref _ _).mono ?_); rintro e w' ⟨rfl, rfl⟩))
      | (go_at_call 10; ((with_reducible refine (ref_same_any _ _ _ (by assumption) (by assumption)).mono ?_); rintro e w' ⟨rfl, rfl⟩))
      | (go_at_call 13; ((with_reducible refine (works_any _).mono ?_); rintro e w' ⟨rfl, rfl⟩)))
    all_goals (go_ret; exact ⟨rfl, rfl⟩)

theorem ord_flip (a b : Nat) : ord a b = - ord b a := by unfold ord; repeat' split <;> omega
theorem ord_trans (a b c : Nat) (h1 : ord a b ≤ 0) (h2 : ord b c ≤ 0) : ord a c ≤ 0 := by
  unfold ord at *
  repeat' split at h1
  all_goals repeat' split at h2
  all_goals repeat' split
  all_goals omega
theorem ord_small (a b : Nat) : -1 ≤ ord a b ∧ ord a b ≤ 1 := by unfold ord; repeat' split <;> omega
theorem rank_eq {a b : Nat} (ha : a < 18446744073709551616) (hb : b < 18446744073709551616) : rank a = rank b ↔ same a b = true := by
  rcases rank_facts a with ⟨h1, h2⟩ | ⟨h1, h2, h3, h4, h5⟩ | ⟨h1, h2, h3, h4, h5⟩ <;> rcases rank_facts b with ⟨g1, g2⟩ | ⟨g1, g2, g3, g4, g5⟩ | ⟨g1, g2, g3, g4, g5⟩
  case inl.inl => rw [same_nan h1, h2, g2]; simp [g1]
  case inl.inr.inl => rw [same_nan h1, h2, g1]; simp; omega
  case inl.inr.inr => rw [same_nan h1, h2, g1]; simp; omega
  case inr.inl.inl => rw [same_nan' g1, g2, h1]; simp; omega
  case inr.inr.inl => rw [same_nan' g1, g2, h1]; simp; omega
  all_goals
    unfold same canon
    rw [h1, g1]
    simp only [Bool.false_eq_true, if_false, decide_eq_true_eq]
    constructor
    · intro h
      rw [h3, g3] at h
      first
        | (exfalso; omega)
        | (refine word_eq ha hb (h2.trans g2.symm) ?_
           have hk : key a = key b := by omega
           unfold key at hk
           rw [h2, g2] at hk
           simp only [Bool.false_eq_true, if_false, if_true] at hk
           omega)
    · intro h; rw [h]
theorem ord_zero {a b : Nat} (ha : a < 18446744073709551616) (hb : b < 18446744073709551616) : (ord a b == 0) = same a b := by
  rw [Bool.eq_iff_iff, beq_iff_eq, ← rank_eq ha hb]
  unfold ord
  repeat' split <;> omega

set_option maxHeartbeats 1000000 in
theorem orders_any (a b c : Nat) (w : World) (ha : a < 18446744073709551616) (hb : b < 18446744073709551616) (hc : c < 18446744073709551616) : Calls Try.prog 6 #[.float .f64 a, .float .f64 b, .float .f64 c] w fun e w' => e = .returned (.bool true) ∧ w = w' := by
  have h1 : wrap64 (-ord b a) = ord a b := by have := ord_small b a; rw [ord_flip a b, IntWalk.wrap64_in _ (by omega)]
  have h2 := ord_zero ha hb
  have HT := Lib.hid (ord_trans a b c)
  go_enter Try.func6, Try.ntmps6
  go_wp2_with (first
    | (go_at_call 11; ((with_reducible refine (order_any _ _ _ (by assumption) (by assumption)).mono ?_); rintro e w' ⟨rfl, rfl⟩))
    | (go_at_call 10; ((with_reducible refine (ref_same_any _ _ _ (by assumption) (by assumption)).mono ?_); rintro e w' ⟨rfl, rfl⟩))
    | (go_at_call 13; ((with_reducible refine (works_any _).mono ?_); rintro e w' ⟨rfl, rfl⟩)))
  all_goals first
    | (exfalso; have h3 := HT.out; omega)
    | (go_ret
       refine ⟨ret_bool ?_, rfl⟩
       first | rfl | (have h3 := HT.out; simp only [Bool.or_eq_true, decide_eq_true_eq]; omega))

theorem sum_comm (a b : Nat) : floatBits .add .f64 a b = floatBits .add .f64 b a := add_comm a b
theorem sum_zero {a : Nat} (ha : a < 18446744073709551616) (h : isNan a = false) : floatBits .add .f64 a 0 = some (if a = 9223372036854775808 then 0 else a) := add_zero ha h
theorem sum_nan {a b : Nat} (h : isNan a = true) : floatBits .add .f64 a b = none := add_nan h
theorem sum_lt {a b r : Nat} (h : floatBits .add .f64 a b = some r) : r < 18446744073709551616 := by
  have := floatBits_wf h
  simpa [Lit.wf] using this
theorem same_refl (a : Nat) : same a a = true := by unfold same; simp
theorem kind_three (a : Nat) (ha : a < 18446744073709551616) : kind a = 3 ↔ a = 9223372036854775808 := by
  constructor
  · intro h
    have h2 := (kd a)
    rcases h2 with h2 | h2 | h2 | h2 | h2 | h2 | h2
    all_goals try omega
    rcases zero_of ha h2.2.2.2.1 with rfl | rfl
    · have := h2.2.2.2.2.1; revert this; decide
    · rfl
  · rintro rfl; decide

set_option maxHeartbeats 2000000 in
theorem sums_some (a b r : Nat) (w : World) (ha : a < 18446744073709551616) (h : floatBits .add .f64 a b = some r) : Calls Try.prog 5 #[.float .f64 a, .float .f64 b] w fun e w' => e = .returned (.bool true) ∧ w = w' := by
  have hr : ∀ w, (binOp .add 22 (.float .f64 a) (.float .f64 b)).run Try.prog w = .ok (.float .f64 r) w := fun w => run_float_arith w .add _ .f64 _ _ _ h
  have hna : isNan a = false := by cases hn : isNan a; rfl; rw [sum_nan hn] at h; cases h
  have HZ := Lib.hid (sum_zero ha hna)
  have HS := Lib.hid h
  have HS' := Lib.hid (show floatBits .add .f64 b a = some r by rw [sum_comm]; exact h)
  have hl := sum_lt h
  have hl' := canon_lt hl
  have h1 := same_canon r
  have h2 := same_refl (canon r)
  clear h hna
  by_cases hm : a = 9223372036854775808
  · subst hm
    have hk : kind 9223372036854775808 = 3 := by decide
    have HZ' : Hid (floatBits .add .f64 9223372036854775808 0 = some 0) := Lib.hid HZ.out
    have hq : same (canon 0) 0 = true := by decide
    have hcz : canon 0 < 18446744073709551616 := by decide
    clear HZ
    go_enter Try.func5, Try.ntmps5
    go_wp2_with (first
      | (go_at_call 17; ((with_reducible refine (add_some _ _ _ _ HS.out).mono ?_); rintro e w' ⟨rfl, rfl⟩))
      | (go_at_call 17; ((with_reducible refine (add_some _ _ _ _ HS'.out).mono ?_); rintro e w' ⟨rfl, rfl⟩))
      | (go_at_call 17; ((with_reducible refine (add_some _ _ _ _ HZ'.out).mono ?_); rintro e w' ⟨rfl, rfl⟩))
      | (go_at_call 8; ((with_reducible refine (ref_kind_any _ _ (by assumption)).mono ?_); rintro e w' ⟨rfl, rfl⟩))
      | (go_at_call 10; ((with_reducible refine (ref_same_any _ _ _ (by first | assumption | decide) (by first | assumption | decide)).mono ?_); rintro e w' ⟨rfl, rfl⟩))
      | (go_at_call 13; ((with_reducible refine (works_any _).mono ?_); rintro e w' ⟨rfl, rfl⟩)))
    all_goals (go_ret; exact ⟨rfl, rfl⟩)
  · have hk : (kind a == 3) = false := by rw [beq_eq_false_iff_ne]; intro e; exact hm ((kind_three a ha).1 e)
    have HZ' : Hid (floatBits .add .f64 a 0 = some a) := Lib.hid (by rw [HZ.out, if_neg hm])
    have hq := same_canon a
    have hca := canon_lt ha
    clear HZ hm
    go_enter Try.func5, Try.ntmps5
    go_wp2_with (first
      | (go_at_call 17; ((with_reducible refine (add_some _ _ _ _ HS.out).mono ?_); rintro e w' ⟨rfl, rfl⟩))
      | (go_at_call 17; ((with_reducible refine (add_some _ _ _ _ HS'.out).mono ?_); rintro e w' ⟨rfl, rfl⟩))
      | (go_at_call 17; ((with_reducible refine (add_some _ _ _ _ HZ'.out).mono ?_); rintro e w' ⟨rfl, rfl⟩))
      | (go_at_call 8; ((with_reducible refine (ref_kind_any _ _ (by assumption)).mono ?_); rintro e w' ⟨rfl, rfl⟩))
      | (go_at_call 10; ((with_reducible refine (ref_same_any _ _ _ (by first | assumption | decide) (by first | assumption | decide)).mono ?_); rintro e w' ⟨rfl, rfl⟩))
      | (go_at_call 13; ((with_reducible refine (works_any _).mono ?_); rintro e w' ⟨rfl, rfl⟩)))
    all_goals (go_ret; exact ⟨rfl, rfl⟩)

theorem same_nb (a b : Nat) (w : World) : same 9221120237041090561 (nb a b w) = true := by
  rw [same_nan (by decide)]; exact (nb_nan a b w).1

set_option maxHeartbeats 2000000 in
theorem sums_none (a b : Nat) (w : World) (ha : a < 18446744073709551616) (h : floatBits .add .f64 a b = none) : Calls Try.prog 5 #[.float .f64 a, .float .f64 b] w fun e w' => e = .returned (.bool true) ∧ ∃ n, w' = w.drewN n := by
  have hr : ∀ w, (binOp .add 22 (.float .f64 a) (.float .f64 b)).run Try.prog w = .ok (.float .f64 (nb a b w)) w.drew := fun w => run_nan .add _ _ _ w (.inl rfl) h
  have HS := Lib.hid h
  have HS' := Lib.hid (show floatBits .add .f64 b a = none by rw [sum_comm]; exact h)
  have HN := Lib.hid (fun w => (nb_nan a b w).2)
  have h1 := same_nb a b
  have h2 : same 9221120237041090561 9221120237041090561 = true := by decide
  clear h
  by_cases hna : isNan a = true
  · have hk : kind a = 0 := by rcases kd a with h | h | h | h | h | h | h <;> simp_all
    have h3 : same 9221120237041090561 a = true := by rw [same_nan (by decide)]; exact hna
    have HZ' : Hid (floatBits .add .f64 a 0 = none) := Lib.hid (sum_nan hna)
    clear hna
    go_enter Try.func5, Try.ntmps5
    go_wp2_with (first
      | (go_at_call 17; ((with_reducible refine (add_none _ _ _ HS.out).mono ?_); rintro e w' ⟨rfl, rfl⟩))
      | (go_at_call 17; ((with_reducible refine (add_none _ _ _ HS'.out).mono ?_); rintro e w' ⟨rfl, rfl⟩))
      | (go_at_call 17; ((with_reducible refine (add_none _ _ _ HZ'.out).mono ?_); rintro e w' ⟨rfl, rfl⟩))
      | (go_at_call 8; ((with_reducible refine (ref_kind_any _ _ (by assumption)).mono ?_); rintro e w' ⟨rfl, rfl⟩))
      | (go_at_call 10; ((with_reducible refine (ref_same_any _ _ _ (by first | assumption | decide | exact HN.out _) (by first | assumption | decide | exact HN.out _)).mono ?_); rintro e w' ⟨rfl, rfl⟩))
      | (go_at_call 13; ((with_reducible refine (works_any _).mono ?_); rintro e w' ⟨rfl, rfl⟩)))
    all_goals (go_ret; first | exact ⟨rfl, ⟨3, rfl⟩⟩ | exact ⟨rfl, ⟨4, rfl⟩⟩)
  · have HZ := Lib.hid (sum_zero ha (by simpa using hna))
    by_cases hm : a = 9223372036854775808
    · subst hm
      have hk : kind 9223372036854775808 = 3 := by decide
      have HZ' : Hid (floatBits .add .f64 9223372036854775808 0 = some 0) := Lib.hid HZ.out
      have hq : same (canon 0) 0 = true := by decide
      have hcz : canon 0 < 18446744073709551616 := by decide
      clear HZ hna
      go_enter Try.func5, Try.ntmps5
      go_wp2_with (first
        | (go_at_call 17; ((with_reducible refine (add_none _ _ _ HS.out).mono ?_); rintro e w' ⟨rfl, rfl⟩))
        | (go_at_call 17; ((with_reducible refine (add_none _ _ _ HS'.out).mono ?_); rintro e w' ⟨rfl, rfl⟩))
        | (go_at_call 17; ((with_reducible refine (add_some _ _ _ _ HZ'.out).mono ?_); rintro e w' ⟨rfl, rfl⟩))
        | (go_at_call 8; ((with_reducible refine (ref_kind_any _ _ (by assumption)).mono ?_); rintro e w' ⟨rfl, rfl⟩))
        | (go_at_call 10; ((with_reducible refine (ref_same_any _ _ _ (by first | assumption | decide | exact HN.out _) (by first | assumption | decide | exact HN.out _)).mono ?_); rintro e w' ⟨rfl, rfl⟩))
        | (go_at_call 13; ((with_reducible refine (works_any _).mono ?_); rintro e w' ⟨rfl, rfl⟩)))
      all_goals (go_ret; first | exact ⟨rfl, ⟨3, rfl⟩⟩ | exact ⟨rfl, ⟨4, rfl⟩⟩)
    · have hk : (kind a == 3) = false := by rw [beq_eq_false_iff_ne]; intro e; exact hm ((kind_three a ha).1 e)
      have HZ' : Hid (floatBits .add .f64 a 0 = some a) := Lib.hid (by rw [HZ.out, if_neg hm])
      have hq := same_canon a
      have hca := canon_lt ha
      clear HZ hm hna
      go_enter Try.func5, Try.ntmps5
      go_wp2_with (first
        | (go_at_call 17; ((with_reducible refine (add_none _ _ _ HS.out).mono ?_); rintro e w' ⟨rfl, rfl⟩))
        | (go_at_call 17; ((with_reducible refine (add_none _ _ _ HS'.out).mono ?_); rintro e w' ⟨rfl, rfl⟩))
        | (go_at_call 17; ((with_reducible refine (add_some _ _ _ _ HZ'.out).mono ?_); rintro e w' ⟨rfl, rfl⟩))
        | (go_at_call 8; ((with_reducible refine (ref_kind_any _ _ (by assumption)).mono ?_); rintro e w' ⟨rfl, rfl⟩))
        | (go_at_call 10; ((with_reducible refine (ref_same_any _ _ _ (by first | assumption | decide | exact HN.out _) (by first | assumption | decide | exact HN.out _)).mono ?_); rintro e w' ⟨rfl, rfl⟩))
        | (go_at_call 13; ((with_reducible refine (works_any _).mono ?_); rintro e w' ⟨rfl, rfl⟩)))
      all_goals (go_ret; first | exact ⟨rfl, ⟨3, rfl⟩⟩ | exact ⟨rfl, ⟨4, rfl⟩⟩)


theorem sums_any (a b : Nat) (w : World) (ha : a < 18446744073709551616) : Calls Try.prog 5 #[.float .f64 a, .float .f64 b] w fun e w' => e = .returned (.bool true) ∧ ∃ n, w' = w.drewN n := by
  cases h : floatBits .add .f64 a b with
  | none => exact sums_none a b w ha h
  | some r => exact (sums_some a b r w ha h).mono fun e w' ⟨he, hw⟩ => ⟨he, 0, hw.symm⟩
end Go.Proofs.Ytbfcmjjjkmeloaa
