/- The order, the sum and the probes of layer 1 (real): what each gives for any words of 64 bits. -/
import Derived.Test.YtbfcmjjjkmeloaaRealB
namespace Go.Proofs.Ytbfcmjjjkmeloaa
open Go.RowKit F64

set_option maxHeartbeats 1000000 in
theorem order_any (a b : Nat) (w : World) (ha : a < 18446744073709551616) (hb : b < 18446744073709551616) : Calls Try.prog 11 #[.float .f64 a, .float .f64 b] w fun e w' => e = .returned (.int .i64 (ord a b)) ∧ w = w' := by
  have hp := Lib.hid (ord_prog a b)
  go_enter Try.func11, Try.ntmps11
  go_wp2_with (go_at_call 7; ((with_reducible refine (kind_any _ _ (by assumption)).mono ?_); rintro e w' ⟨rfl, rfl⟩))
  all_goals
    go_ret
    refine ⟨ret_int ?_, rfl⟩
    have h := hp.out
    first
      | exact (h.1 (by first | assumption | exact .inl (by assumption))).symm
      | exact (h.2.1 (fun x => by rcases x with x | x <;> simp_all <;> omega) (by first | assumption | exact .inl (by assumption))).symm
      | exact (h.2.2 (fun x => by rcases x with x | x <;> simp_all <;> omega) (fun x => by rcases x with x | x <;> simp_all <;> omega)).symm

set_option maxHeartbeats 1000000 in
theorem ref_order_any (a b : Nat) (w : World) (ha : a < 18446744073709551616) (hb : b < 18446744073709551616) : Calls Try.prog 12 #[.float .f64 a, .float .f64 b] w fun e w' => e = .returned (.int .i64 (ord a b)) ∧ w = w' := by
  have hp := Lib.hid (ord_ref a b)
  go_enter Try.func12, Try.ntmps12
  go_wp2_with (go_at_call 8; ((with_reducible refine (ref_kind_any _ _ (by assumption)).mono ?_); rintro e w' ⟨rfl, rfl⟩))
  all_goals
    go_ret
    refine ⟨ret_int ?_, rfl⟩
    have h := hp.out
    by_cases hk : kind a = kind b
    · have h := h.2 hk
      simp_all
    · have h := h.1 hk
      split at h <;> first | (rw [h]; done) | (exfalso; omega) | (exfalso; simp_all; done)

/-- A valid sum. -/
theorem add_some (a b r : Nat) (w : World) (h : floatBits .add .f64 a b = some r) : Calls Try.prog 17 #[.float .f64 a, .float .f64 b] w fun e w' => e = .returned (.float .f64 (canon r)) ∧ w = w' := by
  have hr : ∀ w, (binOp .add 22 (.float .f64 a) (.float .f64 b)).run Try.prog w = .ok (.float .f64 r) w := fun w => run_float_arith w .add _ .f64 _ _ _ h
  clear h
  go_enter Try.func17, Try.ntmps17
  go_wp2_with (go_at_call 14; ((with_reducible refine (canon_any _ _).mono ?_); rintro e w' ⟨rfl, rfl⟩))
  go_ret
  exact ⟨rfl, rfl⟩
/-- The NaN that an invalid operation gives: the tape's. -/
def nb (a b : Nat) (w : World) : Nat := (Question.nanBits .f64 a b).cut (w.tape w.drawn (.nanBits .f64 a b))
theorem nb_nan (a b : Nat) (w : World) : isNan (nb a b w) = true ∧ nb a b w < 18446744073709551616 := by
  unfold nb Question.cut isNan rung
  simp only [decide_eq_true_eq]
  generalize w.tape w.drawn (Question.nanBits FloatKind.f64 a b) = t
  have h2 : (2 : Nat) ^ 63 = 9223372036854775808 := by decide
  have h3 : (2 : Nat) ^ 52 = 4503599627370496 := by decide
  rw [h2, h3]
  have h1 : t / 2 % (4503599627370496 - 1) < 4503599627370495 := Nat.mod_lt _ (by omega)
  have h4 : t % 2 < 2 := Nat.mod_lt _ (by omega)
  generalize t / 2 % (4503599627370496 - 1) = u at h1
  generalize t % 2 = v at h4
  have : v = 0 ∨ v = 1 := by omega
  rcases this with rfl | rfl <;> omega
theorem run_nan {P : Program} (op : BinOp) (t : TypeId) (a b : Nat) (w : World) (hop : op = .add ∨ op = .sub ∨ op = .mul ∨ op = .quo) (h : floatBits op .f64 a b = none) :
    (binOp op t (.float .f64 a) (.float .f64 b)).run P w = .ok (.float .f64 (nb a b w)) w.drew := by
  unfold floatBits at h
  rcases hop with rfl | rfl | rfl | rfl
  all_goals
    simp only at h
    simp [binOp, Op.floatArith, h, nb, Question.forced]

theorem add_none (a b : Nat) (w : World) (h : floatBits .add .f64 a b = none) : Calls Try.prog 17 #[.float .f64 a, .float .f64 b] w fun e w' => e = .returned (.float .f64 9221120237041090561) ∧ w' = w.drew := by
  have hr : ∀ w, (binOp .add 22 (.float .f64 a) (.float .f64 b)).run Try.prog w = .ok (.float .f64 (nb a b w)) w.drew := fun w => run_nan .add _ _ _ w (.inl rfl) h
  clear h
  have hn := Lib.hid (nb_nan a b w).1
  go_enter Try.func17, Try.ntmps17
  go_wp2_with (go_at_call 14; ((with_reducible refine (canon_any _ _).mono ?_); rintro e w' ⟨rfl, rfl⟩))
  go_ret
  exact ⟨ret_float (by unfold canon; rw [hn.out]; rfl), rfl⟩

set_option maxHeartbeats 1000000 in
theorem works_any (w : World) : Calls Try.prog 13 #[] w fun e w' => e = .returned (.bool true) ∧ w = w' := by
  have d1 : ∀ w, (binOp .quo 22 (.float .f64 13830554455654793216) (.float .f64 0)).run Try.prog w = .ok (.float .f64 18442240474082181120) w := fun w => run_float_arith w .quo _ .f64 _ _ _ (by decide)
  have d2 : ∀ w, (binOp .quo 22 (.float .f64 4607182418800017408) (.float .f64 18442240474082181120)).run Try.prog w = .ok (.float .f64 9223372036854775808) w := fun w => run_float_arith w .quo _ .f64 _ _ _ (by decide)
  have d3 : ∀ w, (binOp .quo 22 (.float .f64 4607182418800017408) (.float .f64 0)).run Try.prog w = .ok (.float .f64 9218868437227405312) w := fun w => run_float_arith w .quo _ .f64 _ _ _ (by decide)
  have k1 : kind 9223372036854775808 = 3 := by decide
  have k2 : kind 9218868437227405312 = 6 := by decide
  have k3 : ord 4607182418800017408 4611686018427387904 = -1 := by decide
  have k4 : same 4604930618986332160 4604930618986332160 = true := by decide
  have k5 : canon 4607182418800017408 = 4607182418800017408 := by decide
  have k6 : canon 4604930618986332160 = 4604930618986332160 := by decide
  go_enter Try.func13, Try.ntmps13
  go_wp2_with (first
    | (go_at_call 7; ((with_reducible refine (kind_any _ _ (by decide)).mono ?_); rintro e w' ⟨rfl, rfl⟩))
    | (go_at_call 11; ((with_reducible refine (order_any _ _ _ (by decide) (by decide)).mono ?_); rintro e w' ⟨rfl, rfl⟩))
    | (go_at_call 9; ((with_reducible refine (same_any _ _ _).mono ?_); rintro e w' ⟨rfl, rfl⟩))
    | (go_at_call 17; ((with_reducible refine (add_some _ _ 4604930618986332160 _ (by decide)).mono ?_); rintro e w' ⟨rfl, rfl⟩))
    | (go_at_call 16; ((with_reducible refine (bits_any _ _).mono ?_); rintro e w' ⟨rfl, rfl⟩)))
  go_ret
  exact ⟨rfl, rfl⟩
end Go.Proofs.Ytbfcmjjjkmeloaa
