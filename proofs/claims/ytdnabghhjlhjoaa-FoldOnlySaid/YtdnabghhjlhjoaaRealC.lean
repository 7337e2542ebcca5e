/- The order, the sum and the probes of layer 1 (real): what each gives for any words of 64 bits. -/
import Derived.Test.YtdnabghhjlhjoaaRealB
import Derived.Test.YtdnabghhjlhjoaaNan
namespace Go.Proofs.Ytdnabghhjlhjoaa
open Go.RowKit F64



/-- A valid sum. -/
theorem add_some (a b r : Nat) (w : World) (h : floatBits .add .f64 a b = some r) : Calls Try.prog 52 #[.float .f64 a, .float .f64 b] w fun e w' => e = .returned (.float .f64 (canon r)) ∧ w = w' := by
  have hr : ∀ w, (binOp .add 28 (.float .f64 a) (.float .f64 b)).run Try.prog w = .ok (.float .f64 r) w := fun w => run_float_arith w .add _ .f64 _ _ _ h
  clear h
  go_enter Try.func52, Try.ntmps52
  go_wp2_with (go_at_call 55; ((with_reducible refine (canon_any _ _).mono ?_); rintro e w' ⟨rfl, rfl⟩))
  go_ret
  exact ⟨rfl, rfl⟩
theorem add_none (a b : Nat) (w : World) (h : floatBits .add .f64 a b = none) : Calls Try.prog 52 #[.float .f64 a, .float .f64 b] w fun e w' => e = .returned (.float .f64 9221120237041090561) ∧ w' = w.drew := by
  have hr : ∀ w, (binOp .add 28 (.float .f64 a) (.float .f64 b)).run Try.prog w = .ok (.float .f64 (nb a b w)) w.drew := fun w => run_nan .add _ _ _ w (.inl rfl) h
  clear h
  have hn := Lib.hid (nb_nan a b w).1
  go_enter Try.func52, Try.ntmps52
  go_wp2_with (go_at_call 55; ((with_reducible refine (canon_any _ _).mono ?_); rintro e w' ⟨rfl, rfl⟩))
  go_ret
  exact ⟨ret_float (by unfold canon; rw [hn.out]; rfl), rfl⟩

end Go.Proofs.Ytdnabghhjlhjoaa
