/- What the small functions of layer 1 (real) and of the document's answer give, for any words of 64 bits. -/
import Derived.Test.YthcejcffnjhomaaGreatChecked
import Derived.Test.YthcejcffnjhomaaGreatF64
import Derived.WalkKit
import Derived.WalkSpells
import Derived.Lib.Hide
import Derived.Laws.Cover2
import Derived.Laws.FloatArith
import Derived.KernelRfl
namespace Go.Proofs.YthcejcffnjhomaaGreat
open Go.RowKit F64

@[go_sem] theorem lss_f (a b : Nat) : (FloatKind.f64.format.order a b == some Ordering.lt) = flt a b := lss_eq a b
@[go_sem] theorem gtr_f (a b : Nat) : (FloatKind.f64.format.order a b == some Ordering.gt) = flt b a := gtr_eq a b
@[go_sem] theorem eql_f (a b : Nat) : (FloatKind.f64.format.order a b == some Ordering.eq) = feq a b := eql_eq a b
@[go_sem] theorem neq_f (a b : Nat) : (FloatKind.f64.format.order a b != some Ordering.eq) = !feq a b := neq_eq a b

theorem nan_ref (b : Nat) (w : World) : Calls Tryz.prog 131 #[.float .f64 b] w fun e w' => e = .returned (.bool (isNan b)) ∧ w = w' := by
  go_enter Tryz.func131, Tryz.ntmps131
  go_wp2
  all_goals (go_ret; exact ⟨by rw [feq_self]; simp, rfl⟩)

theorem isnan (b : Nat) (w : World) : Calls Tryz.prog 145 #[.float .f64 b] w fun e w' => e = .returned (.bool (isNan b)) ∧ w = w' := by
  go_enter Tryz.func145, Tryz.ntmps145
  go_wp2
  all_goals (go_ret; exact ⟨by rw [feq_self]; simp, rfl⟩)

@[go_sem] theorem ext_bits (b : Nat) (w : World) : (callFunc 143 #[.float .f64 b]).run Tryz.prog w = .ok (.value (.int .u64 b)) w := by
  rw [run_callFunc_extern (fn := Tryz.f143) (e := Extern.MathFloatBits.float64bits) (by kernel_rfl) (by kernel_rfl) (by kernel_rfl) (by kernel_rfl) (by kernel_rfl)]
  rfl
@[go_sem] theorem ext_from (n : Int) (w : World) : (callFunc 146 #[.int .u64 n]).run Tryz.prog w = .ok (.value (.float .f64 n.toNat)) w := by
  rw [run_callFunc_extern (fn := Tryz.f146) (e := Extern.MathFloatBits.float64frombits) (by kernel_rfl) (by kernel_rfl) (by kernel_rfl) (by kernel_rfl) (by kernel_rfl)]
  rfl

theorem wrap_neg {b : Nat} (hb : b < 18446744073709551616) : decide (wrap64 (b : Int) < 0) = neg b := by
  have h := neg_iff b hb
  unfold wrap64
  rw [Bool.eq_iff_iff, h, decide_eq_true_eq]; omega
theorem ret_bool {a b : Bool} (h : a = b) : Ending.returned (.bool a) = .returned (.bool b) := by rw [h]
theorem ret_float {a b : Nat} (h : a = b) : Ending.returned (.float .f64 a) = .returned (.float .f64 b) := by rw [h]
theorem ret_int {a b : Int} (h : a = b) : Ending.returned (.int .i64 a) = .returned (.int .i64 b) := by rw [h]

def canon (b : Nat) : Nat := if isNan b then 9221120237041090561 else b

theorem canon_any (b : Nat) (w : World) : Calls Tryz.prog 144 #[.float .f64 b] w fun e w' => e = .returned (.float .f64 (canon b)) ∧ w = w' := by
  cases h : isNan b
  all_goals
    go_enter Tryz.func144, Tryz.ntmps144
    go_wp2_with (go_at_call 145; ((with_reducible refine (isnan _ _).mono ?_); rintro e w' ⟨rfl, rfl⟩))
    go_ret
    exact ⟨by simp [canon, h], rfl⟩
theorem bits_any (b : Nat) (w : World) : Calls Tryz.prog 142 #[.float .f64 b] w fun e w' => e = .returned (.int .u64 (canon b)) ∧ w = w' := by
  go_enter Tryz.func142, Tryz.ntmps142
  go_wp2_with (go_at_call 144; ((with_reducible refine (canon_any _ _).mono ?_); rintro e w' ⟨rfl, rfl⟩))
  go_ret
  exact ⟨rfl, rfl⟩

def same (a b : Nat) : Bool := decide (canon a = canon b)
theorem same_any (a b : Nat) (w : World) : Calls Tryz.prog 141 #[.float .f64 a, .float .f64 b] w fun e w' => e = .returned (.bool (same a b)) ∧ w = w' := by
  go_enter Tryz.func141, Tryz.ntmps141
  go_wp2_with (go_at_call 142; ((with_reducible refine (bits_any _ _).mono ?_); rintro e w' ⟨rfl, rfl⟩))
  go_ret
  exact ⟨ret_bool (by unfold same; rw [Bool.eq_iff_iff, beq_iff_eq, decide_eq_true_eq]; omega), rfl⟩

/-- The kinds, by the key. -/
def kind (b : Nat) : Int :=
  if isNan b then 0 else if key b = -9218868437227405312 then 1 else if key b < 0 then 2
  else if key b = 0 then (if neg b then 3 else 4) else if key b < 9218868437227405312 then 5 else 6

theorem k_minf : key 18442240474082181119 = -9218868437227405311 := by decide
theorem k_pmax : key 9218868437227405311 = 9218868437227405311 := by decide
theorem k_zero : key 0 = 0 := by decide
theorem n_minf : isNan 18442240474082181119 = false := by decide
theorem n_pmax : isNan 9218868437227405311 = false := by decide
theorem n_zero : isNan 0 = false := by decide
theorem key_range {b : Nat} (h : isNan b = false) : -9218868437227405312 ≤ key b ∧ key b ≤ 9218868437227405312 := by
  unfold isNan at h; unfold key
  simp only [decide_eq_false_iff_not] at h
  split <;> omega
theorem kd (b : Nat) : (isNan b = true ∧ kind b = 0) ∨ (isNan b = false ∧ flt b 18442240474082181119 = true ∧ kind b = 1)
    ∨ (isNan b = false ∧ flt b 18442240474082181119 = false ∧ flt b 0 = true ∧ kind b = 2)
    ∨ (isNan b = false ∧ flt b 18442240474082181119 = false ∧ flt b 0 = false ∧ feq b 0 = true ∧ neg b = true ∧ kind b = 3)
    ∨ (isNan b = false ∧ flt b 18442240474082181119 = false ∧ flt b 0 = false ∧ feq b 0 = true ∧ neg b = false ∧ kind b = 4)
    ∨ (isNan b = false ∧ flt b 18442240474082181119 = false ∧ flt b 0 = false ∧ feq b 0 = false ∧ (flt b 9218868437227405311 = true ∨ feq b 9218868437227405311 = true) ∧ kind b = 5)
    ∨ (isNan b = false ∧ flt b 18442240474082181119 = false ∧ flt b 0 = false ∧ feq b 0 = false ∧ (flt b 9218868437227405311 = false ∧ feq b 9218868437227405311 = false) ∧ kind b = 6) := by
  unfold kind flt feq
  rw [k_minf, k_pmax, k_zero, n_minf, n_pmax, n_zero]
  cases h : isNan b
  · have hr := key_range h
    cases hn : neg b
    all_goals
      simp only [Bool.not_false, Bool.true_and, Bool.false_eq_true, Bool.true_eq_false, if_false, if_true, false_and, and_false, false_or, true_and, decide_eq_true_eq, decide_eq_false_iff_not]
      repeat' split
      all_goals omega
  · simp

theorem kind_ge (b : Nat) : ((0 : Nat) : Int) ≤ kind b := by unfold kind; repeat' split <;> omega

@[go_sem] theorem unary_neg_f (k : FloatKind) (b : Nat) : Op.unary .neg (.float k b) = pure (.float k (Op.negFloat k b)) := rfl
theorem div_zero (w : World) (b : Nat) (h : b = 0 ∨ b = 9223372036854775808) : (binOp .quo 99 (.float .f64 4607182418800017408) (.float .f64 b)).run Tryz.prog w = .ok (.float .f64 (if neg b then 18442240474082181120 else 9218868437227405312)) w := by
  rcases h with rfl | rfl
  · exact run_float_arith w .quo _ .f64 _ _ _ (by decide)
  · exact run_float_arith w .quo _ .f64 _ _ _ (by decide)

theorem twice (k : Nat) (hk : k < 1023) : floatBits .mul .f64 4611686018427387904 ((1023 + k) * 4503599627370496) = some ((1024 + k) * 4503599627370496) := by
  have h : ∀ k, k < 1023 → floatBits .mul .f64 4611686018427387904 ((1023 + k) * 4503599627370496) = some ((1024 + k) * 4503599627370496) := by decide +kernel
  exact h k hk
end Go.Proofs.YthcejcffnjhomaaGreat
