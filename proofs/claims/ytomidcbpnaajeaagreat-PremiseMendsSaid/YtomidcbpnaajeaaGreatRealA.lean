/- What the small functions of layer 1 (real) and of the document's answer give, for any words of 64 bits. -/
import Derived.Test.YtomidcbpnaajeaaGreatChecked
import Derived.Test.YtomidcbpnaajeaaGreatF64
import Derived.WalkKit
import Derived.WalkSpells
import Derived.Lib.Hide
import Derived.Laws.Cover2
import Derived.Laws.FloatArith
import Derived.KernelRfl
import Derived.LoopTactic
import Derived.IntWalk
import Derived.Deep.QuietTactic
import Derived.BigQuiet
namespace Go.Proofs.YtomidcbpnaajeaaGreat
open Go.RowKit F64

@[go_sem] theorem lss_f (a b : Nat) : (FloatKind.f64.format.order a b == some Ordering.lt) = flt a b := lss_eq a b
@[go_sem] theorem gtr_f (a b : Nat) : (FloatKind.f64.format.order a b == some Ordering.gt) = flt b a := gtr_eq a b
@[go_sem] theorem eql_f (a b : Nat) : (FloatKind.f64.format.order a b == some Ordering.eq) = feq a b := eql_eq a b
@[go_sem] theorem neq_f (a b : Nat) : (FloatKind.f64.format.order a b != some Ordering.eq) = !feq a b := neq_eq a b

theorem nan_ref (b : Nat) (w : World) : Calls Tryz.prog 75 #[.float .f64 b] w fun e w' => e = .returned (.bool (isNan b)) ∧ w = w' := by
  go_enter Tryz.func75, Tryz.ntmps75
  go_wp2
  all_goals (go_ret; exact ⟨by rw [feq_self]; simp, rfl⟩)

theorem isnan (b : Nat) (w : World) : Calls Tryz.prog 127 #[.float .f64 b] w fun e w' => e = .returned (.bool (isNan b)) ∧ w = w' := by
  go_enter Tryz.func127, Tryz.ntmps127
  go_wp2
  all_goals (go_ret; exact ⟨by rw [feq_self]; simp, rfl⟩)

@[go_sem] theorem ext_bits (b : Nat) (w : World) : (callFunc 125 #[.float .f64 b]).run Tryz.prog w = .ok (.value (.int .u64 b)) w := by
  rw [run_callFunc_extern (fn := Tryz.f125) (e := Extern.MathFloatBits.float64bits) (by kernel_rfl) (by kernel_rfl) (by kernel_rfl) (by kernel_rfl) (by kernel_rfl)]
  rfl
@[go_sem] theorem ext_from (n : Int) (w : World) : (callFunc 128 #[.int .u64 n]).run Tryz.prog w = .ok (.value (.float .f64 n.toNat)) w := by
  rw [run_callFunc_extern (fn := Tryz.f128) (e := Extern.MathFloatBits.float64frombits) (by kernel_rfl) (by kernel_rfl) (by kernel_rfl) (by kernel_rfl) (by kernel_rfl)]
  rfl

theorem wrap_neg {b : Nat} (hb : b < 18446744073709551616) : decide (wrap64 (b : Int) < 0) = neg b := by
  have h := neg_iff b hb
  unfold wrap64
  rw [Bool.eq_iff_iff, h, decide_eq_true_eq]; omega
theorem ret_bool {a b : Bool} (h : a = b) : Ending.returned (.bool a) = .returned (.bool b) := by rw [h]
theorem ret_float {a b : Nat} (h : a = b) : Ending.returned (.float .f64 a) = .returned (.float .f64 b) := by rw [h]
theorem ret_int {a b : Int} (h : a = b) : Ending.returned (.int .i64 a) = .returned (.int .i64 b) := by rw [h]

def canon (b : Nat) : Nat := if isNan b then 9221120237041090561 else b

theorem canon_any (b : Nat) (w : World) : Calls Tryz.prog 126 #[.float .f64 b] w fun e w' => e = .returned (.float .f64 (canon b)) ∧ w = w' := by
  cases h : isNan b
  all_goals
    go_enter Tryz.func126, Tryz.ntmps126
    go_wp2_with (go_at_call 127; ((with_reducible refine (isnan _ _).mono ?_); rintro e w' ⟨rfl, rfl⟩))
    go_ret
    exact ⟨by simp [canon, h], rfl⟩
theorem bits_any (b : Nat) (w : World) : Calls Tryz.prog 122 #[.float .f64 b] w fun e w' => e = .returned (.int .u64 (canon b)) ∧ w = w' := by
  go_enter Tryz.func122, Tryz.ntmps122
  go_wp2_with (go_at_call 126; ((with_reducible refine (canon_any _ _).mono ?_); rintro e w' ⟨rfl, rfl⟩))
  go_ret
  exact ⟨rfl, rfl⟩

def same (a b : Nat) : Bool := decide (canon a = canon b)
theorem same_any (a b : Nat) (w : World) : Calls Tryz.prog 111 #[.float .f64 a, .float .f64 b] w fun e w' => e = .returned (.bool (same a b)) ∧ w = w' := by
  go_enter Tryz.func111, Tryz.ntmps111
  go_wp2_with (go_at_call 122; ((with_reducible refine (bits_any _ _).mono ?_); rintro e w' ⟨rfl, rfl⟩))
  go_ret
  exact ⟨ret_bool (by unfold same; rw [Bool.eq_iff_iff, beq_iff_eq, decide_eq_true_eq]; omega), rfl⟩

/-- The kinds, by the key. -/
def kind (b : Nat) : Int :=
  if isNan b then 0 else if key b = -9218868437227405312 then 1 else if key b < 0 then 2
  else if key b = 0 then (if neg b then 3 else 4) else if key b < 9218868437227405312 then 5 else 6

theorem k_minf : key 18442240474082181119 = -9218868437227405311 := by decide
theorem k_pmax : key 9218868437227405311 = 9218868437227405311 := by decide
theorem k_zero : key 0 = 0 := by decide
theorem n_minf : isNan 18442240474082181119 = false := by decide
theorem n_pmax : isNan 9218868437227405311 = false := by decide
theorem n_zero : isNan 0 = false := by decide
theorem key_range {b : Nat} (h : isNan b = false) : -9218868437227405312 ≤ key b ∧ key b ≤ 9218868437227405312 := by
  unfold isNan at h; unfold key
  simp only [decide_eq_false_iff_not] at h
  split <;> omega
theorem kd (b : Nat) : (isNan b = true ∧ kind b = 0) ∨ (isNan b = false ∧ flt b 18442240474082181119 = true ∧ kind b = 1)
    ∨ (isNan b = false ∧ flt b 18442240474082181119 = false ∧ flt b 0 = true ∧ kind b = 2)
    ∨ (isNan b = false ∧ flt b 18442240474082181119 = false ∧ flt b 0 = false ∧ feq b 0 = true ∧ neg b = true ∧ kind b = 3)
    ∨ (isNan b = false ∧ flt b 18442240474082181119 = false ∧ flt b 0 = false ∧ feq b 0 = true ∧ neg b = false ∧ kind b = 4)
    ∨ (isNan b = false ∧ flt b 18442240474082181119 = false ∧ flt b 0 = false ∧ feq b 0 = false ∧ (flt b 9218868437227405311 = true ∨ feq b 9218868437227405311 = true) ∧ kind b = 5)
    ∨ (isNan b = false ∧ flt b 18442240474082181119 = false ∧ flt b 0 = false ∧ feq b 0 = false ∧ (flt b 9218868437227405311 = false ∧ feq b 9218868437227405311 = false) ∧ kind b = 6) := by
  unfold kind flt feq
  rw [k_minf, k_pmax, k_zero, n_minf, n_pmax, n_zero]
  cases h : isNan b
  · have hr := key_range h
    cases hn : neg b
    all_goals
      simp only [Bool.not_false, Bool.true_and, Bool.false_eq_true, Bool.true_eq_false, if_false, if_true, false_and, and_false, false_or, true_and, decide_eq_true_eq, decide_eq_false_iff_not]
      repeat' split
      all_goals omega
  · simp

theorem kind_ge (b : Nat) : ((0 : Nat) : Int) ≤ kind b := by unfold kind; repeat' split <;> omega

@[go_sem] theorem unary_neg_f (k : FloatKind) (b : Nat) : Op.unary .neg (.float k b) = pure (.float k (Op.negFloat k b)) := rfl
theorem div_zero (w : World) (b : Nat) (h : b = 0 ∨ b = 9223372036854775808) : (binOp .quo 53 (.float .f64 4607182418800017408) (.float .f64 b)).run Tryz.prog w = .ok (.float .f64 (if neg b then 18442240474082181120 else 9218868437227405312)) w := by
  rcases h with rfl | rfl
  · exact run_float_arith w .quo _ .f64 _ _ _ (by decide)
  · exact run_float_arith w .quo _ .f64 _ _ _ (by decide)

theorem twice (k : Nat) (hk : k < 1023) : floatBits .mul .f64 4611686018427387904 ((1023 + k) * 4503599627370496) = some ((1024 + k) * 4503599627370496) := by
  have h : ∀ k, k < 1023 → floatBits .mul .f64 4611686018427387904 ((1023 + k) * 4503599627370496) = some ((1024 + k) * 4503599627370496) := by decide +kernel
  exact h k hk
end Go.Proofs.YtomidcbpnaajeaaGreat

/- What the document's answer for layer 1 (real) gives, and that the probes at fixed numbers answer true. -/
namespace Go.Proofs.YtomidcbpnaajeaaGreat
open Go.RowKit F64

/-- The kinds, by the word's parts. -/
theorem kind_cases (b : Nat) : (kind b = 0 ∧ isNan b = true) ∨ (kind b = 1 ∧ isNan b = false ∧ rung b = 9218868437227405312 ∧ neg b = true) ∨ (kind b = 6 ∧ isNan b = false ∧ rung b = 9218868437227405312 ∧ neg b = false)
    ∨ (kind b = 3 ∧ isNan b = false ∧ rung b = 0 ∧ neg b = true) ∨ (kind b = 4 ∧ isNan b = false ∧ rung b = 0 ∧ neg b = false)
    ∨ ((kind b = 2 ∨ kind b = 5) ∧ isNan b = false ∧ rung b ≠ 0 ∧ rung b < 9218868437227405312) := by
  cases hn : isNan b
  · have h := not_nan hn
    unfold kind key
    rw [hn]
    cases neg b <;> simp <;> omega
  · left; exact ⟨by unfold kind; rw [hn]; rfl, rfl⟩

def pw (k : Nat) : Nat := (1023 + k) * 4503599627370496
theorem pw_mul (k : Nat) (h : k < 1023) : floatBits .mul .f64 4611686018427387904 (pw k) = some (pw (k + 1)) := by
  have := twice k h
  unfold pw
  rw [this, show 1023 + (k + 1) = 1024 + k by omega]

set_option maxRecDepth 100000 in
set_option maxHeartbeats 1000000 in
theorem big_any (w : World) : Calls Tryz.prog 76 #[] w fun e w' => e = .returned (.float .f64 9218868437227405311) ∧ w = w' := by
  have hq : ∀ w, (binOp .quo 53 (.float .f64 9214364837600034816) (.float .f64 4841369599423283200)).run Tryz.prog w = .ok (.float .f64 8980177656976769024) w := fun w => run_float_arith w .quo _ .f64 _ _ _ (by decide)
  have hs : ∀ w, (binOp .sub 53 (.float .f64 9214364837600034816) (.float .f64 8980177656976769024)).run Tryz.prog w = .ok (.float .f64 9214364837600034814) w := fun w => run_float_arith w .sub _ .f64 _ _ _ (by decide)
  have ha : ∀ w, (binOp .add 53 (.float .f64 9214364837600034816) (.float .f64 9214364837600034814)).run Tryz.prog w = .ok (.float .f64 9218868437227405311) w := fun w => run_float_arith w .add _ .f64 _ _ _ (by decide)
  go_enter Tryz.func76, Tryz.ntmps76
  go_wp2
  go_loop [1, 2] (fun x i => ∃ k : Nat, k ≤ 1023 ∧ i = .int .i64 k ∧ x = .float .f64 (pw k)) (fun _ i => (1023 - intOf i).toNat)
  case atStart => exact ⟨0, by omega, rfl, rfl⟩
  case round =>
    obtain ⟨k, hk, rfl, rfl⟩ := hrel
    by_cases hlt : k < 1023
    · have hm : ∀ w, (binOp .mul 53 (.float .f64 4611686018427387904) (.float .f64 (pw k))).run Tryz.prog w = .ok (.float .f64 (pw (k + 1))) w := fun w => run_float_arith w .mul _ .f64 _ _ _ (pw_mul k hlt)
      clear hq hs ha
      go_wp2
      go_round
      case rel => exact ⟨k + 1, by omega, by go_num, rfl⟩
      case measure => simp [intOf]; omega
    · obtain rfl : k = 1023 := by omega
      have hx : pw 1023 = 9214364837600034816 := by decide
      go_wp2
      go_ret
      exact ⟨rfl, rfl⟩

theorem zero_of {a : Nat} (ha : a < 18446744073709551616) (h : feq a 0 = true) : a = 0 ∨ a = 9223372036854775808 := by
  unfold feq at h
  rw [k_zero, n_zero] at h
  simp only [Bool.not_false, Bool.and_true, Bool.and_eq_true, decide_eq_true_eq] at h
  have hk := h.2
  unfold key rung at hk
  split at hk <;> omega

theorem feq_same {a b : Nat} (ha : a < 18446744073709551616) (hb : b < 18446744073709551616) (na : isNan a = false) (nb : isNan b = false) (hz : ¬ (feq a 0 = true ∧ feq b 0 = true)) : feq a b = same a b := by
  unfold feq at *
  unfold same canon
  rw [k_zero, n_zero] at hz
  simp only [na, nb, Bool.not_false, Bool.and_true, Bool.true_and, Bool.false_eq_true, if_false, decide_eq_true_eq, decide_eq_decide] at hz ⊢
  unfold key neg rung at *
  simp only [beq_iff_eq] at *
  repeat' split at hz
  all_goals (repeat' split)
  all_goals omega

theorem same_nan {a b : Nat} (h : isNan a = true) : same a b = isNan b := by
  unfold same canon
  cases hb : isNan b
  · have : ¬ (9221120237041090561 = b) := by intro e; subst e; revert hb; decide
    simp [h, this]
  · simp [h]
theorem same_comm (a b : Nat) : same a b = same b a := by
  unfold same; rw [Bool.eq_iff_iff]; simp only [decide_eq_true_eq]; omega
theorem same_nan' {a b : Nat} (h : isNan b = true) : same a b = isNan a := by rw [same_comm]; exact same_nan h

set_option maxHeartbeats 1000000 in
theorem ref_same_any (a b : Nat) (w : World) (ha : a < 18446744073709551616) (hb : b < 18446744073709551616) : Calls Tryz.prog 79 #[.float .f64 a, .float .f64 b] w fun e w' => e = .returned (.bool (same a b)) ∧ w = w' := by
  by_cases hz : feq a 0 = true ∧ feq b 0 = true
  · have d0 := fun w => div_zero w 0 (.inl rfl)
    have d1 := fun w => div_zero w 9223372036854775808 (.inr rfl)
    rcases zero_of ha hz.1 with rfl | rfl <;> rcases zero_of hb hz.2 with rfl | rfl
    all_goals
      clear hz ha hb
      go_enter Tryz.func79, Tryz.ntmps79
      go_wp2_with (first
        | (go_at_call 75; ((with_reducible refine (nan_ref _ _).mono ?_); rintro e w' ⟨rfl, rfl⟩)))
    all_goals (go_ret; exact ⟨ret_bool (by decide), rfl⟩)
  · have hf := fun na nb => feq_same ha hb na nb hz
    have hn := fun h => same_nan (a := a) (b := b) h
    have hn' := fun h => same_nan' (a := a) (b := b) h
    have HF := Lib.hid hf
    have HN := Lib.hid hn
    have HN' := Lib.hid hn'
    have HZ := Lib.hid hz
    clear hf hn hn' hz
    go_enter Tryz.func79, Tryz.ntmps79
    go_wp2_with (first
      | (go_at_call 75; ((with_reducible refine (nan_ref _ _).mono ?_); rintro e w' ⟨rfl, rfl⟩)))
    all_goals first
      | (exfalso; exact HZ.out ⟨‹_›, ‹_›⟩)
      | (go_ret
         refine ⟨ret_bool ?_, rfl⟩
         have h1 := HF.out
         have h2 := HN.out
         have h3 := HN'.out
         simp_all)
@[go_sem] theorem neg_max : Op.negFloat .f64 9218868437227405311 = 18442240474082181119 := by decide
theorem flt_max (b : Nat) : flt 9218868437227405311 b = true ↔ (isNan b = false ∧ ¬ (flt b 9218868437227405311 = true ∨ feq b 9218868437227405311 = true)) := by
  unfold flt feq
  rw [k_pmax, n_pmax]
  cases isNan b <;> simp
  omega
theorem flt_mz (b : Nat) : flt b 18442240474082181119 = true → flt b 0 = true := by
  unfold flt
  rw [k_minf, n_minf, k_zero, n_zero]
  cases isNan b <;> simp
  omega
theorem flt_inf : flt 9218868437227405312 0 = false ∧ flt 18442240474082181120 0 = true := by decide

set_option maxHeartbeats 1000000 in
theorem ref_kind_any (b : Nat) (w : World) (hb : b < 18446744073709551616) : Calls Tryz.prog 54 #[.float .f64 b] w fun e w' => e = .returned (.int .i64 (kind b)) ∧ w = w' := by
  by_cases hz : feq b 0 = true
  · have d0 := fun w => div_zero w 0 (.inl rfl)
    have d1 := fun w => div_zero w 9223372036854775808 (.inr rfl)
    rcases zero_of hb hz with rfl | rfl
    all_goals
      clear hz hb
      go_enter Tryz.func54, Tryz.ntmps54
      go_wp2_with (first
        | (go_at_call 75; ((with_reducible refine (nan_ref _ _).mono ?_); rintro e w' ⟨rfl, rfl⟩)))
    all_goals (go_ret; exact ⟨ret_int (by decide), rfl⟩)
  · go_enter Tryz.func54, Tryz.ntmps54
    go_wp2_with (first
      | (go_at_call 75; ((with_reducible refine (nan_ref _ _).mono ?_); rintro e w' ⟨rfl, rfl⟩))
      | (go_at_call 76; ((with_reducible refine (big_any _).mono ?_); rintro e w' ⟨rfl, rfl⟩)))
    all_goals
      go_ret
      refine ⟨ret_int ?_, rfl⟩
      have h0 := kd b
      have h1 := flt_max b
      have h2 := flt_mz b
      cases e1 : flt b 9218868437227405311 <;> cases e2 : feq b 9218868437227405311 <;> rcases h0 with h | h | h | h | h | h | h
      all_goals first | omega | (simp_all; done) | (simp_all; omega)

/-- The place in the order. -/
def rank (b : Nat) : Int := if isNan b then -36893488147419103232 else 2 * key b + (if neg b then 0 else 1)
def ord (a b : Nat) : Int := if rank a < rank b then -1 else if rank b < rank a then 1 else 0


def step (r : Int) : Int := if r < -18437736874454810624 then 0 else if r = -18437736874454810624 then 1 else if r < 0 then 2 else if r = 0 then 3 else if r = 1 then 4 else if r < 18437736874454810625 then 5 else 6
theorem step_mono (r s : Int) (h : step r < step s) : r < s := by
  unfold step at h
  repeat' split at h
  all_goals omega
theorem step_neg (r : Int) : r ≤ 0 ↔ step r ≤ 3 := by
  unfold step
  repeat' split
  all_goals omega
theorem step_nan (r : Int) : r < -18437736874454810624 ↔ step r = 0 := by
  unfold step
  repeat' split
  all_goals omega

theorem rank_facts (b : Nat) : (isNan b = true ∧ rank b = -36893488147419103232) ∨ (isNan b = false ∧ neg b = true ∧ rank b = 2 * key b ∧ -9218868437227405312 ≤ key b ∧ key b ≤ 0) ∨ (isNan b = false ∧ neg b = false ∧ rank b = 2 * key b + 1 ∧ 0 ≤ key b ∧ key b ≤ 9218868437227405312) := by
  unfold rank
  cases h : isNan b
  · have hr := key_range h
    cases hn : neg b
    · have : 0 ≤ key b := by unfold key; rw [hn]; simp
      simp; omega
    · have : key b ≤ 0 := by unfold key; rw [hn]; simp
      simp; omega
  · simp

theorem kind_step (b : Nat) : kind b = step (rank b) := by
  unfold kind step
  rcases rank_facts b with ⟨h1, h2⟩ | ⟨h1, h2, h3, h4, h5⟩ | ⟨h1, h2, h3, h4, h5⟩
  · rw [h1, h2]; rfl
  · rw [h1, h2, h3]
    simp only [Bool.false_eq_true, if_false, if_true]
    repeat' split
    all_goals omega
  · rw [h1, h2, h3]
    simp only [Bool.false_eq_true, if_false]
    repeat' split
    all_goals omega

theorem flt_true (a b : Nat) : flt a b = true ↔ isNan a = false ∧ isNan b = false ∧ key a < key b := by
  unfold flt; simp [and_assoc]

theorem flt_kind (a b : Nat) (h : kind a = kind b) : flt a b = decide (rank a < rank b) := by
  rw [Bool.eq_iff_iff, flt_true, decide_eq_true_eq]
  rw [kind_step, kind_step] at h
  have a1 := step_neg (rank a)
  have b1 := step_neg (rank b)
  have a2 := step_nan (rank a)
  have b2 := step_nan (rank b)
  rw [h] at a1 a2
  rcases rank_facts a with ⟨h1, h2⟩ | ⟨h1, h2, h3, h4, h5⟩ | ⟨h1, h2, h3, h4, h5⟩ <;> rcases rank_facts b with ⟨g1, g2⟩ | ⟨g1, g2, g3, g4, g5⟩ | ⟨g1, g2, g3, g4, g5⟩
  all_goals rw [h1, g1]
  all_goals simp only [Bool.true_eq_false, false_and, true_and, false_iff]
  all_goals omega

theorem ord_ref (a b : Nat) : (kind a ≠ kind b → ord a b = if kind a < kind b then -1 else 1) ∧ (kind a = kind b → ord a b = if flt a b then -1 else if flt b a then 1 else 0) := by
  constructor
  · intro h
    rw [kind_step, kind_step] at *
    have h1 := step_mono (rank a) (rank b)
    have h2 := step_mono (rank b) (rank a)
    unfold ord
    repeat' split
    all_goals omega
  · intro h
    rw [flt_kind a b h, flt_kind b a h.symm]
    unfold ord
    simp only [decide_eq_true_eq]

theorem flt_rank (a b : Nat) (h : flt a b = true) : rank a < rank b := by
  rw [flt_true] at h
  rcases rank_facts a with ⟨h1, h2⟩ | ⟨h1, h2, h3, h4, h5⟩ | ⟨h1, h2, h3, h4, h5⟩ <;> rcases rank_facts b with ⟨g1, g2⟩ | ⟨g1, g2, g3, g4, g5⟩ | ⟨g1, g2, g3, g4, g5⟩
  all_goals (rw [h1, g1] at h; simp only [Bool.true_eq_false, false_and, and_false, true_and] at h)
  all_goals omega

theorem ord_prog (a b : Nat) : (kind a < kind b ∨ flt a b = true → ord a b = -1) ∧ (¬ (kind a < kind b ∨ flt a b = true) → (kind b < kind a ∨ flt b a = true) → ord a b = 1) ∧ (¬ (kind a < kind b ∨ flt a b = true) → ¬ (kind b < kind a ∨ flt b a = true) → ord a b = 0) := by
  have hr := ord_ref a b
  have f1 := flt_rank a b
  have f2 := flt_rank b a
  have h1 := step_mono (rank a) (rank b)
  have h2 := step_mono (rank b) (rank a)
  rw [← kind_step, ← kind_step] at h1 h2
  refine ⟨fun h => ?_, fun h g => ?_, fun h g => ?_⟩
  · have : rank a < rank b := by rcases h with h | h; exact h1 h; exact f1 h
    unfold ord; rw [if_pos this]
  · have : rank b < rank a := by rcases g with h | h; exact h2 h; exact f2 h
    unfold ord; rw [if_neg (by omega), if_pos this]
  · have e : kind a = kind b := by omega
    rw [hr.2 e, if_neg (fun x => h (.inr x)), if_neg (fun x => g (.inr x))]

end Go.Proofs.YtomidcbpnaajeaaGreat
