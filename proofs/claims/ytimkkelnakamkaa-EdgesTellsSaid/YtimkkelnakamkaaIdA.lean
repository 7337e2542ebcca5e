/- What the small functions of layer 3 (ident) and of the document's answer give, for any two numbers. No condition. -/
import Derived.Test.YtimkkelnakamkaaChecked
import Derived.WalkKit
import Derived.WalkSpells
import Derived.Lib.Hide
import Derived.Lib.SliceRun
import Derived.Laws.StructEq
import Derived.Deep.RegionHeld3
import Derived.Deep.DrawnRows
import Derived.KernelRfl
namespace Go.Proofs.Ytimkkelnakamkaa.Ids
open Go.RowKit
set_option linter.unusedVariables false

/-- An id: its two numbers, and its two cells. -/
abbrev Idn := Int × Int
/-- A number that fits into an int. -/
abbrev wfI (n : Int) : Prop := -9223372036854775808 ≤ n ∧ n ≤ 9223372036854775807
def wfId (x : Idn) : Prop := wfI x.1 ∧ wfI x.2
theorem wf_i64 {n : Int} : (Lit.int .i64 n).wf = true ↔ wfI n := by
  simp [Lit.wf, IntKind.min, IntKind.max, IntKind.signed, IntKind.bits]
def ids (x : Idn) : List Value := [.int .i64 x.1, .int .i64 x.2]
def idLt (a b : Idn) : Bool := if a.1 = b.1 then decide (a.2 < b.2) else decide (a.1 < b.1)
def idCmp (a b : Idn) : Int := if a = b then 0 else if idLt a b then -1 else 1
def idRight (x : Idn) : Bool := decide (0 ≤ x.1 ∧ x.1 < 8 ∧ 1 ≤ x.2 ∧ x.2 ≤ 1048576)
def idErr (x : Idn) : Int := if 0 ≤ x.1 ∧ x.1 < 8 then (if 1 ≤ x.2 ∧ x.2 ≤ 1048576 then 0 else 8) else 7

theorem und_id : Try.prog.underlying 24 = some (.struct (Try.prog.fieldsOf 24)) := by kernel_rfl
theorem equal_id (w : World) (a b c d : Int) : (Op.equalIn 10000 24 (.agg #[.int .i64 a, .int .i64 b]) (.agg #[.int .i64 c, .int .i64 d])).run Try.prog w = .ok (a == c && b == d) w := by
  have u3 := Try.underlying3
  have a3 := Try.isAgg3
  have z3 := Try.sizeOf3
  have hS := und_id
  have hp : Try.prog.stoodInHeld 24 = false := by kernel_rfl
  rw [show (10000 : Nat) = 9999 + 1 from rfl, run_equalIn_agg w 9999 24 _ _ hS hp]
  simp only [Program.fieldsOf, Try.underlying24]
  go_simp
  by_cases h1 : a = c <;> by_cases h2 : b = d <;> simp [h1, h2]
@[go_sem] theorem eql_id (w : World) (a b c d : Int) : (binOp .eql 24 (.agg #[.int .i64 a, .int .i64 b]) (.agg #[.int .i64 c, .int .i64 d])).run Try.prog w = .ok (.bool (a == c && b == d)) w := by
  rw [run_eql_struct, equal_id]; rfl
@[go_sem] theorem neq_id (w : World) (a b c d : Int) : (binOp .neq 24 (.agg #[.int .i64 a, .int .i64 b]) (.agg #[.int .i64 c, .int .i64 d])).run Try.prog w = .ok (.bool !(a == c && b == d)) w := by
  rw [run_neq_struct, equal_id]; rfl

def cells (a b : Int) : Obj := .cells #[.int .i64 a, .int .i64 b] 24
def two (w : World) (a b c d : Int) : World := (w.alloc (cells a b)).alloc (cells c d)
theorem below_one (w : World) (o : Obj) : Below w.heap.size w (w.alloc o) := (Below.refl _ w).alloc (Nat.le_refl _) _
theorem below_two (w : World) (a b c d : Int) : Below w.heap.size w (two w a b c d) := (below_one _ _).trans ((below_one _ _).mono (by simp))
theorem ret_bool {a b : Bool} (h : a = b) : Ending.returned (.bool a) = .returned (.bool b) := by rw [h]
theorem ret_int {k : IntKind} {a b : Int} (h : a = b) : Ending.returned (.int k a) = .returned (.int k b) := by rw [h]

theorem less_any (a b c d : Int) (w : World) : Calls Try.prog 36 #[.agg #[.int .i64 a, .int .i64 b], .agg #[.int .i64 c, .int .i64 d]] w fun e w' => e = .returned (.bool (idLt (a, b) (c, d))) ∧ w' = two w a b c d := by
  go_enter Try.func36, Try.ntmps36
  go_wp2
  all_goals
    rename_i h
    go_ret
    refine ⟨ret_bool ?_, rfl⟩
    simp at h
    unfold idLt; simp [h]

theorem compare_any (a b c d : Int) (w : World) : Calls Try.prog 41 #[.agg #[.int .i64 a, .int .i64 b], .agg #[.int .i64 c, .int .i64 d]] w fun e w' => e = .returned (.int .i64 (idCmp (a, b) (c, d))) ∧ w' = two w a b c d := by
  by_cases h1 : a = c
  · subst h1
    by_cases h2 : b = d
    · subst h2
      go_enter Try.func41, Try.ntmps41
      go_wp2
      go_ret
      exact ⟨ret_int (by unfold idCmp; simp), rfl⟩
    · have h3 : (b == d) = false := beq_eq_false_iff_ne.2 h2
      by_cases h4 : b < d
      · go_enter Try.func41, Try.ntmps41
        go_wp2
        go_ret
        exact ⟨ret_int (by unfold idCmp idLt; simp [h2, h4]), rfl⟩
      · go_enter Try.func41, Try.ntmps41
        go_wp2
        go_ret
        exact ⟨ret_int (by unfold idCmp idLt; simp [h2, h4]), rfl⟩
  · have h3 : (a == c) = false := beq_eq_false_iff_ne.2 h1
    by_cases h4 : a < c
    · go_enter Try.func41, Try.ntmps41
      go_wp2
      go_ret
      exact ⟨ret_int (by unfold idCmp idLt; simp [h1, h4]), rfl⟩
    · go_enter Try.func41, Try.ntmps41
      go_wp2
      go_ret
      exact ⟨ret_int (by unfold idCmp idLt; simp [h1, h4]), rfl⟩

theorem check_any (a b : Int) (w : World) : Calls Try.prog 59 #[.agg #[.int .i64 a, .int .i64 b]] w fun e w' => e = .returned (.int .i64 (idErr (a, b))) ∧ w' = w.alloc (cells a b) := by
  go_enter Try.func59, Try.ntmps59
  go_wp2
  all_goals
    go_ret
    refine ⟨ret_int ?_, rfl⟩
    (try simp at *)
    unfold idErr
    simp only []
    repeat' split
    all_goals omega

theorem right_any (a b : Int) (w : World) : Calls Try.prog 52 #[.agg #[.int .i64 a, .int .i64 b]] w fun e w' => e = .returned (.bool (idRight (a, b))) ∧ w' = w.alloc (cells a b) := by
  go_enter Try.func52, Try.ntmps52
  go_wp2
  all_goals
    go_ret
    refine ⟨ret_bool ?_, rfl⟩
    (try simp at *)
    unfold idRight
    (try simp [*])
    (try omega)

theorem right_err (x : Idn) : idRight x = true ↔ idErr x = 0 := by
  unfold idRight idErr
  rw [decide_eq_true_eq]
  repeat' split
  all_goals omega
end Go.Proofs.Ytimkkelnakamkaa.Ids
