/- An invalid operation on binary64: it gives a NaN of the tape's, and draws once. No condition. -/
import Derived.Test.YtdnabghhjlhjoaaRealB
namespace Go.Proofs.Ytdnabghhjlhjoaa
open Go.RowKit F64

/-- The NaN that an invalid operation gives: the tape's. -/
def nb (a b : Nat) (w : World) : Nat := (Question.nanBits .f64 a b).cut (w.tape w.drawn (.nanBits .f64 a b))
theorem nb_nan (a b : Nat) (w : World) : isNan (nb a b w) = true ∧ nb a b w < 18446744073709551616 := by
  unfold nb Question.cut isNan rung
  simp only [decide_eq_true_eq]
  generalize w.tape w.drawn (Question.nanBits FloatKind.f64 a b) = t
  have h2 : (2 : Nat) ^ 63 = 9223372036854775808 := by decide
  have h3 : (2 : Nat) ^ 52 = 4503599627370496 := by decide
  rw [h2, h3]
  have h1 : t / 2 % (4503599627370496 - 1) < 4503599627370495 := Nat.mod_lt _ (by omega)
  have h4 : t % 2 < 2 := Nat.mod_lt _ (by omega)
  generalize t / 2 % (4503599627370496 - 1) = u at h1
  generalize t % 2 = v at h4
  have : v = 0 ∨ v = 1 := by omega
  rcases this with rfl | rfl <;> omega
theorem run_nan {P : Program} (op : BinOp) (t : TypeId) (a b : Nat) (w : World) (hop : op = .add ∨ op = .sub ∨ op = .mul ∨ op = .quo) (h : floatBits op .f64 a b = none) :
    (binOp op t (.float .f64 a) (.float .f64 b)).run P w = .ok (.float .f64 (nb a b w)) w.drew := by
  unfold floatBits at h
  rcases hop with rfl | rfl | rfl | rfl
  all_goals
    simp only at h
    simp [binOp, Op.floatArith, h, nb, Question.forced]
end Go.Proofs.Ytdnabghhjlhjoaa
