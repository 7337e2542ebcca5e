/- What Get, GetEight and the document's Read give (layer 9, wire). Conditions: the bytes lie in memory as their cells say. -/
import Derived.Test.YtacgmhnalbbgbaaWirC
import Derived.Laws.BitsAllLaws
namespace Go.Proofs.Ytacgmhnalbbgbaa.Wir
open Go.RowKit Cmd Bat
set_option linter.unusedVariables false

def ret3 (r : Nat × Nat × Nat) : Ending := .returned (.tuple #[.int .u64 (r.1 : Int), .int .i64 (r.2.1 : Int), .int .i64 (r.2.2 : Int)])
theorem ret3_eq {r : Nat × Nat × Nat} {a b c : Int} {n j e : Nat} (h : r = (n, j, e)) (ha : a = n) (hb : b = j) (hc : c = e) : Ending.returned (.tuple #[.int .u64 a, .int .i64 b, .int .i64 c]) = ret3 r := by subst h ha hb hc; rfl
theorem seven_shift (d k : Nat) : (d : Int) * 2 ^ (7 * (k : Int)).toNat = ((d * 128 ^ k : Nat) : Int) := by
  rw [show (7 * (k : Int)).toNat = 7 * k by omega, show (128 : Nat) = 2 ^ 7 from rfl, ← Nat.pow_mul, Int.natCast_mul]
  simp
theorem or_add {a d k : Nat} (ha : a < 128 ^ k) (h1 : a < 18446744073709551616) (h2 : d * 128 ^ k < 18446744073709551616) : bits .or .u64 (a : Int) ((d * 128 ^ k : Nat) : Int) = ((a + d * 128 ^ k : Nat) : Int) := by
  rw [u64_or _ _ (by omega) (by omega) (by omega) (by omega), Int.toNat_natCast, Int.toNat_natCast]
  congr 1
  have h := Nat.shiftLeft_add_eq_or_of_lt (a := d) (b := a) (i := 7 * k) (by rw [Nat.pow_mul]; exact ha)
  rw [Nat.shiftLeft_eq, Nat.pow_mul] at h
  rw [Nat.or_comm, ← h, Nat.add_comm]


end Go.Proofs.Ytacgmhnalbbgbaa.Wir
