/- What GetEight gives (layer 9, wire). Conditions: the bytes lie in memory as their cells say. -/
import Derived.Test.YtacgmhnalbbgbaaWirD
namespace Go.Proofs.Ytacgmhnalbbgbaa.Wir
open Go.RowKit Cmd Bat
set_option linter.unusedVariables false

theorem cutq_zero (B off m : Nat) : cutq (some ⟨B, off, none⟩) 0 m = some ⟨B, off, none⟩ := by
  unfold cutq; split <;> simp [Addr.add]
theorem or_eight {m x : Nat} (hm : m < 72057594037927936) (hx : x < 256) : bits .or .u64 ((m : Int) * 256) (x : Int) = ((m * 256 + x : Nat) : Int) := by
  rw [show ((m : Int) * 256) = ((m * 256 : Nat) : Int) by omega, u64_or _ _ (by omega) (by omega) (by omega) (by omega), Int.toNat_natCast, Int.toNat_natCast]
  congr 1
  have h := Nat.shiftLeft_add_eq_or_of_lt (a := m) (b := x) (i := 8) hx
  rw [Nat.shiftLeft_eq] at h
  exact h.symm
theorem un_step {zs : List UInt8} {k : Nat} (h : k < zs.length) : un (zs.take (k + 1)) = un (zs.take k) * 256 + (layB.at zs k).toNat := by
  rw [layB.take h, un_snoc]
theorem un_top {zs : List UInt8} {k : Nat} (h : k ≤ 7) : un (zs.take k) < 72057594037927936 := Nat.lt_of_lt_of_le (un_lt k zs) (Nat.le_trans (Nat.pow_le_pow_right (by decide) h) (by decide))
/-- What GetEight answers. -/
def eightOf (zs : List UInt8) : Nat × Nat := if zs.length < 8 then (0, 4) else (un (zs.take 8), 0)
def ret2 (r : Nat × Nat) : Ending := .returned (.tuple #[.int .u64 (r.1 : Int), .int .i64 (r.2 : Int)])
theorem ret2_eq {r : Nat × Nat} {a c : Int} {n e : Nat} (h : r = (n, e)) (ha : a = n) (hc : c = e) : Ending.returned (.tuple #[.int .u64 a, .int .i64 c]) = ret2 r := by subst h ha hc; rfl

end Go.Proofs.Ytacgmhnalbbgbaa.Wir
