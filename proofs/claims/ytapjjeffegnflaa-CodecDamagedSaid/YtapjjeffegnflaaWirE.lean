/- What GetEight gives (layer 9, wire). Conditions: the bytes lie in memory as their cells say. -/
import Derived.Test.YtapjjeffegnflaaWirD
namespace Go.Proofs.Ytapjjeffegnflaa.Wir
open Go.RowKit Cmd Bat
set_option linter.unusedVariables false

theorem cutq_zero (B off m : Nat) : cutq (some ⟨B, off, none⟩) 0 m = some ⟨B, off, none⟩ := by
  unfold cutq; split <;> simp [Addr.add]
theorem or_eight {m x : Nat} (hm : m < 72057594037927936) (hx : x < 256) : bits .or .u64 ((m : Int) * 256) (x : Int) = ((m * 256 + x : Nat) : Int) := by
  rw [show ((m : Int) * 256) = ((m * 256 : Nat) : Int) by omega, u64_or _ _ (by omega) (by omega) (by omega) (by omega), Int.toNat_natCast, Int.toNat_natCast]
  congr 1
  have h := Nat.shiftLeft_add_eq_or_of_lt (a := m) (b := x) (i := 8) hx
  rw [Nat.shiftLeft_eq] at h
  exact h.symm
theorem un_step {zs : List UInt8} {k : Nat} (h : k < zs.length) : un (zs.take (k + 1)) = un (zs.take k) * 256 + (layB.at zs k).toNat := by
  rw [layB.take h, un_snoc]
theorem un_top {zs : List UInt8} {k : Nat} (h : k ≤ 7) : un (zs.take k) < 72057594037927936 := Nat.lt_of_lt_of_le (un_lt k zs) (Nat.le_trans (Nat.pow_le_pow_right (by decide) h) (by decide))
/-- What GetEight answers. -/
def eightOf (zs : List UInt8) : Nat × Nat := if zs.length < 8 then (0, 4) else (un (zs.take 8), 0)
def ret2 (r : Nat × Nat) : Ending := .returned (.tuple #[.int .u64 (r.1 : Int), .int .i64 (r.2 : Int)])
theorem ret2_eq {r : Nat × Nat} {a c : Int} {n e : Nat} (h : r = (n, e)) (ha : a = n) (hc : c = e) : Ending.returned (.tuple #[.int .u64 a, .int .i64 c]) = ret2 r := by subst h ha hc; rfl

set_option maxHeartbeats 4000000 in
set_option maxRecDepth 100000 in
theorem geteight_any (v : Value) (zs : List UInt8) (w : World) (h : layB.Row w v zs) : Calls Try.prog 67 #[v] w fun e w' => e = ret2 (eightOf zs) ∧ w = w' := by
  obtain ⟨p, cap, rfl, g1, g2, g3⟩ := h
  by_cases h8 : zs.length < 8
  · have HE : Hid (eightOf zs = (0, 4)) := Lib.hid (by unfold eightOf; rw [if_pos h8])
    have h1 : (zs.length : Int) < 8 := by omega
    clear g3
    go_enter Try.func67, Try.ntmps67
    go_wp2
    go_ret2
    exact ⟨ret2_eq HE.out rfl rfl, rfl⟩
  · have HE : Hid (eightOf zs = (un (zs.take 8), 0)) := Lib.hid (by unfold eightOf; rw [if_neg h8])
    obtain ⟨B, off, rfl, hi⟩ := g3 (by rintro rfl; simp at h8)
    have HI := Lib.hid hi
    have hc : ∀ w, (Instr.slice 29 (.slice (some ⟨B, off, none⟩) zs.length cap) none (some (.int .i64 8)) none).run Try.prog w = .ok (.slice (some ⟨B, off, none⟩) 8 cap) w := fun w => by
      have := cut_to (some ⟨B, off, none⟩) zs.length cap 8 (by omega) w
      rw [cutq_zero] at this
      exact this
    obtain ⟨n, hn⟩ : ∃ n, n = zs.length := ⟨_, rfl⟩
    rw [← hn] at h8 hc g1 ⊢
    have HZ := Lib.hid hn
    have h1 : ¬ (n : Int) < 8 := by omega
    generalize hr : eightOf zs = r at HE
    clear g3 hi hr hn
    go_enter Try.func67, Try.ntmps67
    go_wp2
    go_loop [4, 13] (fun a i => ∃ k : Nat, k ≤ 8 ∧ i = .int .i64 k ∧ a = .int .u64 (un (zs.take k) : Nat)) (fun _ i => 8 - (intOf i).toNat)
    case atStart => exact ⟨0, by decide, rfl, rfl⟩
    case round =>
      obtain ⟨k, hk, rfl, rfl⟩ := hrel
      have k0 : (0 : Int) ≤ k := by omega
      by_cases hk8 : k < 8
      · have kn : (k : Int) < 8 := by omega
        obtain ⟨c, hcc⟩ : ∃ c, layB.at zs k = c := ⟨_, rfl⟩
        have hkz : k < zs.length := by rw [← HZ.out]; omega
        have c1 := cellB HI.out hkz hcc
        have HU := Lib.hid (un_step hkz)
        rw [hcc] at HU
        have hm := un_top (zs := zs) (k := k) (by omega)
        have hx := byte_lt c
        have ho := or_eight hm hx
        generalize un (zs.take k) = m at hm ho HU
        generalize c.toNat = x at c1 hx ho HU
        clear hcc hkz
        go_wp2
        go_round
        case rel => exact ⟨k + 1, by omega, by go_num, by rw [HU.out, Int.natCast_add, Int.natCast_mul]; rfl⟩
        case measure => simp [intOf]; omega
      · have kn : ¬ (k : Int) < 8 := by omega
        obtain rfl : k = 8 := by omega
        go_wp2
        go_ret2
        exact ⟨ret2_eq HE.out rfl rfl, rfl⟩
end Go.Proofs.Ytapjjeffegnflaa.Wir
