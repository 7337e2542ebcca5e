/- What step, Of, the document's Of, mixIn and Mix give (layer 10, digest). Conditions: the bytes lie in memory as their cells say; numbers are words of 64 bits. -/
import Derived.Test.YtapjjeffegnflaaDigA
import Derived.Test.YtapjjeffegnflaaWirC
import Derived.Laws.BitsAllLaws
namespace Go.Proofs.Ytapjjeffegnflaa.Dig
open Go.RowKit Cmd Bat Wir
set_option linter.unusedVariables false

theorem xor_run {h x : Nat} (hh : h < 18446744073709551616) (hx : x < 256) : bits .xor .u64 (h : Int) (x : Int) = ((h ^^^ x : Nat) : Int) := by
  rw [u64_xor _ _ (by omega) (by omega) (by omega) (by omega), Int.toNat_natCast, Int.toNat_natCast]
theorem dstep_run {h : Nat} (c : UInt8) : IntKind.u64.wrap (((h ^^^ c.toNat : Nat) : Int) * 1099511628211) = ((dstep h c : Nat) : Int) := by
  unfold dstep; rw [IntKind.wrap_u64, Int.natCast_emod, Int.natCast_mul]; rfl

set_option maxHeartbeats 1000000 in
set_option maxRecDepth 100000 in
theorem step_any (h : Nat) (c : UInt8) (w : World) (hh : h < 18446744073709551616) : Calls Try.prog 61 #[.int .u64 h, .int .u8 c.toNat] w fun e w' => e = .returned (.int .u64 (dstep h c : Nat)) ∧ w = w' := by
  have hx := byte_lt c
  have h1 := xor_run hh hx
  have h2 := dstep_run (h := h) c
  obtain ⟨d, hd⟩ : ∃ d, dstep h c = d := ⟨_, rfl⟩
  have hd2 := dstep_lt h c
  rw [hd] at h2 hd2 ⊢
  obtain ⟨y, hy⟩ : ∃ y, h ^^^ c.toNat = y := ⟨_, rfl⟩
  rw [hy] at h1 h2
  obtain ⟨x, hxx⟩ : ∃ x, c.toNat = x := ⟨_, rfl⟩
  rw [hxx] at h1 hx ⊢
  clear hd hy hxx
  go_enter Try.func61, Try.ntmps61
  go_wp2
  go_ret
  exact ⟨rfl, rfl⟩

/-! ### Of, the document's Of -/
theorem dig_take {zs : List UInt8} {k : Nat} (h : k < zs.length) (g : Nat) : dig g (zs.take (k + 1)) = dstep (dig g (zs.take k)) (layB.at zs k) := by
  rw [layB.take h, dig_snoc]
set_option maxHeartbeats 2000000 in
set_option maxRecDepth 100000 in
theorem of_any (v : Value) (zs : List UInt8) (w : World) (h : layB.Row w v zs) : Calls Try.prog 39 #[v] w fun e w' => e = .returned (.int .u64 (dg zs : Nat)) ∧ w = w' := by
  obtain ⟨p, cap, rfl, h1, hd⟩ := h.parts
  obtain ⟨n, hn⟩ : ∃ n, n = zs.length := ⟨_, rfl⟩
  rw [← hn] at h1 hd ⊢
  have HZ := Lib.hid hn
  have HE : Hid (dg (zs.take n) = dg zs) := Lib.hid (by rw [hn, List.take_length])
  have CS := Lib.hid step_any
  clear h hn
  generalize dg zs = r at HE ⊢
  go_enter Try.func39, Try.ntmps39
  go_wp2
  go_loop [3, 8] (fun a i => ∃ k m : Nat, k ≤ n ∧ i = .int .i64 k ∧ a = .int .u64 m ∧ m < 18446744073709551616 ∧ Hid (dg (zs.take k) = m)) (fun _ i => n - (intOf i).toNat)
  case atStart => exact ⟨0, 14695981039346656037, Nat.zero_le _, rfl, rfl, by decide, Lib.hid rfl⟩
  case round =>
    obtain ⟨k, m, hk, rfl, rfl, hm, HM⟩ := hrel
    have k0 : (0 : Int) ≤ k := by omega
    by_cases hkn : k < n
    · obtain ⟨B, off, rfl, HC⟩ := hd.resolve_left (by omega)
      obtain ⟨c, hc⟩ : ∃ c, layB.at zs k = c := ⟨_, rfl⟩
      have hkz : k < zs.length := by rw [← HZ.out]; exact hkn
      have c1 := cellB HC.out hkz hc
      have HD : Hid (dg (zs.take (k + 1)) = dstep m c) := Lib.hid (by unfold dg; rw [dig_take hkz, hc, ← HM.out]; rfl)
      have hd2 := dstep_lt m c
      have CC := Lib.hid (CS.out m c w hm)
      have kn : (k : Int) < n := by omega
      generalize dstep m c = d at HD hd2 CC
      clear hc hd hkz
      go_wp2_with (first
        | (go_at_call 61; (with_reducible refine CC.out.mono ?_); rintro e w1 ⟨rfl, rfl⟩))
      go_round
      case rel => exact ⟨k + 1, d, by omega, by go_num, rfl, hd2, HD⟩
      case measure => simp [intOf]; omega
    · have kn : ¬ (k : Int) < n := by omega
      obtain rfl : k = n := by omega
      have HN : Hid (m = r) := Lib.hid (HM.out.symm.trans HE.out)
      clear hd
      go_wp2
      go_ret
      exact ⟨by rw [← HN.out]; rfl, rfl⟩
set_option maxHeartbeats 2000000 in
set_option maxRecDepth 100000 in
theorem refof_any (v : Value) (zs : List UInt8) (w : World) (h : layB.Row w v zs) : Calls Try.prog 14 #[v] w fun e w' => e = .returned (.int .u64 (dg zs : Nat)) ∧ w = w' := by
  obtain ⟨p, cap, rfl, h1, hd⟩ := h.parts
  obtain ⟨n, hn⟩ : ∃ n, n = zs.length := ⟨_, rfl⟩
  rw [← hn] at h1 hd ⊢
  have HZ := Lib.hid hn
  have HE : Hid (dg (zs.take n) = dg zs) := Lib.hid (by rw [hn, List.take_length])
  clear h hn
  generalize dg zs = r at HE ⊢
  go_enter Try.func14, Try.ntmps14
  go_wp2
  go_loop [3, 4] (fun a i => ∃ k m : Nat, k ≤ n ∧ i = .int .i64 k ∧ a = .int .u64 m ∧ m < 18446744073709551616 ∧ Hid (dg (zs.take k) = m)) (fun _ i => n - (intOf i).toNat)
  case atStart => exact ⟨0, 14695981039346656037, Nat.zero_le _, rfl, rfl, by decide, Lib.hid rfl⟩
  case round =>
    obtain ⟨k, m, hk, rfl, rfl, hm, HM⟩ := hrel
    have k0 : (0 : Int) ≤ k := by omega
    by_cases hkn : k < n
    · obtain ⟨B, off, rfl, HC⟩ := hd.resolve_left (by omega)
      obtain ⟨c, hc⟩ : ∃ c, layB.at zs k = c := ⟨_, rfl⟩
      have hkz : k < zs.length := by rw [← HZ.out]; exact hkn
      have c1 := cellB HC.out hkz hc
      have HD : Hid (dg (zs.take (k + 1)) = dstep m c) := Lib.hid (by unfold dg; rw [dig_take hkz, hc, ← HM.out]; rfl)
      have hd2 := dstep_lt m c
      have hx := byte_lt c
      have x1 := xor_run hm hx
      have x2 := dstep_run (h := m) c
      have kn : (k : Int) < n := by omega
      generalize dstep m c = d at HD hd2 x2
      generalize m ^^^ c.toNat = y at x1 x2
      generalize c.toNat = x at c1 hx x1
      clear hc hd hkz
      go_wp2
      go_round
      case rel => exact ⟨k + 1, d, by omega, by go_num, rfl, hd2, HD⟩
      case measure => simp [intOf]; omega
    · have kn : ¬ (k : Int) < n := by omega
      obtain rfl : k = n := by omega
      have HN : Hid (m = r) := Lib.hid (HM.out.symm.trans HE.out)
      clear hd
      go_wp2
      go_ret
      exact ⟨by rw [← HN.out]; rfl, rfl⟩

/-! ### mixIn, Mix -/
theorem nil_any (w : World) : layB.Row w (.slice none 0 0) [] := ⟨none, 0, rfl, Nat.le_refl _, by omega, fun h => absurd rfl h⟩
def RetBelowN (m : Nat) (w : World) (e : Ending) (w' : World) : Prop := e = .returned (.int .u64 (m : Int)) ∧ Below w.heap.size w w'
end Go.Proofs.Ytapjjeffegnflaa.Dig
