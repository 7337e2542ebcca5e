/- What step, Of, the document's Of, mixIn and Mix give (layer 10, digest). Conditions: the bytes lie in memory as their cells say; numbers are words of 64 bits. -/
import Derived.Test.YtacgmhnalbbgbaaDigA
import Derived.Test.YtacgmhnalbbgbaaWirC
import Derived.Laws.BitsAllLaws
namespace Go.Proofs.Ytacgmhnalbbgbaa.Dig
open Go.RowKit Cmd Bat Wir
set_option linter.unusedVariables false

theorem xor_run {h x : Nat} (hh : h < 18446744073709551616) (hx : x < 256) : bits .xor .u64 (h : Int) (x : Int) = ((h ^^^ x : Nat) : Int) := by
  rw [u64_xor _ _ (by omega) (by omega) (by omega) (by omega), Int.toNat_natCast, Int.toNat_natCast]
theorem dstep_run {h : Nat} (c : UInt8) : IntKind.u64.wrap (((h ^^^ c.toNat : Nat) : Int) * 1099511628211) = ((dstep h c : Nat) : Int) := by
  unfold dstep; rw [IntKind.wrap_u64, Int.natCast_emod, Int.natCast_mul]; rfl

set_option maxHeartbeats 1000000 in
set_option maxRecDepth 100000 in
theorem step_any (h : Nat) (c : UInt8) (w : World) (hh : h < 18446744073709551616) : Calls Try.prog 65 #[.int .u64 h, .int .u8 c.toNat] w fun e w' => e = .returned (.int .u64 (dstep h c : Nat)) ∧ w = w' := by
  have hx := byte_lt c
  have h1 := xor_run hh hx
  have h2 := dstep_run (h := h) c
  obtain ⟨d, hd⟩ : ∃ d, dstep h c = d := ⟨_, rfl⟩
  have hd2 := dstep_lt h c
  rw [hd] at h2 hd2 ⊢
  obtain ⟨y, hy⟩ : ∃ y, h ^^^ c.toNat = y := ⟨_, rfl⟩
  rw [hy] at h1 h2
  obtain ⟨x, hxx⟩ : ∃ x, c.toNat = x := ⟨_, rfl⟩
  rw [hxx] at h1 hx ⊢
  clear hd hy hxx
  go_enter Try.func65, Try.ntmps65
  go_wp2
  go_ret
  exact ⟨rfl, rfl⟩

/-! ### Of, the document's Of -/
theorem dig_take {zs : List UInt8} {k : Nat} (h : k < zs.length) (g : Nat) : dig g (zs.take (k + 1)) = dstep (dig g (zs.take k)) (layB.at zs k) := by
  rw [layB.take h, dig_snoc]
set_option maxHeartbeats 2000000 in
set_option maxRecDepth 100000 in
theorem of_any (v : Value) (zs : List UInt8) (w : World) (h : layB.Row w v zs) : Calls Try.prog 46 #[v] w fun e w' => e = .returned (.int .u64 (dg zs : Nat)) ∧ w = w' := by
  obtain ⟨p, cap, rfl, h1, hd⟩ := h.parts
  obtain ⟨n, hn⟩ : ∃ n, n = zs.length := ⟨_, rfl⟩
  rw [← hn] at h1 hd ⊢
  have HZ := Lib.hid hn
  have HE : Hid (dg (zs.take n) = dg zs) := Lib.hid (by rw [hn, List.take_length])
  have CS := Lib.hid step_any
  clear h hn
  generalize dg zs = r at HE ⊢
  go_enter Try.func46, Try.ntmps46
  go_wp2
  go_loop [3, 8] (fun a i => ∃ k m : Nat, k ≤ n ∧ i = .int .i64 k ∧ a = .int .u64 m ∧ m < 18446744073709551616 ∧ Hid (dg (zs.take k) = m)) (fun _ i => n - (intOf i).toNat)
  case atStart => exact ⟨0, 14695981039346656037, Nat.zero_le _, rfl, rfl, by decide, Lib.hid rfl⟩
  case round =>
    obtain ⟨k, m, hk, rfl, rfl, hm, HM⟩ := hrel
    have k0 : (0 : Int) ≤ k := by omega
    by_cases hkn : k < n
    · obtain ⟨B, off, rfl, HC⟩ := hd.resolve_left (by omega)
      obtain ⟨c, hc⟩ : ∃ c, layB.at zs k = c := ⟨_, rfl⟩
      have hkz : k < zs.length := by rw [← HZ.out]; exact hkn
      have c1 := cellB HC.out hkz hc
      have HD : Hid (dg (zs.take (k + 1)) = dstep m c) := Lib.hid (by unfold dg; rw [dig_take hkz, hc, ← HM.out]; rfl)
      have hd2 := dstep_lt m c
      have CC := Lib.hid (CS.out m c w hm)
      have kn : (k : Int) < n := by omega
      generalize dstep m c = d at HD hd2 CC
      clear hc hd hkz
      go_wp2_with (first
        | (go_at_call 65; (with_reducible refine CC.out.mono ?_); rintro e w1 ⟨rfl, rfl⟩))
      go_round
      case rel => exact ⟨k + 1, d, by omega, by go_num, rfl, hd2, HD⟩
      case measure => simp [intOf]; omega
    · have kn : ¬ (k : Int) < n := by omega
      obtain rfl : k = n := by omega
      have HN : Hid (m = r) := Lib.hid (HM.out.symm.trans HE.out)
      clear hd
      go_wp2
      go_ret
      exact ⟨by rw [← HN.out]; rfl, rfl⟩
set_option maxHeartbeats 2000000 in
set_option maxRecDepth 100000 in
theorem refof_any (v : Value) (zs : List UInt8) (w : World) (h : layB.Row w v zs) : Calls Try.prog 59 #[v] w fun e w' => e = .returned (.int .u64 (dg zs : Nat)) ∧ w = w' := by
  obtain ⟨p, cap, rfl, h1, hd⟩ := h.parts
  obtain ⟨n, hn⟩ : ∃ n, n = zs.length := ⟨_, rfl⟩
  rw [← hn] at h1 hd ⊢
  have HZ := Lib.hid hn
  have HE : Hid (dg (zs.take n) = dg zs) := Lib.hid (by rw [hn, List.take_length])
  clear h hn
  generalize dg zs = r at HE ⊢
  go_enter Try.func59, Try.ntmps59
  go_wp2
  go_loop [3, 4] (fun a i => ∃ k m : Nat, k ≤ n ∧ i = .int .i64 k ∧ a = .int .u64 m ∧ m < 18446744073709551616 ∧ Hid (dg (zs.take k) = m)) (fun _ i => n - (intOf i).toNat)
  case atStart => exact ⟨0, 14695981039346656037, Nat.zero_le _, rfl, rfl, by decide, Lib.hid rfl⟩
  case round =>
    obtain ⟨k, m, hk, rfl, rfl, hm, HM⟩ := hrel
    have k0 : (0 : Int) ≤ k := by omega
    by_cases hkn : k < n
    · obtain ⟨B, off, rfl, HC⟩ := hd.resolve_left (by omega)
      obtain ⟨c, hc⟩ : ∃ c, layB.at zs k = c := ⟨_, rfl⟩
      have hkz : k < zs.length := by rw [← HZ.out]; exact hkn
      have c1 := cellB HC.out hkz hc
      have HD : Hid (dg (zs.take (k + 1)) = dstep m c) := Lib.hid (by unfold dg; rw [dig_take hkz, hc, ← HM.out]; rfl)
      have hd2 := dstep_lt m c
      have hx := byte_lt c
      have x1 := xor_run hm hx
      have x2 := dstep_run (h := m) c
      have kn : (k : Int) < n := by omega
      generalize dstep m c = d at HD hd2 x2
      generalize m ^^^ c.toNat = y at x1 x2
      generalize c.toNat = x at c1 hx x1
      clear hc hd hkz
      go_wp2
      go_round
      case rel => exact ⟨k + 1, d, by omega, by go_num, rfl, hd2, HD⟩
      case measure => simp [intOf]; omega
    · have kn : ¬ (k : Int) < n := by omega
      obtain rfl : k = n := by omega
      have HN : Hid (m = r) := Lib.hid (HM.out.symm.trans HE.out)
      clear hd
      go_wp2
      go_ret
      exact ⟨by rw [← HN.out]; rfl, rfl⟩

/-! ### mixIn, Mix -/
theorem nil_any (w : World) : layB.Row w (.slice none 0 0) [] := ⟨none, 0, rfl, Nat.le_refl _, by omega, fun h => absurd rfl h⟩
def RetBelowN (m : Nat) (w : World) (e : Ending) (w' : World) : Prop := e = .returned (.int .u64 (m : Int)) ∧ Below w.heap.size w w'
set_option maxHeartbeats 2000000 in
set_option maxRecDepth 100000 in
theorem mixin_any (h n : Nat) (w : World) (hh : h < 18446744073709551616) (hn : n < 18446744073709551616) : Calls Try.prog 64 #[.int .u64 h, .int .u64 n] w (RetBelowN (dig h (big n)) w) := by
  have HC : Hid (Calls Try.prog 47 #[.slice none 0 0, .int .u64 n] w (GivesB (big n) w)) := Lib.hid (by
    have := eight_any _ [] n w (nil_any w) (by decide) hn
    rwa [List.nil_append] at this)
  have HL := Lib.hid (big_len n)
  have HE : Hid (dig h ((big n).take 8) = dig h (big n)) := Lib.hid (by rw [← HL.out, List.take_length])
  have H0 : Hid (dig h ((big n).take 0) = h) := Lib.hid rfl
  have CS := Lib.hid step_any
  generalize big n = zs at HC HL HE H0 ⊢
  generalize dig h zs = r at HE ⊢
  go_enter Try.func64, Try.ntmps64
  go_wp2_with (first
    | (go_at_call 47; (with_reducible refine HC.out.mono ?_); rintro e w1 ⟨u, rfl, ho, hb⟩; have HB := Lib.hid hb; obtain ⟨p, cap, rfl, h1, hd⟩ := (rowB ho).parts; have HLL := HL.out; rw [HLL] at h1 hd; clear ho hb HLL))
  obtain ⟨B, off, rfl, HI⟩ := hd.resolve_left (by decide)
  rw [HL.out]
  go_loop [0, 9] (fun a i => ∃ k m : Nat, k ≤ 8 ∧ i = .int .i64 k ∧ a = .int .u64 m ∧ m < 18446744073709551616 ∧ Hid (dig h (zs.take k) = m)) (fun _ i => 8 - (intOf i).toNat)
  case atStart => exact ⟨0, h, Nat.zero_le _, rfl, rfl, hh, H0⟩
  case round =>
    obtain ⟨k, m, hk, rfl, rfl, hm, HM⟩ := hrel
    have k0 : (0 : Int) ≤ k := by omega
    by_cases hkn : k < 8
    · obtain ⟨c, hc⟩ : ∃ c, layB.at zs k = c := ⟨_, rfl⟩
      have hkz : k < zs.length := by rw [HL.out]; exact hkn
      have c1 := cellB HI.out hkz hc
      have HD : Hid (dig h (zs.take (k + 1)) = dstep m c) := Lib.hid (by rw [dig_take hkz, hc, ← HM.out])
      have hd2 := dstep_lt m c
      have CC := Lib.hid (CS.out m c w1 hm)
      have kn : (k : Int) < 8 := by omega
      generalize dstep m c = d at HD hd2 CC
      clear hc hkz
      go_wp2_with (first
        | (go_at_call 65; (with_reducible refine CC.out.mono ?_); rintro e w1 ⟨rfl, rfl⟩))
      go_round
      case rel => exact ⟨k + 1, d, by omega, by go_num, rfl, hd2, HD⟩
      case measure => simp [intOf]; omega
    · have kn : ¬ (k : Int) < 8 := by omega
      obtain rfl : k = 8 := by omega
      have HN : Hid (m = r) := Lib.hid (HM.out.symm.trans HE.out)
      go_wp2
      go_ret
      exact ⟨by rw [← HN.out]; rfl, HB.out⟩
set_option maxHeartbeats 2000000 in
set_option maxRecDepth 100000 in
theorem mix_any (a b : Nat) (w : World) (ha : a < 18446744073709551616) (hb : b < 18446744073709551616) : Calls Try.prog 45 #[.int .u64 a, .int .u64 b] w (RetBelowN (dg (big a ++ big b)) w) := by
  have C1 : Hid (Calls Try.prog 64 #[.int .u64 14695981039346656037, .int .u64 a] w (RetBelowN (dg (big a)) w)) := Lib.hid (mixin_any 14695981039346656037 a w (by decide) ha)
  have hd := dg_lt (big a)
  have C2 := Lib.hid (fun w => mixin_any (dg (big a)) b w hd hb)
  have HE : Hid (dg (big a ++ big b) = dig (dg (big a)) (big b)) := Lib.hid (by unfold dg; rw [dig_append])
  generalize dg (big a ++ big b) = r at HE ⊢
  generalize dig (dg (big a)) (big b) = q at C2 HE
  generalize dg (big a) = m at C1 hd C2
  go_enter Try.func45, Try.ntmps45
  go_wp2_with (first
    | (go_at_call 64; first
        | ((with_reducible refine C1.out.mono ?_); rintro e w1 ⟨rfl, hb⟩; have HB := Lib.hid hb; clear hb)
        | ((with_reducible refine (C2.out _).mono ?_); rintro e w2 ⟨rfl, hb⟩; have HB2 := Lib.hid (HB.out.trans (hb.mono HB.out.size)); clear hb)))
  go_ret
  exact ⟨by rw [HE.out]; rfl, HB2.out⟩
end Go.Proofs.Ytacgmhnalbbgbaa.Dig
