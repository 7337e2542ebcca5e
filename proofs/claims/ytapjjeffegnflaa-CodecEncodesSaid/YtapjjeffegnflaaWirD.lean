/- What Get, GetEight and the document's Read give (layer 9, wire). Conditions: the bytes lie in memory as their cells say. -/
import Derived.Test.YtapjjeffegnflaaWirC
import Derived.Laws.BitsAllLaws
namespace Go.Proofs.Ytapjjeffegnflaa.Wir
open Go.RowKit Cmd Bat
set_option linter.unusedVariables false

def ret3 (r : Nat × Nat × Nat) : Ending := .returned (.tuple #[.int .u64 (r.1 : Int), .int .i64 (r.2.1 : Int), .int .i64 (r.2.2 : Int)])
theorem ret3_eq {r : Nat × Nat × Nat} {a b c : Int} {n j e : Nat} (h : r = (n, j, e)) (ha : a = n) (hb : b = j) (hc : c = e) : Ending.returned (.tuple #[.int .u64 a, .int .i64 b, .int .i64 c]) = ret3 r := by subst h ha hb hc; rfl
theorem seven_shift (d k : Nat) : (d : Int) * 2 ^ (7 * (k : Int)).toNat = ((d * 128 ^ k : Nat) : Int) := by
  rw [show (7 * (k : Int)).toNat = 7 * k by omega, show (128 : Nat) = 2 ^ 7 from rfl, ← Nat.pow_mul, Int.natCast_mul]
  simp
theorem or_add {a d k : Nat} (ha : a < 128 ^ k) (h1 : a < 18446744073709551616) (h2 : d * 128 ^ k < 18446744073709551616) : bits .or .u64 (a : Int) ((d * 128 ^ k : Nat) : Int) = ((a + d * 128 ^ k : Nat) : Int) := by
  rw [u64_or _ _ (by omega) (by omega) (by omega) (by omega), Int.toNat_natCast, Int.toNat_natCast]
  congr 1
  have h := Nat.shiftLeft_add_eq_or_of_lt (a := d) (b := a) (i := 7 * k) (by rw [Nat.pow_mul]; exact ha)
  rw [Nat.shiftLeft_eq, Nat.pow_mul] at h
  rw [Nat.or_comm, ← h, Nat.add_comm]

set_option maxHeartbeats 4000000 in
set_option maxRecDepth 100000 in
theorem get_any (v : Value) (zs : List UInt8) (w : World) (h : layB.Row w v zs) : Calls Try.prog 68 #[v] w fun e w' => e = ret3 (rd zs 0 0) ∧ w = w' := by
  obtain ⟨p, cap, rfl, h1, hd⟩ := h.parts
  obtain ⟨n, hn⟩ : ∃ n, n = zs.length := ⟨_, rfl⟩
  rw [← hn] at h1 hd ⊢
  have HZ := Lib.hid hn
  clear h hn
  generalize hr : rd zs 0 0 = r
  have HR := Lib.hid hr
  clear hr
  go_enter Try.func68, Try.ntmps68
  go_wp2
  go_step3
  go_wp2
  go_step3
  go_wp2
  go_loop [5, 6] (fun a i => ∃ k m : Nat, k ≤ n ∧ k ≤ 9 ∧ i = .int .i64 k ∧ a = .int .u64 m ∧ m < 18446744073709551616 ∧ Hid (m < 128 ^ k) ∧ Hid (rd (zs.drop k) k m = r)) (fun _ i => n - (intOf i).toNat)
  case atStart => exact ⟨0, 0, Nat.zero_le _, by decide, rfl, rfl, by decide, Lib.hid (by decide), HR⟩
  case round =>
    obtain ⟨k, m, hk, hk9, rfl, rfl, hm, HM, HE⟩ := hrel
    have k0 : (0 : Int) ≤ k := by omega
    by_cases hkn : k < n
    · obtain ⟨B, off, rfl, HC⟩ := hd.resolve_left (by omega)
      obtain ⟨c, hc⟩ : ∃ c, layB.at zs k = c := ⟨_, rfl⟩
      have hkz : k < zs.length := by rw [← HZ.out]; exact hkn
      have c1 := cellB HC.out hkz hc
      have HD : Hid (rd (c :: zs.drop (k + 1)) k m = r) := Lib.hid (by rw [← hc, ← layB.drop hkz]; exact HE.out)
      have hx := byte_lt c
      have HX := Lib.hid (fun h0 => rd_more (c := c) (r := zs.drop (k + 1)) (k := k) (a := m) h0)
      have HT := Lib.hid (fun d hd h => digit_top (d := d) HM.out hk9 hd h)
      have HL := Lib.hid (fun d hd => digit_lt (d := d) HM.out hd)
      have HO := Lib.hid (fun d h2 => or_add (d := d) HM.out hm h2)
      have HA : Hid (c.toNat = 0 → 0 < k → r = (0, 0, 3)) := Lib.hid fun h h2 => by rw [← HD.out, rd_zero h2 h]
      have HF : Hid (¬ (k = 9 ∧ 1 < c.toNat) → ¬ 128 ≤ c.toNat → ¬ (0 < k ∧ c.toNat = 0) → r = (m + c.toNat * 128 ^ k, k + 1, 0)) := Lib.hid fun h0 h1 h2 => by rw [← HD.out, rd_last h0 h1 h2]
      have HG : Hid (k = 9 → 1 < c.toNat → r = (0, 0, 3)) := Lib.hid fun h h2 => by rw [← HD.out]; subst h; exact rd_great h2
      obtain ⟨x, hxx⟩ : ∃ x, c.toNat = x := ⟨_, rfl⟩
      rw [hxx] at c1 hx
      rw [hxx] at HX HA HF HG
      have kn : (k : Int) < n := by omega
      clear hc hd hkz hxx
      by_cases h9 : k = 9 ∧ 1 < x
      · obtain ⟨rfl, h9⟩ := h9
        have h9' : (1 : Int) < x := by omega
        have HGG := Lib.hid (HG.out rfl h9)
        go_wp2
        go_ret3
        exact ⟨ret3_eq HGG.out rfl rfl rfl, rfl⟩
      · have h99 : (k : Int) ≠ 9 ∨ (k : Int) = 9 ∧ ¬ (1 : Int) < x := by omega
        by_cases h128 : 128 ≤ x
        · have h1 : (128 : Int) ≤ x := by omega
          have k9 : (k : Int) ≠ 9 := by omega
          have HX2 := Lib.hid (HX.out h9 h128)
          have ht := HT.out (x - 128) (by omega) (by omega)
          have HL2 := Lib.hid (HL.out (x - 128) (by omega))
          have ho := HO.out (x - 128) ht.2
          have hs := seven_shift (x - 128) k
          rw [show ((x - 128 : Nat) : Int) = (x : Int) - 128 by omega] at hs
          obtain ⟨d, hdd⟩ : ∃ d, (x - 128) * 128 ^ k = d := ⟨_, rfl⟩
          rw [hdd] at ht ho hs HX2 HL2
          obtain ⟨ht1, ht2⟩ := ht
          clear hdd h99
          go_wp2
          go_round
          case rel => exact ⟨k + 1, m + d, by omega, by omega, by go_num, rfl, ht1, HL2, Lib.hid (by rw [← HX2.out]; exact HD.out)⟩
          case measure => simp [intOf]; omega
        · have h1 : ¬ (128 : Int) ≤ x := by omega
          have ht := HT.out x (by omega) (by omega)
          have ho := HO.out x ht.2
          have hs := seven_shift x k
          have HF2 := Lib.hid (HF.out h9 h128)
          obtain ⟨d, hdd⟩ : ∃ d, x * 128 ^ k = d := ⟨_, rfl⟩
          rw [hdd] at ht ho hs HF2
          obtain ⟨ht1, ht2⟩ := ht
          have kne : ¬ (k : Int) = n := by omega
          clear hdd h128
          by_cases hk1 : k = 0
          · have hk3 : ¬ (0 : Int) < k := by omega
            have HF3 := Lib.hid (HF2.out (by omega))
            clear hk1 h99
            go_wp2
            go_ret3
            exact ⟨ret3_eq HF3.out (Int.natCast_add _ _).symm (Int.natCast_add _ _).symm rfl, rfl⟩
          · have hk3 : (0 : Int) < k := by omega
            have hx0 : (x = 0 ∧ ((x : Int) == 0) = true) ∨ (x ≠ 0 ∧ ((x : Int) == 0) = false) := by
              rw [beq_iff_eq, beq_eq_false_iff_ne]; omega
            have hk9' : (((k : Int) == 9) = true ∧ ¬ (1 : Int) < x) ∨ ((k : Int) == 9) = false := by
              rw [beq_iff_eq, beq_eq_false_iff_ne]; omega
            rcases hx0 with ⟨hx0, hx1⟩ | ⟨hx0, hx1⟩
            · have HA2 := Lib.hid (HA.out hx0 (by omega))
              clear hk1 h99 hx0 HF2
              rcases hk9' with ⟨e1, e2⟩ | e1
              · go_wp2
                go_ret3
                exact ⟨ret3_eq HA2.out rfl rfl rfl, rfl⟩
              · go_wp2
                go_ret3
                exact ⟨ret3_eq HA2.out rfl rfl rfl, rfl⟩
            · have HF3 := Lib.hid (HF2.out (by omega))
              clear hk1 h99 hx0 HF2
              rcases hk9' with ⟨e1, e2⟩ | e1
              · go_wp2
                go_ret3
                exact ⟨ret3_eq HF3.out (Int.natCast_add _ _).symm (Int.natCast_add _ _).symm rfl, rfl⟩
              · go_wp2
                go_ret3
                exact ⟨ret3_eq HF3.out (Int.natCast_add _ _).symm (Int.natCast_add _ _).symm rfl, rfl⟩
    · have kn : ¬ (k : Int) < n := by omega
      obtain rfl : k = n := by omega
      have HN : Hid (r = (0, 0, 4)) := Lib.hid (by rw [← HE.out, List.drop_of_length_le (by rw [← HZ.out]; exact Nat.le_refl _), rd_nil])
      clear hd
      go_wp2
      go_ret3
      exact ⟨ret3_eq HN.out rfl rfl rfl, rfl⟩

set_option maxHeartbeats 4000000 in
set_option maxRecDepth 100000 in
theorem read_any (v : Value) (zs : List UInt8) (w : World) (h : layB.Row w v zs) : Calls Try.prog 54 #[v] w fun e w' => e = ret3 (rd zs 0 0) ∧ w = w' := by
  obtain ⟨p, cap, rfl, h1, hd⟩ := h.parts
  obtain ⟨n, hn⟩ : ∃ n, n = zs.length := ⟨_, rfl⟩
  rw [← hn] at h1 hd ⊢
  have HZ := Lib.hid hn
  clear h hn
  generalize hr : rd zs 0 0 = r
  have HR := Lib.hid hr
  clear hr
  go_enter Try.func54, Try.ntmps54
  go_wp2
  go_loop [5, 6, 7] (fun a j i => ∃ k m : Nat, k ≤ n ∧ k ≤ 9 ∧ i = .int .i64 k ∧ j = .int .i64 k ∧ a = .int .u64 m ∧ m < 18446744073709551616 ∧ Hid (m < 128 ^ k) ∧ Hid (rd (zs.drop k) k m = r)) (fun _ _ i => n - (intOf i).toNat)
  case atStart => exact ⟨0, 0, Nat.zero_le _, by decide, rfl, rfl, rfl, by decide, Lib.hid (by decide), HR⟩
  case round =>
    obtain ⟨k, m, hk, hk9, rfl, rfl, rfl, hm, HM, HE⟩ := hrel
    have k0 : (0 : Int) ≤ k := by omega
    by_cases hkn : k < n
    · obtain ⟨B, off, rfl, HC⟩ := hd.resolve_left (by omega)
      obtain ⟨c, hc⟩ : ∃ c, layB.at zs k = c := ⟨_, rfl⟩
      have hkz : k < zs.length := by rw [← HZ.out]; exact hkn
      have c1 := cellB HC.out hkz hc
      have HD : Hid (rd (c :: zs.drop (k + 1)) k m = r) := Lib.hid (by rw [← hc, ← layB.drop hkz]; exact HE.out)
      have hx := byte_lt c
      have HX := Lib.hid (fun h0 => rd_more (c := c) (r := zs.drop (k + 1)) (k := k) (a := m) h0)
      have HT := Lib.hid (fun d hd h => digit_top (d := d) HM.out hk9 hd h)
      have HL := Lib.hid (fun d hd => digit_lt (d := d) HM.out hd)
      have HA : Hid (c.toNat = 0 → 0 < k → r = (0, 0, 3)) := Lib.hid fun h h2 => by rw [← HD.out, rd_zero h2 h]
      have HF : Hid (¬ (k = 9 ∧ 1 < c.toNat) → ¬ 128 ≤ c.toNat → ¬ (0 < k ∧ c.toNat = 0) → r = (m + c.toNat * 128 ^ k, k + 1, 0)) := Lib.hid fun h0 h1 h2 => by rw [← HD.out, rd_last h0 h1 h2]
      have HG : Hid (k = 9 → 1 < c.toNat → r = (0, 0, 3)) := Lib.hid fun h h2 => by rw [← HD.out]; subst h; exact rd_great h2
      obtain ⟨x, hxx⟩ : ∃ x, c.toNat = x := ⟨_, rfl⟩
      rw [hxx] at c1 hx
      rw [hxx] at HX HA HF HG
      have kn : (k : Int) < n := by omega
      clear hc hd hkz hxx
      by_cases h9 : k = 9 ∧ 1 < x
      · obtain ⟨rfl, h9⟩ := h9
        have h9' : (1 : Int) < x := by omega
        have HGG := Lib.hid (HG.out rfl h9)
        go_wp2
        go_ret3
        exact ⟨ret3_eq HGG.out rfl rfl rfl, rfl⟩
      · by_cases h128 : 128 ≤ x
        · have h1 : (128 : Int) ≤ x := by omega
          have k9 : ((k : Int) == 9) = false := by rw [beq_eq_false_iff_ne]; omega
          have HX2 := Lib.hid (HX.out h9 h128)
          have ht := HT.out (x - 128) (by omega) (by omega)
          have HL2 := Lib.hid (HL.out (x - 128) (by omega))
          have hs := seven_shift (x - 128) k
          rw [show ((x - 128 : Nat) : Int) = (x : Int) % 128 by omega] at hs
          obtain ⟨d, hdd⟩ : ∃ d, (x - 128) * 128 ^ k = d := ⟨_, rfl⟩
          rw [hdd] at ht hs HX2 HL2
          obtain ⟨ht1, ht2⟩ := ht
          have hk8 : k + 1 ≤ 9 := by omega
          clear hdd h9
          go_wp2
          go_round
          case rel => exact ⟨k + 1, m + d, by omega, hk8, by go_num, by go_num, by go_num, ht1, HL2, Lib.hid (by rw [← HX2.out]; exact HD.out)⟩
          case measure => simp [intOf]; omega
        · have h1 : ¬ (128 : Int) ≤ x := by omega
          have ht := HT.out x (by omega) (by omega)
          have hs := seven_shift x k
          have hs' := seven_shift x k
          rw [show (x : Int) = (x : Int) % 128 by omega] at hs'
          have HF2 := Lib.hid (HF.out h9 h128)
          obtain ⟨d, hdd⟩ : ∃ d, x * 128 ^ k = d := ⟨_, rfl⟩
          rw [hdd] at ht hs hs' HF2
          obtain ⟨ht1, ht2⟩ := ht
          have hk9' : (((k : Int) == 9) = true ∧ ¬ (1 : Int) < x) ∨ ((k : Int) == 9) = false := by
            rw [beq_iff_eq, beq_eq_false_iff_ne]; omega
          have hx0 : (x = 0 ∧ ((x : Int) == 0) = true) ∨ (x ≠ 0 ∧ ((x : Int) == 0) = false) := by
            rw [beq_iff_eq, beq_eq_false_iff_ne]; omega
          have hkp : (0 < k ∧ (0 : Int) < k) ∨ (¬ 0 < k ∧ ¬ (0 : Int) < k) := by omega
          clear hdd h128
          rcases hx0 with ⟨hx0, hx1⟩ | ⟨hx0, hx1⟩
          · rcases hkp with ⟨kp, kp'⟩ | ⟨kp, kp'⟩
            · have HA2 := Lib.hid (HA.out hx0 kp)
              clear kp hx0 h9
              rcases hk9' with ⟨e1, e2⟩ | e1
              · go_wp2
                go_ret3
                exact ⟨ret3_eq HA2.out rfl rfl rfl, rfl⟩
              · go_wp2
                go_ret3
                exact ⟨ret3_eq HA2.out rfl rfl rfl, rfl⟩
            · have HF3 := Lib.hid (HF2.out (by omega))
              clear kp hx0 h9
              rcases hk9' with ⟨e1, e2⟩ | e1
              · exact absurd (eq_of_beq e1) (by omega)
              · go_wp2
                go_ret3
                exact ⟨ret3_eq HF3.out (Int.natCast_add _ _).symm (Int.natCast_add _ _).symm rfl, rfl⟩
          · have HF3 := Lib.hid (HF2.out (by omega))
            clear hkp hx0 h9
            rcases hk9' with ⟨e1, e2⟩ | e1
            · go_wp2
              go_ret3
              exact ⟨ret3_eq HF3.out (Int.natCast_add _ _).symm (Int.natCast_add _ _).symm rfl, rfl⟩
            · go_wp2
              go_ret3
              exact ⟨ret3_eq HF3.out (Int.natCast_add _ _).symm (Int.natCast_add _ _).symm rfl, rfl⟩
    · have kn : ¬ (k : Int) < n := by omega
      obtain rfl : k = n := by omega
      have HN : Hid (r = (0, 0, 4)) := Lib.hid (by rw [← HE.out, List.drop_of_length_le (by rw [← HZ.out]; exact Nat.le_refl _), rd_nil])
      clear hd
      go_wp2
      go_ret3
      exact ⟨ret3_eq HN.out rfl rfl rfl, rfl⟩
end Go.Proofs.Ytapjjeffegnflaa.Wir
