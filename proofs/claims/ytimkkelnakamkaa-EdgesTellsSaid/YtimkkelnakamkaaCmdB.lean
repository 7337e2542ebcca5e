/- What the small functions of layer 6 (cmd) and of the document's answer give, for any command: which may be, which write, which conflict, which are the same. Condition: a number's word of 64 bits. -/
import Derived.Test.YtimkkelnakamkaaCmdA
import Derived.Test.YtimkkelnakamkaaRealB
namespace Go.Proofs.Ytimkkelnakamkaa.Cmd
open Go.RowKit F64 Go.Lib
set_option linter.unusedVariables false

theorem all_step {l : List UInt8} {k : Nat} (h : ∀ j (h : j < l.length), j < k → keyByte l[j] = true) (hk : k < l.length) (hd : keyByte l[k] = true) : ∀ j (h : j < l.length), j < k + 1 → keyByte l[j] = true := fun j hj hjk => by
  by_cases e : j = k
  · subst e; exact hd
  · exact h j hj (by omega)
theorem all_end {l : List UInt8} (h : ∀ j (h : j < l.length), j < l.length → keyByte l[j] = true) : l.all keyByte = true := by
  rw [List.all_eq_true]
  intro c hc
  obtain ⟨j, hj, rfl⟩ := List.getElem_of_mem hc
  exact h j hj hj
theorem all_bad {l : List UInt8} {k : Nat} (hk : k < l.length) (hd : keyByte l[k] = false) : l.all keyByte = false := by
  cases h : l.all keyByte with
  | false => rfl
  | true =>
    rw [List.all_eq_true] at h
    rw [h _ (List.getElem_mem hk)] at hd; cases hd
theorem key_cases (c : UInt8) (d : Int) (h : d = (c.toNat : Nat)) : (keyByte c = true ∧ decide (97 ≤ d) = true ∧ decide (d ≤ 122) = true ∧ decide (48 ≤ d) = true ∧ decide (d ≤ 57) = false) ∨ (keyByte c = true ∧ decide (97 ≤ d) = false ∧ decide (d ≤ 122) = true ∧ decide (48 ≤ d) = true ∧ decide (d ≤ 57) = true)
    ∨ (keyByte c = false ∧ decide (97 ≤ d) = false ∧ decide (d ≤ 122) = true ∧ decide (48 ≤ d) = false ∧ decide (d ≤ 57) = true) ∨ (keyByte c = false ∧ decide (97 ≤ d) = false ∧ decide (d ≤ 122) = true ∧ decide (48 ≤ d) = true ∧ decide (d ≤ 57) = false)
    ∨ (keyByte c = false ∧ decide (97 ≤ d) = true ∧ decide (d ≤ 122) = false ∧ decide (48 ≤ d) = true ∧ decide (d ≤ 57) = false) := by
  unfold keyByte
  simp only [Bool.or_eq_true, Bool.or_eq_false_iff, decide_eq_true_eq, decide_eq_false_iff_not]
  omega

set_option maxHeartbeats 2000000 in
theorem iskey_any (l : List UInt8) (w : World) : Calls Try.prog 86 #[.string (str l)] w fun e w' => e = .returned (.bool (isKeyL l)) ∧ w = w' := by
  obtain ⟨n, hn⟩ : ∃ n, n = l.length := ⟨_, rfl⟩
  have hsz : (((str l).size : Nat) : Int) = n := by rw [str_size, hn]
  have HN := Lib.hid hn
  by_cases h1 : n < 1
  · have h2 : (n : Int) < 1 := by omega
    have hk : isKeyL l = false := by unfold isKeyL; rw [← hn]; simp; omega
    rw [hk]
    clear hn h1
    go_enter Try.func86, Try.ntmps86
    go_wp2
    go_ret
    exact ⟨rfl, rfl⟩
  · by_cases h12 : 12 < n
    · have h2 : (12 : Int) < n := by omega
      have hk : isKeyL l = false := by unfold isKeyL; rw [← hn]; simp; omega
      rw [hk]
      clear hn h1 h12
      go_enter Try.func86, Try.ntmps86
      go_wp2
      go_ret
      exact ⟨rfl, rfl⟩
    · have k1 : (1 : Int) ≤ n := by omega
      have k2 : (n : Int) ≤ 12 := by omega
      have hk : isKeyL l = l.all keyByte := by
        unfold isKeyL; rw [← hn, decide_eq_true (by omega : 1 ≤ n ∧ n ≤ 12), Bool.true_and]
      rw [hk]
      clear hn h1 h12 hk
      go_enter Try.func86, Try.ntmps86
      go_wp2
      go_loop [16] (fun i => ∃ k : Nat, k ≤ n ∧ i = .int .i64 k ∧ Hid (∀ j (h : j < l.length), j < k → keyByte l[j] = true)) (fun i => n - (RowKit.intOf i).toNat)
      case atStart => exact ⟨0, Nat.zero_le _, rfl, Lib.hid fun j _ h => absurd h (Nat.not_lt_zero _)⟩
      case round =>
        obtain ⟨k, hkn, rfl, HA⟩ := hrel
        by_cases hlt : k < n
        · have hll : k < l.length := by rw [← HN.out]; exact hlt
          have hx := idx_run l k hll
          have kl : (k : Int) < n := by omega
          have k0 : (0 : Int) ≤ k := by omega
          obtain ⟨d, hd⟩ : ∃ d : Int, d = ((l[k]).toNat : Nat) := ⟨_, rfl⟩
          have hc := key_cases l[k] d hd
          rw [← hd] at hx
          rcases hc with ⟨h1, h2, h3, h4, h5⟩ | ⟨h1, h2, h3, h4, h5⟩ | ⟨h1, h2, h3, h4, h5⟩ | ⟨h1, h2, h3, h4, h5⟩ | ⟨h1, h2, h3, h4, h5⟩
          · have HR := Lib.hid (all_step HA.out hll h1)
            clear hd h1 hll
            go_wp2
            go_round
            case rel => exact ⟨k + 1, by omega, by go_num, HR⟩
            case measure => simp [RowKit.intOf]; omega
          · have HR := Lib.hid (all_step HA.out hll h1)
            clear hd h1 hll
            go_wp2
            go_round
            case rel => exact ⟨k + 1, by omega, by go_num, HR⟩
            case measure => simp [RowKit.intOf]; omega
          all_goals
            have HB := Lib.hid (all_bad hll h1)
            clear hd h1 hll
            go_wp2
            go_ret
            exact ⟨ret_bool HB.out.symm, rfl⟩
        · have kl : (n : Int) ≤ k := by omega
          obtain rfl : k = n := by omega
          have HB : Hid (l.all keyByte = true) := Lib.hid (all_end fun j h1 h2 => HA.out j h1 (by rw [HN.out]; exact h2))
          go_wp2
          go_ret
          exact ⟨ret_bool HB.out.symm, rfl⟩

set_option maxHeartbeats 2000000 in
theorem refkey_any (l : List UInt8) (w : World) (hl : (l.length : Int) ≤ 9223372036854775807) : Calls Try.prog 63 #[.string (str l)] w fun e w' => e = .returned (.bool (isKeyL l)) ∧ w = w' := by
  obtain ⟨n, hn⟩ : ∃ n, n = l.length := ⟨_, rfl⟩
  have hsz : (((str l).size : Nat) : Int) = n := by rw [str_size, hn]
  have HN := Lib.hid hn
  have HE : Hid (l.all keyByte = true → isKeyL l = (decide ((1 : Int) ≤ n) && decide ((n : Int) ≤ 12))) := Lib.hid fun h => by
    unfold isKeyL; rw [← hn, h, Bool.and_true]
    rw [Bool.eq_iff_iff]; simp; omega
  have HF : Hid (l.all keyByte = false → isKeyL l = false) := Lib.hid fun h => by unfold isKeyL; rw [h, Bool.and_false]
  rw [← hn] at hl
  clear hn
  go_enter Try.func63, Try.ntmps63
  go_wp2
  go_loop [3] (fun i => ∃ k : Nat, k ≤ n ∧ i = .int .i64 k ∧ Hid (∀ j (h : j < l.length), j < k → keyByte l[j] = true)) (fun i => n - (RowKit.intOf i).toNat)
  case atStart => exact ⟨0, Nat.zero_le _, rfl, Lib.hid fun j _ h => absurd h (Nat.not_lt_zero _)⟩
  case round =>
    obtain ⟨k, hkn, rfl, HA⟩ := hrel
    by_cases hlt : k < n
    · have hll : k < l.length := by rw [← HN.out]; exact hlt
      have hx := idx_run l k hll
      have kl : (k : Int) < n := by omega
      have k0 : (0 : Int) ≤ k := by omega
      obtain ⟨d, hd⟩ : ∃ d : Int, d = ((l[k]).toNat : Nat) := ⟨_, rfl⟩
      have hc := key_cases l[k] d hd
      rw [← hd] at hx
      rcases hc with ⟨h1, h2, h3, h4, h5⟩ | ⟨h1, h2, h3, h4, h5⟩ | ⟨h1, h2, h3, h4, h5⟩ | ⟨h1, h2, h3, h4, h5⟩ | ⟨h1, h2, h3, h4, h5⟩
      · have HR := Lib.hid (all_step HA.out hll h1)
        clear hd h1 hll
        go_wp2
        go_round
        case rel => exact ⟨k + 1, by omega, by go_num, HR⟩
        case measure => simp [RowKit.intOf]; omega
      · have HR := Lib.hid (all_step HA.out hll h1)
        clear hd h1 hll
        go_wp2
        go_round
        case rel => exact ⟨k + 1, by omega, by go_num, HR⟩
        case measure => simp [RowKit.intOf]; omega
      all_goals
        have HB := Lib.hid (all_bad hll h1)
        clear hd h1 hll
        go_wp2
        go_ret
        exact ⟨ret_bool (HF.out HB.out).symm, rfl⟩
    · have kl : (n : Int) ≤ k := by omega
      obtain rfl : k = n := by omega
      have HB : Hid (l.all keyByte = true) := Lib.hid (all_end fun j h1 h2 => HA.out j h1 (by rw [HN.out]; exact h2))
      by_cases h1 : (1 : Int) ≤ k
      · by_cases h2 : (k : Int) ≤ 12
        · go_wp2
          go_ret
          exact ⟨ret_bool (by rw [HE.out HB.out, decide_eq_true h1, decide_eq_true h2]; rfl), rfl⟩
        · have h3 : 12 < (k : Int) := by omega
          go_wp2
          go_ret
          exact ⟨ret_bool (by rw [HE.out HB.out, decide_eq_false (by omega : ¬ (k : Int) ≤ 12), Bool.and_false]), rfl⟩
      · have h3 : (k : Int) < 1 := by omega
        go_wp2
        go_ret
        exact ⟨ret_bool (by rw [HE.out HB.out, decide_eq_false (by omega : ¬ (1 : Int) ≤ k)]; rfl), rfl⟩

/-! ### Which may be -/
theorem same_zero {v : Nat} (hv : v < 18446744073709551616) : same v 0 = decide (v = 0) := by
  unfold same
  have h0 : canon 0 = 0 := by decide
  rw [h0]
  unfold canon
  split
  · rename_i hn
    have : v ≠ 0 := fun e => by subst e; revert hn; decide
    simp [this]
  · rfl
theorem kind_zero {v : Nat} (hv : v < 18446744073709551616) : (kind v == 4) = decide (v = 0) := by
  rw [Bool.eq_iff_iff, beq_iff_eq, decide_eq_true_eq]
  constructor
  · intro h
    rcases kind_cases v with h1 | h1 | h1 | h1 | h1 | h1
    · rw [h1.1] at h; cases h
    · rw [h1.1] at h; cases h
    · rw [h1.1] at h; cases h
    · rw [h1.1] at h; cases h
    · exact word_eq hv (by decide) (h1.2.2.2.trans (by decide)) (h1.2.2.1.trans (by decide))
    · rcases h1.1 with e | e <;> rw [e] at h <;> cases h
  · rintro rfl; decide
theorem may_any (k : Int) (v : Nat) (w : World) (hv : v < 18446744073709551616) : Calls Try.prog 87 #[.int .i64 k, .float .f64 v] w fun e w' => e = .returned (.bool (mayV k v)) ∧ w = w' := by
  have HZ := Lib.hid (same_zero hv)
  clear hv
  have key : (k = 1 ∧ mayV k v = decide (v = 0)) ∨ (k = 3 ∧ mayV k v = decide (v = 0)) ∨ (k = 2 ∧ mayV k v = true) ∨ (k = 4 ∧ mayV k v = true) ∨ ((k == 1) = false ∧ (k == 3) = false ∧ (k == 2) = false ∧ (k == 4) = false ∧ mayV k v = false) := by
    unfold mayV
    simp only [beq_eq_false_iff_ne, decide_eq_true_eq, decide_eq_false_iff_not, decide_eq_decide]
    omega
  rcases key with ⟨rfl, hm⟩ | ⟨rfl, hm⟩ | ⟨rfl, hm⟩ | ⟨rfl, hm⟩ | ⟨h1, h3, h2, h4, hm⟩
  all_goals
    have HM := Lib.hid hm
    clear hm
    go_enter Try.func87, Try.ntmps87
    go_wp2_with (first
      | (go_at_call 89; (with_reducible refine (same_any _ _ _).mono ?_); rintro e w' ⟨rfl, rfl⟩))
    go_ret
    first
      | exact ⟨ret_bool (by rw [HM.out, HZ.out]), rfl⟩
      | exact ⟨ret_bool HM.out.symm, rfl⟩
end Go.Proofs.Ytimkkelnakamkaa.Cmd
