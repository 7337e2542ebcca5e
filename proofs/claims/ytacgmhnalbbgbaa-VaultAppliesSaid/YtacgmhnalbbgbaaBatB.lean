/- What the document's In, SameTexts and SameInts give (layer 7, batch). Conditions: the lists lie in memory as their cells say. -/
import Derived.Test.YtacgmhnalbbgbaaBatA
namespace Go.Proofs.Ytacgmhnalbbgbaa.Bat
open Go.RowKit Cmd
set_option linter.unusedVariables false

set_option maxHeartbeats 1000000 in
theorem in_any (v : Value) (zs : List (List UInt8)) (s : List UInt8) (w : World) (h : layS.Row w v zs) : Calls Try.prog 63 #[v, .string (str s)] w fun e w' => e = .returned (.bool (decide (s ∈ zs))) ∧ w = w' := by
  obtain ⟨p, cap, rfl, h1, hd⟩ := h.parts
  obtain ⟨n, hn⟩ : ∃ n, n = zs.length := ⟨_, rfl⟩
  rw [← hn] at h1 hd ⊢
  have HZ := Lib.hid hn
  clear h hn
  have HM := Lib.hid (Lay.mem (L := layS) (zs := zs) (x := s))
  generalize hr : decide (s ∈ zs) = r
  have HR := Lib.hid hr
  clear hr
  go_enter Try.func63, Try.ntmps63
  go_wp2
  go_loop [5] (fun i => ∃ k : Nat, k ≤ n ∧ i = .int .i64 k ∧ Hid (∀ j, j < k → layS.at zs j ≠ s)) (fun i => n - (intOf i).toNat)
  case atStart => exact ⟨0, Nat.zero_le _, rfl, Lib.hid fun j hj => absurd hj (Nat.not_lt_zero _)⟩
  case round =>
    obtain ⟨k, hk, rfl, hno⟩ := hrel
    by_cases hkn : k < n
    · obtain ⟨B, off, rfl, HC⟩ := hd.resolve_left (by omega)
      obtain ⟨x, hx⟩ : ∃ x, layS.at zs k = x := ⟨_, rfl⟩
      have c1 := cellS HC.out (by rw [← HZ.out]; exact hkn) hx
      have HX := Lib.hid hx
      have k0 : (0 : Int) ≤ k := by omega
      have kn : (k : Int) < n := by omega
      have he := str_dec x s
      clear hx hd
      by_cases hxs : x = s
      · rw [decide_eq_true hxs] at he
        have HS := Lib.hid hxs
        clear hxs
        go_wp2
        go_ret
        refine ⟨ret_bool ?_, rfl⟩
        rw [← HR.out]
        exact (decide_eq_true (HM.out.2 ⟨k, by rw [← HZ.out]; exact hkn, by rw [HX.out]; exact HS.out⟩)).symm
      · rw [decide_eq_false hxs] at he
        have HS := Lib.hid hxs
        clear hxs
        go_wp2
        go_round
        case rel => exact ⟨k + 1, by omega, by go_num, Lib.hid fun j hj => by
          by_cases e : j = k
          · rw [e, HX.out]; exact HS.out
          · exact hno.out j (by omega)⟩
        case measure => simp [intOf]; omega
    · have kn : ¬ (k : Int) < n := by omega
      clear hd
      go_wp2
      go_ret
      refine ⟨ret_bool ?_, rfl⟩
      rw [← HR.out]
      refine (decide_eq_false fun h => ?_).symm
      obtain ⟨j, hj, e⟩ := HM.out.1 h
      exact hno.out j (by rw [← HZ.out] at hj; omega) e

set_option maxHeartbeats 1000000 in
theorem sametexts_any (v u : Value) (xs ys : List (List UInt8)) (w : World) (h : layS.Row w v xs) (g : layS.Row w u ys) : Calls Try.prog 34 #[v, u] w (RetBelow (.bool (decide (xs = ys))) w) := by
  obtain ⟨p, cap, rfl, h1, hd⟩ := h.parts
  obtain ⟨q, cap', rfl, g1, hd'⟩ := g.parts
  obtain ⟨n, hn⟩ : ∃ n, n = xs.length := ⟨_, rfl⟩
  obtain ⟨m, hm⟩ : ∃ m, m = ys.length := ⟨_, rfl⟩
  rw [← hn] at h1 hd ⊢
  rw [← hm] at g1 hd' ⊢
  clear h g
  by_cases hnm : n = m
  · subst hnm
    have HN := Lib.hid hn
    have HM := Lib.hid hm
    have HE : Hid ((∀ j, j < n → layS.at xs j = layS.at ys j) → decide (xs = ys) = true) := Lib.hid fun h => decide_eq_true (layS.ext (by rw [← hn, ← hm]) fun j hj => h j (by rw [hn]; exact hj))
    have HF : Hid (∀ j, layS.at xs j ≠ layS.at ys j → decide (xs = ys) = false) := Lib.hid fun j h => decide_eq_false fun e => h (by rw [e])
    generalize decide (xs = ys) = r at HE HF
    have hnn : ((n : Int) != (n : Int)) = false := by simp
    clear hn hm
    go_enter Try.func34, Try.ntmps34
    go_wp2
    go_loopw [5] (fun i wr => ∃ k : Nat, k ≤ n ∧ i = .int .i64 k ∧ Hid (Below w.heap.size w wr) ∧ Hid (∀ j, j < k → layS.at xs j = layS.at ys j)) (fun i _ => n - (intOf i).toNat)
    case atStart => exact ⟨0, Nat.zero_le _, rfl, Lib.hid (Below.refl _ _), Lib.hid fun j hj => absurd hj (Nat.not_lt_zero _)⟩
    case round =>
      obtain ⟨k, hk, rfl, hbw, hno⟩ := hrel
      by_cases hkn : k < n
      · obtain ⟨B, off, rfl, HC⟩ := hd.resolve_left (by omega)
        obtain ⟨B', off', rfl, HC'⟩ := hd'.resolve_left (by omega)
        obtain ⟨x, hx⟩ : ∃ x, layS.at xs k = x := ⟨_, rfl⟩
        obtain ⟨y, hy⟩ : ∃ y, layS.at ys k = y := ⟨_, rfl⟩
        have c1 := cellS (HC.out.on hbw.out) (by rw [← HN.out]; exact hkn) hx
        have c2 := cellS (HC'.out.on hbw.out) (by rw [← HM.out]; exact hkn) hy
        have k0 : (0 : Int) ≤ k := by omega
        have kn : (k : Int) < n := by omega
        have he := str_dec x y
        clear hd hd'
        by_cases hxy : x = y
        · rw [decide_eq_true hxy] at he
          have HX : Hid (layS.at xs k = layS.at ys k) := Lib.hid (by rw [hx, hy, hxy])
          clear hxy hx hy
          go_wp2
          go_quiet (fail)
          go_wp2
          go_roundw
          case rel => exact ⟨k + 1, by omega, by go_num, Lib.hid (below_drN hbw.out _), Lib.hid fun j hj => by
            by_cases e : j = k
            · rw [e]; exact HX.out
            · exact hno.out j (by omega)⟩
          case measure => simp [intOf]; omega
        · rw [decide_eq_false hxy] at he
          have HX : Hid (r = false) := Lib.hid (HF.out k (by rw [hx, hy]; exact hxy))
          clear hxy hx hy
          go_wp2
          go_quiet (fail)
          go_wp2
          go_ret
          exact ⟨ret_bool HX.out.symm, below_drN hbw.out _⟩
      · have kn : ¬ (k : Int) < n := by omega
        obtain rfl : k = n := by omega
        clear hd hd'
        go_wp2
        go_ret
        exact ⟨ret_bool (HE.out hno.out).symm, hbw.out⟩
  · have h2 : ((n : Int) != (m : Int)) = true := by rw [bne_iff_ne]; omega
    have h3 : (n : Int) ≠ m := by omega
    have HX : Hid (decide (xs = ys) = false) := Lib.hid (decide_eq_false fun e => hnm (by rw [hn, hm, e]))
    clear hn hm hnm hd hd'
    go_enter Try.func34, Try.ntmps34
    go_wp2
    go_ret
    exact ⟨ret_bool HX.out.symm, Below.refl _ _⟩

end Go.Proofs.Ytacgmhnalbbgbaa.Bat
