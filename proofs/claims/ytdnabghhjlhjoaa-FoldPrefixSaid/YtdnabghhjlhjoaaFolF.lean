/- The statement's function of layer 14 (fold) on two lists of writers: it returns true. Conditions: the writers lie in memory as their cells say. -/
import Derived.Test.YtdnabghhjlhjoaaFolD
namespace Go.Proofs.Ytdnabghhjlhjoaa.Fol
open Go.RowKit F64 Cmd Bat Cel Wid Vau
set_option linter.unusedVariables false
set_option linter.unusedSimpArgs false

theorem fprefix_long (p : Option Addr) (n cap : Nat) (q : Option Addr) (m capq : Nat) (w : World) (hl : 100 < n ∨ 100 < m) : Calls Try.prog 5 #[.slice p n cap, .slice q m capq] w (RetBelow (.bool true) w) := by
  have CP := Lib.hid fplay_any
  by_cases h1 : 100 < n
  · have h2 : decide ((100 : Int) < n) = true := decide_eq_true (by omega)
    have h3 : (100 : Int) < n := by omega
    clear hl h1
    go_enter Try.func5, Try.ntmps5
    go_wp2_with (first
      | (go_at_call 6; (with_reducible refine (CP.out _).mono ?_); rintro E w1 ⟨rfl, hb⟩; have B1 := Lib.hid hb; clear hb))
    go_ret
    exact ⟨rfl, B1.out⟩
  · have h2 : decide ((100 : Int) < n) = false := decide_eq_false (by omega)
    have h3 : ¬ (100 : Int) < n := by omega
    have h4 : decide ((100 : Int) < m) = true := decide_eq_true (by omega)
    have h5 : (100 : Int) < m := by omega
    clear hl h1
    go_enter Try.func5, Try.ntmps5
    go_wp2_with (first
      | (go_at_call 6; (with_reducible refine (CP.out _).mono ?_); rintro E w1 ⟨rfl, hb⟩; have B1 := Lib.hid hb; clear hb))
    go_ret
    exact ⟨rfl, B1.out⟩
set_option maxHeartbeats 16000000 in
set_option maxRecDepth 100000 in
theorem fprefix_few (p : Option Addr) (cap : Nat) (xs : List Wr) (q : Option Addr) (capq : Nat) (ys : List Wr) (w : World) (h : layW.Row w (.slice p xs.length cap) xs) (g : layW.Row w (.slice q ys.length capq) ys) (hl : xs.length ≤ 100 ∧ ys.length ≤ 100) : Calls Try.prog 5 #[.slice p xs.length cap, .slice q ys.length capq] w (RetBelow (.bool true) w) := by
  have CP := Lib.hid fplay_any
  have HX := Lib.hid h
  have HY := Lib.hid g
  have CF : Hid (∀ W, Below w.heap.size w W → Calls Try.prog 19 #[.slice p xs.length cap, .slice q ys.length capq] W (RetBelow (.bool (firstOf xs ys)) W)) := Lib.hid fun W hb => fprefix_any _ _ xs ys W (h.on hb) (g.on hb)
  obtain ⟨q', capq', e, hcap, hmax, -⟩ := id g
  injection e with e1 _ e3
  subst e1; subst e3
  by_cases hnm : xs.length ≤ ys.length
  · have hmin : min xs.length ys.length = xs.length := Nat.min_eq_left hnm
    have HRY : Hid (layW.Row w (.slice (cutw q capq) xs.length capq) (ys.take xs.length)) := Lib.hid (row_first g xs.length hnm)
    have CS : Hid (Calls Try.prog 11 #[.slice p xs.length cap, .slice (cutw q capq) xs.length capq] w (RetBelow (.bool (firstOf xs ys)) w)) := Lib.hid (by
      have := slog_any _ _ xs (ys.take xs.length) w h HRY.out
      have e : firstOf xs ys = decide (xs = ys.take xs.length) := by unfold firstOf; rw [hmin, decide_eq_true hnm, Bool.true_and]
      rw [← e] at this; exact this)
    have hsl : ∀ W, (Instr.slice 34 (.slice q ys.length capq) none (some (.int .i64 (xs.length : Int))) none).run Try.prog W = .ok (.slice (cutw q capq) xs.length capq) W := fun W => cut_wide wtW q ys.length capq xs.length (by omega) W
    generalize firstOf xs ys = r at CF CS
    generalize cutw q capq = cw at hsl CS
    clear HX HY HRY h g
    obtain ⟨n, hn⟩ : ∃ n, n = xs.length := ⟨_, rfl⟩
    obtain ⟨m, hm⟩ : ∃ m, m = ys.length := ⟨_, rfl⟩
    rw [← hn] at CF CS hsl hl hnm hmin ⊢
    rw [← hm] at CF hsl hcap hl hnm hmin ⊢
    clear hn hm
    have h2 : decide ((100 : Int) < n) = false := decide_eq_false (by omega)
    have h3 : ¬ (100 : Int) < n := by omega
    have h4 : decide ((100 : Int) < m) = false := decide_eq_false (by omega)
    have h5 : ¬ (100 : Int) < m := by omega
    have h6 : decide ((n : Int) ≤ m) = true := decide_eq_true (by omega)
    have h7 : (n : Int) ≤ m := by omega
    have h8 : min (n : Int) (m : Int) = n := by omega
    have h9 : (n : Int) ≤ capq := by omega
    have n0 : (0 : Int) ≤ n := by omega
    go_enter Try.func5, Try.ntmps5
    go_wp2_with (first
      | (go_at_call 11; ((with_reducible refine CS.out.mono ?_); rintro E w1 ⟨rfl, hb⟩; have B1 := Lib.hid hb; have CF1 := Lib.hid (CF.out w1 B1.out); clear hb))
      | (go_at_call 19; ((with_reducible refine CF1.out.mono ?_); rintro E w2 ⟨rfl, hb⟩; have B2 := Lib.hid (B1.out.trans (hb.mono B1.out.size)); clear hb))
      | (go_at_call 6; (with_reducible refine (CP.out _).mono ?_); rintro E w3 ⟨rfl, hb⟩; have B3 := Lib.hid (B2.out.trans (hb.mono B2.out.size)); clear hb))
    go_ret
    exact ⟨rfl, B3.out⟩
  · have hf : firstOf xs ys = false := by unfold firstOf; rw [decide_eq_false hnm]; rfl
    rw [hf] at CF
    clear HX HY h g
    obtain ⟨n, hn⟩ : ∃ n, n = xs.length := ⟨_, rfl⟩
    obtain ⟨m, hm⟩ : ∃ m, m = ys.length := ⟨_, rfl⟩
    rw [← hn] at CF hl hnm ⊢
    rw [← hm] at CF hcap hl hnm ⊢
    clear hn hm
    have h2 : decide ((100 : Int) < n) = false := decide_eq_false (by omega)
    have h3 : ¬ (100 : Int) < n := by omega
    have h4 : decide ((100 : Int) < m) = false := decide_eq_false (by omega)
    have h5 : ¬ (100 : Int) < m := by omega
    have h6 : decide ((n : Int) ≤ m) = false := decide_eq_false (by omega)
    have h7 : ¬ (n : Int) ≤ m := by omega
    have CF1 := Lib.hid (CF.out w (Below.refl _ _))
    go_enter Try.func5, Try.ntmps5
    go_wp2_with (first
      | (go_at_call 19; ((with_reducible refine CF1.out.mono ?_); rintro E w2 ⟨rfl, hb⟩; have B2 := Lib.hid hb; clear hb))
      | (go_at_call 6; (with_reducible refine (CP.out _).mono ?_); rintro E w3 ⟨rfl, hb⟩; have B3 := Lib.hid (B2.out.trans (hb.mono B2.out.size)); clear hb))
    go_ret
    exact ⟨rfl, B3.out⟩
theorem fprefixlaw_any (v u : Value) (xs ys : List Wr) (w : World) (h : layW.Row w v xs) (g : layW.Row w u ys) : Calls Try.prog 5 #[v, u] w (RetBelow (.bool true) w) := by
  obtain ⟨p, cap, rfl, -⟩ := id h
  obtain ⟨q, capq, rfl, -⟩ := id g
  by_cases hl : xs.length ≤ 100 ∧ ys.length ≤ 100
  · exact fprefix_few p cap xs q capq ys w h g hl
  · exact fprefix_long p xs.length cap q ys.length capq w (by omega)
end Go.Proofs.Ytdnabghhjlhjoaa.Fol
