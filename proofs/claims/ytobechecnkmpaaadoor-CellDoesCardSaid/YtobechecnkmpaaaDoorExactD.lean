/- What the program's Text (layer 2, exact) gives: any number's text; and how the world stands behind it. Conditions: a word of 64 bits, and the library's tables and errors as they are laid (Env). -/
import Derived.Test.YtobechecnkmpaaaDoorExactC
import Derived.Test.YtobechecnkmpaaaDoorEnv
import Derived.Lib.SmallJoins
import Derived.Lib.AppendIntMem
import Derived.ScopeJumps
namespace Go.Proofs.YtobechecnkmpaaaDoor
open Go.RowKit F64 Go.Lib
set_option linter.unusedVariables false

/-! ### whole, oddFactor -/
theorem half_rung {b : Nat} (hz : rung b ≠ 0) : rung (mk (neg b) 1022 (nF (rung b))) ≠ 0 ∧ rung (mk (neg b) 1022 (nF (rung b))) < 9218868437227405312 ∧ mk (neg b) 1022 (nF (rung b)) < 18446744073709551616 ∧ neg (mk (neg b) 1022 (nF (rung b))) = neg b := by
  have h := mk_parts (s := neg b) (e := 1022) (f := nF (rung b)) (by omega) (nf_lt hz)
  have := nf_lt hz
  refine ⟨?_, ?_, h.2.2.2.2.2, h.2.2.2.2.1⟩ <;> rw [h.2.2.2.1] <;> omega
theorem whole_scaled {b z : Nat} (hz : rung b ≠ 0) (h : Scaled (mk (neg b) 1022 (nF (rung b))) 53 z) : z = mk (neg b) 1075 (nF (rung b)) := by
  have h2 := half_rung hz
  have hl := nf_lt hz
  have h3 := mk_parts (s := neg b) (e := 1022) (f := nF (rung b)) (by omega) hl
  have h4 := h.2 (1075 * 4503599627370496 + nF (rung b)) (by omega) (by omega) (by
    rw [h3.2.2.2.1]
    have e1 := val_half hz
    have e2 := val_whole hz
    unfold nF
    rw [e1, e2, show (-53 : Int).toNat = 0 by decide, show (53 : Int).toNat = 53 by decide, Nat.pow_zero, Nat.mul_one, Nat.mul_assoc, pw_split (K 1021) 53 (K 1074) (by rw [K_eq, K_eq])])
  rw [h4, h2.2.2.2]
  rfl
theorem whole_int {b : Nat} (hz : rung b ≠ 0) : floatToIntVal .f64 (mk (neg b) 1075 (nF (rung b))) .i64 = some (sgn (neg b) (nM (rung b))) := by
  have h := mk_parts (s := neg b) (e := 1075) (f := nF (rung b)) (by omega) (nf_lt hz)
  have hm := nm_range hz
  have e2 : val (rung (mk (neg b) 1075 (nF (rung b)))) = nM (rung b) * 2 ^ K 1074 := by rw [h.2.2.2.1]; exact val_whole hz
  rw [ipart_eq (by rewrite [e2]; exact Nat.mul_lt_mul_of_pos_right hm.2 (two_pos (K 1074)))]
  unfold ipart sgn
  rw [e2, Nat.mul_div_cancel _ (two_pos (K 1074)), h.2.2.2.2.1]

theorem ret_ints {a b m n : Int} (h : a = b) (h2 : m = n) : Ending.returned (.tuple #[.int .i64 a, .int .i64 m]) = .returned (.tuple #[.int .i64 b, .int .i64 n]) := by rw [h, h2]

theorem whole_any (b : Nat) (w : World) (hb : b < 18446744073709551616) (hz : rung b ≠ 0) (hf : rung b < 9218868437227405312) : Calls Tryd.prog 35 #[.float .f64 b] w fun e w' => e = .returned (.tuple #[.int .i64 (sgn (neg b) (nM (rung b))), .int .i64 (nE (rung b))]) ∧ w = w' := by
  have HH := Lib.hid (half_rung hz)
  have HW := Lib.hid (fun z h => whole_scaled (b := b) (z := z) hz h)
  have hc : ∀ w, (convert 22 2 (.float .f64 (mk (neg b) 1075 (nF (rung b))))).run Tryd.prog w = .ok (.int .i64 (sgn (neg b) (nM (rung b)))) w := fun w => run_convert_float_int w _ _ _ _ _ _ (by kernel_rfl) (by kernel_rfl) (whole_int hz)
  have hr := ne_range hz hf
  have HZ := Lib.hid hz
  clear hz
  go_enter Tryd.func35, Tryd.ntmps35
  go_wp2_with (first
    | (go_at_call 44; ((with_reducible refine (frexp_any _ _ hb HZ.out hf).mono ?_); rintro e w' ⟨rfl, rfl⟩))
    | (go_at_call 45; ((with_reducible refine (ldexp_num _ _ _ HH.out.2.2.1 HH.out.1 HH.out.2.1 (by omega) (by omega)).mono ?_); rintro e w' ⟨z, hs, rfl, rfl⟩; obtain rfl := HW.out z hs; clear hs)))
  go_ret2
  exact ⟨ret_ints rfl (by omega), rfl⟩

theorem odd_step {m : Nat} (h : m ≠ 0) (h2 : m % 2 = 0) : tw m = tw (m / 2) + 1 ∧ od m = od (m / 2) ∧ m / 2 ≠ 0 := by
  have e : m = 2 * (m / 2) := by omega
  have h3 : m / 2 ≠ 0 := by omega
  have := tw_even h3
  have h4 := od_half h3
  rw [← e] at this h4
  exact ⟨this, h4, h3⟩
theorem sgn_even {s : Bool} {N : Nat} (h : N % 2 = 0) : (sgn s N).tmod 2 = 0 ∧ (sgn s N).tdiv 2 = sgn s (N / 2) := by
  unfold sgn
  cases s
  · simp only [Bool.false_eq_true, if_false]
    exact ⟨by rw [show ((N : Int)).tmod 2 = ((N % 2 : Nat) : Int) from rfl, h]; rfl, rfl⟩
  · simp only [if_true]
    rw [Int.neg_tmod, Int.neg_tdiv]
    exact ⟨by rw [show ((N : Int)).tmod 2 = ((N % 2 : Nat) : Int) from rfl, h]; rfl, rfl⟩
theorem sgn_odd {s : Bool} {N : Nat} (h : N % 2 = 1) : ((sgn s N).tmod 2 == 0) = false := by
  unfold sgn
  rw [beq_eq_false_iff_ne]
  cases s
  · simp only [Bool.false_eq_true, if_false]
    rw [show ((N : Int)).tmod 2 = ((N % 2 : Nat) : Int) from rfl, h]; decide
  · simp only [if_true]
    rw [Int.neg_tmod, show ((N : Int)).tmod 2 = ((N % 2 : Nat) : Int) from rfl, h]; decide
theorem sgn_range {s : Bool} {N : Nat} (h : N < 9007199254740992) : -9007199254740992 ≤ sgn s N ∧ sgn s N ≤ 9007199254740992 := by unfold sgn; cases s <;> simp <;> omega

structure OddAt (M : Nat) (e : Int) (N : Nat) (e' : Int) : Prop where
  ne : N ≠ 0
  lt : N < 9007199254740992
  od : od N = od M
  tw : e' + (tw N : Int) = e + (tw M : Int)
  lo : e ≤ e'
def OddJ (s : Bool) (M : Nat) (e : Int) (w0 : World) (a : Act) (w : World) : Prop := w0 = w ∧ ∃ (N : Nat) (e' : Int) (u6 u7 u8 u9 u10 u11 u12 u13 u14 : Value),
  a = { tmps := #[.int .i64 (sgn s N), .int .i64 e', undef, undef, .int .i64 0, .int .i64 0, u6, u7, u8, u9, u10, u11, u12, u13, u14], defers := [] } ∧ OddAt M e N e'

set_option maxRecDepth 1000000 in
set_option maxHeartbeats 1000000 in
theorem odd_any (s : Bool) (M : Nat) (e : Int) (w : World) (h0 : M ≠ 0) (h1 : M < 9007199254740992) (h2 : -100000 ≤ e) (h3 : e + (tw M : Int) ≤ 100000) :
    Calls Tryd.prog 34 #[.int .i64 (sgn s M), .int .i64 e] w fun e' w' => e' = .returned (.tuple #[.int .i64 (sgn s (od M)), .int .i64 (e + tw M)]) ∧ w = w' := by
  have HB := Lib.hid h3
  have HA : Hid (OddAt M e M e) := Lib.hid ⟨h0, h1, rfl, rfl, Int.le_refl _⟩
  clear h0 h1 h3
  have pass : ∀ (N : Nat) (e' : Int), OddAt M e N e' → (N % 2 = 1 ∧ ((sgn s N).tmod 2 == 0) = false ∧ N = od M ∧ e' = e + tw M) ∨ (N % 2 = 0 ∧ (sgn s N).tmod 2 = 0 ∧ (sgn s N).tdiv 2 = sgn s (N / 2) ∧ OddAt M e (N / 2) (e' + 1) ∧ e' + 1 ≤ 100000) := by
    intro N e' h
    by_cases h2 : N % 2 = 1
    · left
      have ht := tw_odd h2
      have ho : od N = N := by unfold od; rw [ht]; simp
      refine ⟨h2, sgn_odd h2, by rw [← h.od, ho], ?_⟩
      have := h.tw
      rw [ht] at this; omega
    · right
      have h2 : N % 2 = 0 := by omega
      have hs := odd_step h.ne h2
      have hb := HB.out
      have ht := h.tw
      have hl := h.lo
      refine ⟨h2, (sgn_even h2).1, (sgn_even h2).2, ⟨hs.2.2, by have := h.lt; omega, by rw [← hs.2.1, h.od], by omega, by omega⟩, by omega⟩
  have HP := Lib.hid pass
  clear pass
  go_enter Tryd.func34, Tryd.ntmps34
  go_wp2
  refine wp_scope_jumps 0 (OddJ s M e w) (fun a' _ => (RowKit.intOf (a'.tmps.getD 0 undef)).natAbs) rfl ?_ ?_
  · have hb := HA.out.lt
    have hr := sgn_range (s := s) hb
    clear hb
    rcases HP.out M e HA.out with ⟨h1, h2', h3, h4⟩ | ⟨h1, h2', h3, h4, h5⟩
    · have H3 := Lib.hid h3; have H4 := Lib.hid h4
      clear h3 h4
      go_wp2
      go_step3
      go_wp2
      simp only [Exit.jump]
      go_ret2
      exact ⟨ret_ints (by rw [← H3.out]) H4.out, rfl⟩
    · have H4 := Lib.hid h4
      clear h4
      have hq := sgn_range (s := s) (show M / 2 < 9007199254740992 by have := HA.out.lt; omega)
      go_wp2
      go_step3
      go_wp2
      go_step3
      exact ⟨rfl, rfl, M / 2, e + 1, _, _, _, _, _, _, _, _, _, rfl, H4.out⟩
  · rintro a' w' ⟨rfl, N, e', u6, u7, u8, u9, u10, u11, u12, u13, u14, rfl, hA⟩
    have hb := hA.lt
    have hr := sgn_range (s := s) hb
    have hl := hA.lo
    have hne := hA.ne
    clear hb
    rcases HP.out N e' hA with ⟨h1, h2', h3, h4⟩ | ⟨h1, h2', h3, h4, h5⟩
    · have H3 := Lib.hid h3; have H4 := Lib.hid h4
      clear h3 h4 hA hne
      go_wp2
      simp only [Exit.jump]
      go_ret2
      exact ⟨ret_ints (by rw [← H3.out]) H4.out, rfl⟩
    · have H4 := Lib.hid h4
      have hlow : (sgn s (N / 2)).natAbs < (sgn s N).natAbs := by
        unfold sgn; cases s <;> simp <;> omega
      have HL := Lib.hid hlow
      have hq := sgn_range (s := s) (show N / 2 < 9007199254740992 by have := hA.lt; omega)
      clear h4 hA hne hlow
      go_wp2
      go_step3
      exact ⟨rfl, ⟨rfl, N / 2, e' + 1, _, _, _, _, _, _, _, _, _, rfl, H4.out⟩, HL.out⟩

theorem odd_pow {b : Nat} (hz : rung b ≠ 0) (hf : rung b < 9218868437227405312) : sgn (neg b) (od (nM (rung b))) = oddOf b ∧ nE (rung b) + (tw (nM (rung b)) : Int) = powOf b := by
  have h := nm_odd hz
  unfold oddOf powOf
  rw [h.1]
  exact ⟨rfl, h.2⟩

theorem text_fin (b : Nat) (w : World) (hb : b < 18446744073709551616) (hE : Env w) (hk : kind b = 2 ∨ kind b = 5) (hz : rung b ≠ 0) (hf : rung b < 9218868437227405312) :
    Calls Tryd.prog 23 #[.float .f64 b] w (GivesStr (text b) w) := by
  have HT := Lib.hid (text_num hz hf)
  have ho := odd_pow hz hf
  have hs := odd_small hz
  have hp := pow_small hz hf
  have hm := nm_range hz
  have hr := ne_range hz hf
  have HO : Hid (∀ w, Calls Tryd.prog 34 #[.int .i64 (sgn (neg b) (nM (rung b))), .int .i64 (nE (rung b))] w fun e' w' => e' = .returned (.tuple #[.int .i64 (oddOf b), .int .i64 (powOf b)]) ∧ w = w') := by
    refine Lib.hid fun w => ?_
    rw [← ho.1, ← ho.2]
    exact odd_any _ _ _ w (by omega) (by omega) (by omega) (by omega)
  have HE := Lib.hid hE
  have HZ := Lib.hid hz
  have l1 := Dec.itoa_len (k := 16) (n := oddOf b) (by omega) (by rw [show (10 : Nat) ^ 16 = 10000000000000000 by decide]; omega)
  have l2 := Dec.itoa_len (k := 4) (n := powOf b) (by omega) (by rw [show (10 : Nat) ^ 4 = 10000 by decide]; omega)
  have a1 : ∀ w, (Op.stringOp .add (str (itoa (oddOf b))) ⟨#[112]⟩).run Tryd.prog w = .ok (.string (str (itoa (oddOf b) ++ [112]))) w := fun w => by
    rw [run_string_add_sum w _ _ (by rw [str_size]; show _ + 1 ≤ _; omega)]
    rw [← str_append]; rfl
  have a2 : ∀ w, (Op.stringOp .add (str (itoa (oddOf b) ++ [112])) (str (itoa (powOf b)))).run Tryd.prog w = .ok (.string (str (itoa (oddOf b) ++ 112 :: itoa (powOf b)))) w := fun w => by
    rw [run_string_add_sum w _ _ (by rw [str_size, str_size, List.length_append]; show _ + 1 + _ ≤ _; omega)]
    rw [str_append, List.append_assoc]; rfl
  have HS := Lib.hid hs
  have HP := Lib.hid hp
  clear ho hs hp hm hr hE hz l1 l2
  rcases hk with hk | hk
  all_goals
    go_enter Tryd.func23, Tryd.ntmps23
    go_wp2_with (first
      | (go_at_call 33; ((with_reducible refine (kind_any _ _ hb).mono ?_); rintro e w' ⟨rfl, rfl⟩))
      | (go_at_call 35; ((with_reducible refine (whole_any _ _ hb HZ.out hf).mono ?_); rintro e w' ⟨rfl, rfl⟩))
      | (go_at_call 34; ((with_reducible refine (HO.out _).mono ?_); rintro e w' ⟨rfl, rfl⟩))
      | (go_at_call 36; ((with_reducible refine (formatInt_any _ _ HE.out (by have := HS.out; omega) (by have := HS.out; omega)).mono ?_); rintro e w1 ⟨rfl, hL1⟩; have HL1 := Lib.hid hL1; clear hL1))
      | (go_at_call 37; ((with_reducible refine (itoa_any _ _ HL1.out.env (by have := HP.out; omega) (by have := HP.out; omega)).mono ?_); rintro e w2 ⟨rfl, hL2⟩; have HL2 := Lib.hid hL2; clear hL2)))
    go_ret
    exact ⟨ret_str (by rw [HT.out]), HL1.out.trans HL2.out⟩

theorem text_any (b : Nat) (w : World) (hb : b < 18446744073709551616) (hE : Env w) : Calls Tryd.prog 23 #[.float .f64 b] w (GivesStr (text b) w) := by
  rcases kind_cases b with h | h | h | h | h | h
  case inr.inr.inr.inr.inr => exact text_fin b w hb hE h.1 h.2.2.1 h.2.2.2
  all_goals
    have ht : text b = text b := rfl
    first
      | (have ht : text b = [110, 97, 110] := by unfold text; rw [if_pos h.2]
         rw [ht])
      | (have ht := text_inf h.2.2.1
         rw [h.2.2.2] at ht
         rw [ht])
      | (have ht := text_zero h.2.2.1
         rw [h.2.2.2] at ht
         rw [ht])
    have hk := h.1
    have HE := Lib.hid hE
    clear h ht hE
    go_enter Tryd.func23, Tryd.ntmps23
    go_wp2_with (first
      | (go_at_call 33; ((with_reducible refine (kind_any _ _ hb).mono ?_); rintro e w' ⟨rfl, rfl⟩)))
    go_ret
    exact ⟨rfl, Left.refl HE.out⟩
end Go.Proofs.YtobechecnkmpaaaDoor
