/- What the document's Text (layer 2, exact) gives: any number's text. Condition: a word of 64 bits. -/
import Derived.Test.YtobechecnkmpaaaDoorExactF
namespace Go.Proofs.YtobechecnkmpaaaDoor
open Go.RowKit F64 Go.Lib
set_option linter.unusedVariables false

def bitsOf : Value → Nat | .float _ b => b | _ => 0
def RelA (b : Nat) (x i : Value) : Prop := ∃ (f : Nat) (e : Int), x = .float .f64 f ∧ i = .int .i64 e ∧ Mid b f e
def RelB (b : Nat) (x i : Value) : Prop := ∃ (f : Nat) (e : Int), x = .float .f64 f ∧ i = .int .i64 e ∧ Mid b f e ∧ val (rung f) < 9007199254740992 * 2 ^ K 1074
def RelC (s : Bool) (O : Nat) (p : Int) (i n : Value) : Prop := ∃ (N : Nat) (e : Int), n = .int .i64 (sgn s N) ∧ i = .int .i64 e ∧ N ≠ 0 ∧ N < 9007199254740992 ∧ od N = O ∧ e + (tw N : Int) = p ∧ -3000 ≤ e

theorem big_yes {f : Nat} (fi : rung f < 9218868437227405312) (h : 4845873199050653696 ≤ rung f) : (flt 4845873199050653696 f = true) ∨ (flt 4845873199050653696 f = false ∧ feq f 4845873199050653696 = true)
    ∨ (flt 4845873199050653696 f = false ∧ feq f 4845873199050653696 = false ∧ flt f 14069245235905429504 = true) ∨ (flt 4845873199050653696 f = false ∧ feq f 4845873199050653696 = false ∧ flt f 14069245235905429504 = false ∧ feq f 14069245235905429504 = true) := by
  obtain ⟨h1, h2, h3, h4⟩ := big_facts fi
  rw [h1, h2, h3, h4]
  by_cases e : rung f = 4845873199050653696
  · cases neg f <;> simp [e]
  · have : 4845873199050653696 < rung f := by omega
    cases neg f <;> simp [e, this]
theorem big_no {f : Nat} (fi : rung f < 9218868437227405312) (h : rung f < 4845873199050653696) : flt 4845873199050653696 f = false ∧ feq f 4845873199050653696 = false ∧ flt f 14069245235905429504 = false ∧ feq f 14069245235905429504 = false := by
  obtain ⟨h1, h2, h3, h4⟩ := big_facts fi
  rw [h1, h2, h3, h4]
  have e1 : ¬ 4845873199050653696 < rung f := by omega
  have e2 : ¬ rung f = 4845873199050653696 := by omega
  simp [e1, e2]

set_option maxHeartbeats 2000000 in
theorem reft_fin (b : Nat) (w : World) (hb : b < 18446744073709551616) (hk : kind b = 2 ∨ kind b = 5) (hz : rung b ≠ 0) (hf : rung b < 9218868437227405312) :
    Calls Tryd.prog 24 #[.float .f64 b] w (DrewStr (text b) w) := by
  have HZ := Lib.hid hz
  have HF := Lib.hid hf
  have HM := Lib.hid (Mid.start hb hz hf)
  have HT := Lib.hid (text_num hz hf)
  have hso := odd_small hz
  have hsp := pow_small hz hf
  have HO : Hid (oddOf b = sgn (neg b) (od (val (rung b)))) := Lib.hid rfl
  have l1 := Dec.itoa_len (k := 16) (n := oddOf b) (by omega) (by rw [show (10 : Nat) ^ 16 = 10000000000000000 by decide]; omega)
  have l2 := Dec.itoa_len (k := 4) (n := powOf b) (by omega) (by rw [show (10 : Nat) ^ 4 = 10000 by decide]; omega)
  have a1 : ∀ w, (Op.stringOp .add (str (itoa (oddOf b))) ⟨#[112]⟩).run Tryd.prog w = .ok (.string (str (itoa (oddOf b) ++ [112]))) w := fun w => by
    rw [run_string_add_sum w _ _ (by rw [str_size]; show _ + 1 ≤ _; omega)]
    rw [← str_append]; rfl
  have a2 : ∀ w, (Op.stringOp .add (str (itoa (oddOf b) ++ [112])) (str (itoa (powOf b)))).run Tryd.prog w = .ok (.string (str (itoa (oddOf b) ++ 112 :: itoa (powOf b)))) w := fun w => by
    rw [run_string_add_sum w _ _ (by rw [str_size, str_size, List.length_append]; show _ + 1 + _ ≤ _; omega)]
    rw [str_append, List.append_assoc]; rfl
  have D1 : Hid (∀ w, Calls Tryd.prog 39 #[.int .i64 (oddOf b)] w (DrewStr (itoa (oddOf b)) w)) := Lib.hid fun w => digits_any _ _ w (Nat.lt_succ_self _) (by omega) (by omega)
  have D2 : Hid (∀ w, Calls Tryd.prog 39 #[.int .i64 (powOf b)] w (DrewStr (itoa (powOf b)) w)) := Lib.hid fun w => digits_any _ _ w (Nat.lt_succ_self _) (by omega) (by omega)
  have HP := Lib.hid hsp
  clear hz hf hso hsp l1 l2
  have hk0 : (kind b == 0) = false ∧ (kind b == 1) = false ∧ (kind b == 6) = false ∧ (kind b == 3) = false ∧ (kind b == 4) = false := by rcases hk with h | h <;> rw [h] <;> decide
  obtain ⟨k0, k1, k6, k3, k4⟩ := hk0
  clear hk
  go_enter Tryd.func24, Tryd.ntmps24
  go_wp2_with (go_at_call 21; ((with_reducible refine (ref_kind_any _ _ hb).mono ?_); rintro e w' ⟨rfl, rfl⟩))
  go_loop [0, 4] (fun x i => RelA b x i) (fun x _ => rung (bitsOf x))
  case atStart => exact ⟨b, 0, rfl, rfl, HM.out⟩
  case round =>
    obtain ⟨f, e, rfl, rfl, M⟩ := hrel
    have hs := M.small HZ.out HF.out
    by_cases hbig : 4845873199050653696 ≤ rung f
    · obtain ⟨f', hq, M', hlt⟩ := mid_half M hbig
      have hd : ∀ w, (binOp .quo 22 (.float .f64 f) (.float .f64 4611686018427387904)).run Tryd.prog w = .ok (.float .f64 f') w := fun w => run_float_arith w .quo _ .f64 _ _ _ hq
      have HM' := Lib.hid M'
      have HL := Lib.hid hlt
      have hy := big_yes M.fi hbig
      clear hq M' hlt M hbig
      rcases hy with h | ⟨h, h1⟩ | ⟨h, h1, h2⟩ | ⟨h, h1, h2, h3⟩
      all_goals
        go_wp2_with fail
        go_round
        case rel => exact ⟨f', e + 1, rfl, rfl, HM'.out⟩
        case measure => exact HL.out
    · obtain ⟨h, h1, h2, h3⟩ := big_no M.fi (by omega)
      have HB : Hid (RelB b (.float .f64 f) (.int .i64 e)) := Lib.hid ⟨f, e, rfl, rfl, M, not_big (by omega)⟩
      clear M hbig
      go_wp2_with fail
      clear h h1 h2 h3 hs
      go_loop [0, 4] (fun x i => RelB b x i) (fun x _ => 2000 - tw (val (rung (bitsOf x))))
      case atStart => exact HB.out
      case round =>
        obtain ⟨g, e', rfl, rfl, M, hv⟩ := hrel
        have hs := M.small HZ.out HF.out
        have HW : Hid (∀ w, Calls Tryd.prog 38 #[.float .f64 g] w fun e w' => e = .returned (.bool (wholeB g)) ∧ w = w') := Lib.hid fun w => ref_whole g w M.nz hv
        cases hw : wholeB g
        · obtain ⟨g', hq, M', hv', ht, hlt⟩ := mid_dbl M hw hv
          have hd : ∀ w, (binOp .mul 22 (.float .f64 4611686018427387904) (.float .f64 g)).run Tryd.prog w = .ok (.float .f64 g') w := fun w => run_float_arith w .mul _ .f64 _ _ _ hq
          have HR : Hid (RelB b (.float .f64 g') (.int .i64 (e' - 1))) := Lib.hid ⟨g', e' - 1, rfl, rfl, M', hv'⟩
          have HL : Hid (2000 - tw (val (rung g')) < 2000 - tw (val (rung g))) := Lib.hid (by omega)
          clear hq M' hv' ht hlt M hv
          go_wp2_with (go_at_call 38; ((with_reducible refine (HW.out _).mono ?_); rintro e w' ⟨rfl, rfl⟩))
          go_round
          case rel => exact HR.out
          case measure => exact HL.out
        · obtain ⟨N, hi, hN, hN2, ho, hp⟩ := mid_end M hw hv
          have hc : ∀ w, (convert 22 2 (.float .f64 g)).run Tryd.prog w = .ok (.int .i64 (sgn (neg b) N)) w := fun w => run_convert_float_int w _ _ _ _ _ _ (by kernel_rfl) (by kernel_rfl) hi
          have HR : Hid (RelC (neg b) (od (val (rung b))) (powOf b) (.int .i64 e') (.int .i64 (sgn (neg b) N))) := Lib.hid ⟨N, e', rfl, rfl, hN, hN2, ho, hp, by omega⟩
          have hr := sgn_range (s := neg b) hN2
          clear hi hN hN2 ho hp M hv
          go_wp2_with (go_at_call 38; ((with_reducible refine (HW.out _).mono ?_); rintro e w' ⟨rfl, rfl⟩))
          clear hc hr hs HW hw
          go_loop [4, 5] (fun i n => RelC (neg b) (od (val (rung b))) (powOf b) i n) (fun _ n => (RowKit.intOf n).natAbs)
          case atStart => exact HR.out
          case round =>
            obtain ⟨N, e, rfl, rfl, hN, hN2, ho, hp, he⟩ := hrel
            have hpp := HP.out
            have hr := sgn_range (s := neg b) hN2
            have he2 : e ≤ 1023 := by omega
            clear hpp
            by_cases h2 : N % 2 = 1
            · have hm := sgn_odd (s := neg b) h2
              have hod : od N = N := by unfold od; rw [tw_odd h2]; simp
              have e1 : sgn (neg b) N = oddOf b := by rw [HO.out, ← ho, hod]
              have e2 : e = powOf b := by rw [tw_odd h2] at hp; omega
              clear hN hN2 ho hp he hod h2 he2
              subst e2
              rw [e1] at hm hr ⊢
              clear e1
              go_wp2_with (first
                | (go_at_call 39; ((with_reducible refine (D1.out _).mono ?_); rintro e w1 ⟨rfl, hw1⟩; have HW1 := Lib.hid hw1; clear hw1))
                | (go_at_call 39; ((with_reducible refine (D2.out _).mono ?_); rintro e w2 ⟨rfl, hw2⟩; have HW2 := Lib.hid hw2; clear hw2)))
              go_ret
              obtain ⟨q1, h1⟩ := HW1.out
              obtain ⟨q2, h2⟩ := HW2.out
              exact ⟨ret_str (by rw [HT.out]), q1 + q2, by rw [h2, h1, World.drewN_drewN]⟩
            · have h2 : N % 2 = 0 := by omega
              have h3 := sgn_even (s := neg b) h2
              obtain ⟨h4, h5⟩ := h3
              have hst := odd_step hN h2
              have hq := sgn_range (s := neg b) (show N / 2 < 9007199254740992 by omega)
              have HR : Hid (RelC (neg b) (od (val (rung b))) (powOf b) (.int .i64 (e + 1)) (.int .i64 (sgn (neg b) (N / 2)))) := Lib.hid ⟨N / 2, e + 1, rfl, rfl, hst.2.2, by omega, by rw [← hst.2.1]; exact ho, by omega, by omega⟩
              have HL : Hid ((sgn (neg b) (N / 2)).natAbs < (sgn (neg b) N).natAbs) := Lib.hid (by unfold sgn; cases neg b <;> simp <;> omega)
              clear hN hN2 ho hp hst h2
              go_wp2_with fail
              go_round
              case rel => exact HR.out
              case measure => exact HL.out

theorem reft_any (b : Nat) (w : World) (hb : b < 18446744073709551616) : Calls Tryd.prog 24 #[.float .f64 b] w (DrewStr (text b) w) := by
  rcases kind_cases b with h | h | h | h | h | h
  case inr.inr.inr.inr.inr => exact reft_fin b w hb h.1 h.2.2.1 h.2.2.2
  all_goals
    first
      | (have ht : text b = [110, 97, 110] := by unfold text; rw [if_pos h.2]
         rw [ht])
      | (have ht := text_inf h.2.2.1
         rw [h.2.2.2] at ht
         rw [ht])
      | (have ht := text_zero h.2.2.1
         rw [h.2.2.2] at ht
         rw [ht])
    have hk := h.1
    clear h ht
    go_enter Tryd.func24, Tryd.ntmps24
    go_wp2_with (first
      | (go_at_call 21; ((with_reducible refine (ref_kind_any _ _ hb).mono ?_); rintro e w' ⟨rfl, rfl⟩)))
    go_ret
    exact ⟨rfl, 0, rfl⟩
end Go.Proofs.YtobechecnkmpaaaDoor
