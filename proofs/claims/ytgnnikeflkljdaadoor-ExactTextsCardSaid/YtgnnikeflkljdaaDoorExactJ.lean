/- The statements' functions of layer 2 (exact): each returns true, for any word of 64 bits, and for any text. Condition: the library's tables and errors as they are laid (Env). -/
import Derived.Test.YtgnnikeflkljdaaDoorExactI
namespace Go.Proofs.YtgnnikeflkljdaaDoor
open Go.RowKit F64 Go.Lib
set_option linter.unusedVariables false

theorem text_of {b m k : Nat} (hz : rung b ≠ 0) (hf : rung b < 9218868437227405312) (h : val (rung b) = m * 2 ^ k) (hm : m % 2 = 1) : text b = itoa (sgn (neg b) m) ++ 112 :: itoa ((k : Int) - 1074) := by
  rw [text_num hz hf]
  unfold oddOf powOf
  rw [h, od_mul hm, tw_mul hm]
theorem text_m8 : text 13844065254536904704 = [45, 49, 112, 51] := by
  have hr : rung 13844065254536904704 = (1025 + 1) * 4503599627370496 + (4503599627370496 - 4503599627370496) := by decide
  have hn : neg 13844065254536904704 = true := by decide
  have hv : val (rung 13844065254536904704) = 1 * 2 ^ K 1077 := by
    rw [hr, val_normK (by omega) (by omega), show (4503599627370496 : Nat) = 2 ^ 52 by decide, pw_split 52 (K 1025) (K 1077) (by rw [K_eq, K_eq]), Nat.one_mul]
  have h := text_of (b := 13844065254536904704) (by rw [hr]; omega) (by rw [hr]; omega) hv (by decide)
  rw [hn] at h
  have e1 : itoa (sgn true 1) = [45, 49] := by
    show itoa (-((1 : Nat) : Int)) = _
    rw [itoa_neg 1 (by omega), Dec.dd_small (by omega)]; rfl
  have e2 : itoa (((1077 : Nat) : Int) - 1074) = [51] := by
    rw [show ((1077 : Nat) : Int) - 1074 = 3 by omega, Dec.itoa_one (by omega) (by omega)]; rfl
  rw [e1, K_eq, e2] at h
  exact h
theorem text_15 : text 4609434218613702656 = [51, 112, 45, 49] := by
  have hr : rung 4609434218613702656 = (1022 + 1) * 4503599627370496 + (6755399441055744 - 4503599627370496) := by decide
  have hn : neg 4609434218613702656 = false := by decide
  have hv : val (rung 4609434218613702656) = 3 * 2 ^ K 1073 := by
    rw [hr, val_normK (by omega) (by omega), show (6755399441055744 : Nat) = 3 * 2 ^ 51 by decide, Nat.mul_assoc, pw_split 51 (K 1022) (K 1073) (by rw [K_eq, K_eq])]
  have h := text_of (b := 4609434218613702656) (by rw [hr]; omega) (by rw [hr]; omega) hv (by decide)
  rw [hn] at h
  have e1 : itoa (sgn false 3) = [51] := by
    show itoa ((3 : Nat) : Int) = _
    rw [itoa_nonneg, Dec.dd_small (by omega)]; rfl
  have e2 : itoa (((1073 : Nat) : Int) - 1074) = [45, 49] := by
    rw [show ((1073 : Nat) : Int) - 1074 = -((1 : Nat) : Int) by omega, itoa_neg 1 (by omega), Dec.dd_small (by omega)]; rfl
  rw [e1, K_eq, e2] at h
  exact h
theorem text_00 : text 0 = [48] := by
  have h := text_zero (b := 0) (by decide)
  rw [show neg 0 = false by decide] at h
  exact h
theorem read_m8 {z : Nat} {er : Int} (h : ReadIs [45, 49, 112, 51] z er) : z = 13844065254536904704 ∧ er = 0 := by
  rcases h.is with ⟨h1, h2⟩ | ⟨_, _, h2⟩
  · refine ⟨?_, h1⟩
    have hs := text_inj (a := 13844065254536904704) (b := z) (by decide) h.lt (text_m8.trans h2.symm)
    unfold same at hs
    rw [decide_eq_true_eq] at hs
    have hc : canon 13844065254536904704 = 13844065254536904704 := by decide
    rw [hc] at hs
    unfold canon at hs
    split at hs
    · cases hs
    · exact hs.symm
  · exact absurd text_m8 (h2 _ (by decide))

def GivesTrue (w : World) (e : Ending) (w' : World) : Prop := e = .returned (.bool true) ∧ Left w w'

set_option maxHeartbeats 2000000 in
theorem works_any (w : World) (hE : Env w) : Calls Tryd.prog 9 #[] w (GivesTrue w) := by
  have HR : Hid (Calls Tryd.prog 6 #[.string ⟨#[45, 49, 112, 51]⟩] w fun e w' => e = .returned (.tuple #[.float .f64 13844065254536904704, .int .i64 0]) ∧ Left w w') := Lib.hid ((read_any [45, 49, 112, 51] w hE (by decide)).mono fun e w' ⟨z, er, he, hr, hl⟩ => by
    obtain ⟨rfl, rfl⟩ := read_m8 hr
    exact ⟨he, hl⟩)
  have T1 : Hid (∀ w, Env w → Calls Tryd.prog 5 #[.float .f64 4609434218613702656] w fun e w' => e = .returned (.string ⟨#[51, 112, 45, 49]⟩) ∧ Left w w') := Lib.hid fun w h => (text_any _ w (by decide) h).mono fun e w' ⟨he, hl⟩ => ⟨by rw [he, text_15]; rfl, hl⟩
  have T0 : Hid (∀ w, Env w → Calls Tryd.prog 5 #[.float .f64 0] w fun e w' => e = .returned (.string ⟨#[48]⟩) ∧ Left w w') := Lib.hid fun w h => (text_any _ w (by decide) h).mono fun e w' ⟨he, hl⟩ => ⟨by rw [he, text_00]; rfl, hl⟩
  have f1 : feq 13844065254536904704 13844065254536904704 = true := by decide
  clear hE
  go_enter Tryd.func9, Tryd.ntmps9
  go_wp2_with (first
    | (go_at_call 6; ((with_reducible refine HR.out.mono ?_); rintro e w1 ⟨rfl, hL1⟩; have HL1 := Lib.hid hL1; clear hL1))
    | (go_at_call 5; ((with_reducible refine (T1.out _ HL1.out.env).mono ?_); rintro e w2 ⟨rfl, hL2⟩; have HL2 := Lib.hid hL2; clear hL2))
    | (go_at_call 5; ((with_reducible refine (T0.out _ HL2.out.env).mono ?_); rintro e w3 ⟨rfl, hL3⟩; have HL3 := Lib.hid hL3; clear hL3)))
  go_ret
  exact ⟨rfl, (HL1.out.trans HL2.out).trans HL3.out⟩

theorem left_draws {w w' : World} (hE : Env w) (h : ∃ q, w' = w.drewN q) : Left w w' := by
  obtain ⟨q, rfl⟩ := h
  exact .of hE (Go.Joins.below_draws _ _ _)

set_option maxHeartbeats 2000000 in
theorem texts_any (b : Nat) (w : World) (hb : b < 18446744073709551616) (hE : Env w) : Calls Tryd.prog 3 #[.float .f64 b] w (GivesTrue w) := by
  have T : Hid (Calls Tryd.prog 5 #[.float .f64 b] w (GivesStr (text b) w)) := Lib.hid (text_any b w hb hE)
  have hlen := text_len b
  have R : Hid (∀ w, Env w → Calls Tryd.prog 6 #[.string (str (text b))] w fun e w' => ∃ z, e = .returned (.tuple #[.float .f64 z, .int .i64 0]) ∧ (z < 18446744073709551616 ∧ same b z = true) ∧ Left w w') := Lib.hid fun w h => (read_any (text b) w h (by omega)).mono fun e w' ⟨z, er, he, hr, hl⟩ => by
    rcases hr.is with ⟨h1, h2⟩ | ⟨_, _, h2⟩
    · subst h1
      exact ⟨z, he, ⟨hr.lt, text_inj hb hr.lt h2.symm⟩, hl⟩
    · exact absurd rfl (h2 b hb)
  have RT : Hid (∀ w, Calls Tryd.prog 7 #[.float .f64 b] w (DrewStr (text b) w)) := Lib.hid fun w => reft_any b w hb
  have hs : ((str (text b)).toList == (str (text b)).toList) = true := beq_self_eq_true _
  clear hlen hE
  go_enter Tryd.func3, Tryd.ntmps3
  go_wp2_with (first
    | (go_at_call 5; ((with_reducible refine T.out.mono ?_); rintro e w1 ⟨rfl, hL1⟩; have HL1 := Lib.hid hL1; clear hL1))
    | (go_at_call 6; ((with_reducible refine (R.out _ HL1.out.env).mono ?_); rintro e w2 ⟨z, rfl, ⟨hz, hsm⟩, hL2⟩; have HL2 := Lib.hid hL2; clear hL2))
    | (go_at_call 7; ((with_reducible refine (RT.out _).mono ?_); rintro e w3 ⟨rfl, hL3⟩; have HL3 := Lib.hid (left_draws HL2.out.env hL3); clear hL3))
    | (go_at_call 8; ((with_reducible refine (ref_same_any _ _ _ (by assumption) (by assumption)).mono ?_); rintro e w' ⟨rfl, rfl⟩))
    | (go_at_call 9; ((with_reducible refine (works_any _ HL3.out.env).mono ?_); rintro e w4 ⟨rfl, hL4⟩; have HL4 := Lib.hid hL4; clear hL4)))
  go_ret
  exact ⟨rfl, ((HL1.out.trans HL2.out).trans HL3.out).trans HL4.out⟩

set_option maxHeartbeats 2000000 in
theorem reads_any (l : List UInt8) (w : World) (hE : Env w) : Calls Tryd.prog 4 #[.string (str l)] w (GivesTrue w) := by
  have HE := Lib.hid hE
  obtain ⟨L, hL⟩ : ∃ L : Int, L = (l.length : Nat) := ⟨_, rfl⟩
  have hsz : (((str l).size : Nat) : Int) = L := by rw [str_size, hL]
  by_cases hl : 100 < L
  · clear hL hE
    go_enter Tryd.func4, Tryd.ntmps4
    go_wp2_with (go_at_call 9; ((with_reducible refine (works_any _ HE.out).mono ?_); rintro e w4 ⟨rfl, hL4⟩; have HL4 := Lib.hid hL4; clear hL4))
    go_ret
    exact ⟨rfl, HL4.out⟩
  · have hl2 : L ≤ 100 := by omega
    by_cases hx : ∃ b, b < 18446744073709551616 ∧ text b = l
    · have R : Hid (Calls Tryd.prog 6 #[.string (str l)] w fun e w' => ∃ z, e = .returned (.tuple #[.float .f64 z, .int .i64 0]) ∧ (z < 18446744073709551616 ∧ text z = l) ∧ Left w w') := Lib.hid ((read_any l w hE (by omega)).mono fun e w' ⟨z, er, he, hr, hl⟩ => by
        rcases hr.is with ⟨h1, h2⟩ | ⟨_, _, h2⟩
        · subst h1
          exact ⟨z, he, ⟨hr.lt, h2⟩, hl⟩
        · obtain ⟨b, hb, ht⟩ := hx
          exact absurd ht (h2 b hb))
      have RR : Hid (∀ w, Calls Tryd.prog 10 #[.string (str l)] w fun e w' => ∃ z, e = .returned (.tuple #[.float .f64 z, .bool true]) ∧ (z < 18446744073709551616 ∧ text z = l) ∧ ∃ q, w' = w.drewN q) := Lib.hid fun w => (refr_any l w (by omega)).mono fun e w' ⟨z, ok, he, hr, hl⟩ => by
        rcases hr.is with ⟨h1, h2⟩ | ⟨_, _, h2⟩
        · subst h1
          exact ⟨z, he, ⟨hr.lt, h2⟩, hl⟩
        · obtain ⟨b, hb, ht⟩ := hx
          exact absurd ht (h2 b hb)
      have SM : Hid (∀ a b, a < 18446744073709551616 → b < 18446744073709551616 → text a = l → text b = l → same a b = true) := Lib.hid fun a b ha hb h1 h2 => text_inj ha hb (h1.trans h2.symm)
      have TT : Hid (∀ z w, z < 18446744073709551616 → text z = l → Env w → Calls Tryd.prog 5 #[.float .f64 z] w (GivesStr l w)) := Lib.hid fun z w hz ht h => by
        have := text_any z w hz h
        rw [ht] at this
        exact this
      have hs : ((str l).toList == (str l).toList) = true := beq_self_eq_true _
      clear hx hl hL hE
      go_enter Tryd.func4, Tryd.ntmps4
      go_wp2_with (first
        | (go_at_call 6; ((with_reducible refine R.out.mono ?_); rintro e w1 ⟨z, rfl, ⟨hz, hzt⟩, hL1⟩; have HL1 := Lib.hid hL1; have HZT := Lib.hid hzt; clear hL1 hzt))
        | (go_at_call 10; ((with_reducible refine (RR.out _).mono ?_); rintro e w2 ⟨g, rfl, ⟨hg, hgt⟩, hL2⟩; have hsm := SM.out z g hz hg HZT.out hgt; have HL2 := Lib.hid (left_draws HL1.out.env hL2); clear hL2 hgt))
        | (go_at_call 8; ((with_reducible refine (ref_same_any _ _ _ (by assumption) (by assumption)).mono ?_); rintro e w' ⟨rfl, rfl⟩))
        | (go_at_call 5; ((with_reducible refine (TT.out _ _ hz HZT.out HL2.out.env).mono ?_); rintro e w3 ⟨rfl, hL3⟩; have HL3 := Lib.hid hL3; clear hL3))
        | (go_at_call 9; ((with_reducible refine (works_any _ HL3.out.env).mono ?_); rintro e w4 ⟨rfl, hL4⟩; have HL4 := Lib.hid hL4; clear hL4)))
      go_ret
      exact ⟨rfl, ((HL1.out.trans HL2.out).trans HL3.out).trans HL4.out⟩
    · have R : Hid (Calls Tryd.prog 6 #[.string (str l)] w fun e w' => e = .returned (.tuple #[.float .f64 0, .int .i64 3]) ∧ Left w w') := Lib.hid ((read_any l w hE (by omega)).mono fun e w' ⟨z, er, he, hr, hl⟩ => by
        rcases hr.is with ⟨h1, h2⟩ | ⟨h1, h3, h2⟩
        · exact absurd ⟨z, hr.lt, h2⟩ hx
        · subst h1; subst h3
          exact ⟨he, hl⟩)
      have RR : Hid (∀ w, Calls Tryd.prog 10 #[.string (str l)] w fun e w' => e = .returned (.tuple #[.float .f64 0, .bool false]) ∧ ∃ q, w' = w.drewN q) := Lib.hid fun w => (refr_any l w (by omega)).mono fun e w' ⟨z, ok, he, hr, hl⟩ => by
        rcases hr.is with ⟨h1, h2⟩ | ⟨h1, h3, h2⟩
        · exact absurd ⟨z, hr.lt, h2⟩ hx
        · subst h1; subst h3
          exact ⟨he, hl⟩
      have k0 : kind 0 = 4 := by decide
      clear hx hl hL hE
      go_enter Tryd.func4, Tryd.ntmps4
      go_wp2_with (first
        | (go_at_call 6; ((with_reducible refine R.out.mono ?_); rintro e w1 ⟨rfl, hL1⟩; have HL1 := Lib.hid hL1; clear hL1))
        | (go_at_call 10; ((with_reducible refine (RR.out _).mono ?_); rintro e w2 ⟨rfl, hL2⟩; have HL2 := Lib.hid (left_draws HL1.out.env hL2); clear hL2))
        | (go_at_call 11; ((with_reducible refine (ref_kind_any _ _ (by decide)).mono ?_); rintro e w' ⟨rfl, rfl⟩))
        | (go_at_call 9; ((with_reducible refine (works_any _ HL2.out.env).mono ?_); rintro e w4 ⟨rfl, hL4⟩; have HL4 := Lib.hid hL4; clear hL4)))
      go_ret
      exact ⟨rfl, (HL1.out.trans HL2.out).trans HL4.out⟩
end Go.Proofs.YtgnnikeflkljdaaDoor
