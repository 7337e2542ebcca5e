/- What the program's Read (layer 2, exact) gives: of any text the number whose text it is, or an error, if there is none. Conditions: the library's tables and errors as they are laid (Env). -/
import Derived.Test.YtlacjlcndejeaaaDoorExactD
import Derived.Lib.ParseIntBTie
namespace Go.Proofs.YtlacjlcndejeaaaDoor
open Go.RowKit F64 Go.Lib
set_option linter.unusedVariables false

theorem cut_le (s : Bool) (n d : Nat) (h : d ≤ n.log2 + 2) : Ieee.Toward.even.cut s n d ≤ n / 2 ^ d + 1 := by
  unfold Ieee.Toward.cut
  simp only []
  rw [Nat.min_eq_left h, Nat.one_shiftLeft]
  have : ∀ c : Bool, c.toNat ≤ 1 := by decide
  exact Nat.add_le_add_left (this _) _
theorem ofint_fin {n : Int} (h : n ≠ 0) (h2 : n.natAbs ≤ 9223372036854775808) : rung (floatOfInt .f64 n) ≠ 0 ∧ rung (floatOfInt .f64 n) < 9218868437227405312 := by
  have e : floatOfInt .f64 n = Ieee.double.nearest (decide (n < 0)) n.natAbs 0 := rfl
  rw [e]
  have hm : n.natAbs ≠ 0 := by omega
  generalize n.natAbs = m at hm h2
  have hl : m.log2 < 64 := by rw [Nat.log2_lt hm]; have : (2 : Nat) ^ 64 = 18446744073709551616 := by decide
                              omega
  have hlast : max (0 + (m.log2 : Int) - (Ieee.double.fractionBits : Int)) Ieee.double.leastPlace = (m.log2 : Int) - 52 := by rw [c_frac, c_least]; omega
  unfold Ieee.Format.nearest
  rw [if_neg hm]
  simp only [hlast]
  rw [c_least, c_bin, c_inf]
  have h3 := (Nat.log2_lt hm (k := m.log2 + 1)).1 (by omega)
  have hk : Ieee.Toward.even.cut (decide (n < 0)) (m <<< (0 - ((m.log2 : Int) - 52)).toNat) ((m.log2 : Int) - 52 - 0).toNat ≤ 9007199254740993 := by
    by_cases h4 : m.log2 ≤ 52
    · rw [show ((m.log2 : Int) - 52 - 0).toNat = 0 by omega, cut_zero, Nat.shiftLeft_eq, show (0 - ((m.log2 : Int) - 52)).toNat = 52 - m.log2 by omega]
      have p2 : 2 ^ (m.log2 + 1) * 2 ^ (52 - m.log2) = 9007199254740992 := by rw [← Nat.pow_add, show m.log2 + 1 + (52 - m.log2) = 53 by omega]
      have b2 := Nat.mul_lt_mul_of_pos_right h3 (two_pos (52 - m.log2))
      omega
    · rw [show (0 - ((m.log2 : Int) - 52)).toNat = 0 by omega, Nat.shiftLeft_zero, show ((m.log2 : Int) - 52 - 0).toNat = m.log2 - 52 by omega]
      have b1 := cut_le (decide (n < 0)) m (m.log2 - 52) (by omega)
      have p2 : 2 ^ (m.log2 + 1) = 9007199254740992 * 2 ^ (m.log2 - 52) := by rw [show (9007199254740992 : Nat) = 2 ^ 53 by decide, ← Nat.pow_add]; congr 1; omega
      have b2 : m / 2 ^ (m.log2 - 52) < 9007199254740992 := Nat.div_lt_of_lt_mul (by rw [Nat.mul_comm, ← p2]; exact h3)
      omega
  have hr := word_rung (n := decide (n < 0)) (r := min ((((m.log2 : Int) - 52) - -1074).toNat * 4503599627370496 + Ieee.Toward.even.cut (decide (n < 0)) (m <<< (0 - ((m.log2 : Int) - 52)).toNat) ((m.log2 : Int) - 52 - 0).toNat) 9218868437227405312) (by omega)
  rw [hr.1]
  omega

/-- A number made of its parts. -/
theorem parts_back {b z : Nat} (hb : b < 18446744073709551616) (hz : rung b ≠ 0) (hf : rung b < 9218868437227405312) (h : Scaled (floatOfInt .f64 (oddOf b)) (powOf b) z) : z = b := by
  have hs := odd_small hz
  obtain ⟨r0, hr0⟩ := val_rep (m := (oddOf b).natAbs) (by omega) (K 1074)
  have hv : val (rung b) = (oddOf b).natAbs * 2 ^ tw (val (rung b)) := by rw [hs.2.2.2.2.2]; exact (od_tw (val_ne hz)).1
  have h0 : 0 < r0 := by
    rcases Nat.eq_zero_or_pos r0 with e | e
    · subst e
      rw [val_zero] at hr0
      have := Nat.mul_pos (show 0 < (oddOf b).natAbs by omega) (two_pos (K 1074))
      omega
    · exact e
  have hi : r0 < 9218868437227405312 := by
    rewrite [← val_lt_iff, hr0, val_inf]
    have h1 : (oddOf b).natAbs < 9007199254740992 := by omega
    have h2 := Nat.mul_lt_mul_of_pos_right h1 (two_pos (K 1074))
    exact Nat.lt_of_lt_of_le h2 big_small
  have hw := ofint_eq (n := oddOf b) h0 hi hr0
  have hp := word_rung (n := decide (oddOf b < 0)) (r := r0) (by omega)
  have := h.2 (rung b) (by omega) hf (by
    rw [hw, hp.1, hr0, hv]
    unfold powOf
    by_cases hc : 1074 ≤ tw (val (rung b))
    · rw [show (-((tw (val (rung b)) : Int) - 1074)).toNat = 0 by omega, show ((tw (val (rung b)) : Int) - 1074).toNat = tw (val (rung b)) - 1074 by omega, Nat.pow_zero, Nat.mul_one, Nat.mul_assoc, ← Nat.pow_add]
      rw [show K 1074 + (tw (val (rung b)) - 1074) = tw (val (rung b)) by rw [K_eq]; omega]
    · rw [show (-((tw (val (rung b)) : Int) - 1074)).toNat = 1074 - tw (val (rung b)) by omega, show ((tw (val (rung b)) : Int) - 1074).toNat = 0 by omega, Nat.pow_zero, Nat.mul_one, Nat.mul_assoc, ← Nat.pow_add]
      rw [show tw (val (rung b)) + (1074 - tw (val (rung b))) = K 1074 by rw [K_eq]; omega])
  rw [this, hw, hp.2.1]
  have e : decide (oddOf b < 0) = neg b := by rw [Bool.eq_iff_iff, decide_eq_true_eq]; exact hs.2.2.2.1
  rw [e, word_back hb]

/-! ### strconv.ParseInt -/
def Failed (w : World) (e : Ending) (w' : World) : Prop := ∃ (n : Int) (T : TypeId) (p : Value), e = .returned (.tuple #[.int .i64 n, .iface T p]) ∧ Left w w'
def ParsedTo (n : Int) (w : World) (e : Ending) (w' : World) : Prop := e = .returned (.tuple #[.int .i64 n, .nilIface]) ∧ Left w w'
theorem of_bytes {w w' : World} {T : TypeId} (hE : Env w) (h : w' = w ∨ ∃ t, w' = Lib.bytesWorld w T t) : Left w w' := by
  rcases h with rfl | ⟨t, rfl⟩
  · exact Left.refl hE
  · exact Left.of hE (Lib.bytesWorld_below _ _ _)
theorem parse64_ok (l : List UInt8) (v : Int) (w : World) (hE : Env w) (hl : l.length ≤ 1000) (h : Lib.parseIntB 64 l = .ok v) : Calls Tryd.prog 79 #[.string (str l), .int .i64 10, .int .i64 64] w (ParsedTo v w) :=
  (Tryd.strconv_ParseInt_10_at64_ok (str l) (by rw [str_size]; omega) v h w).mono fun e w' ⟨he, hw⟩ => ⟨he, of_bytes hE hw⟩
theorem parse16_ok (l : List UInt8) (v : Int) (w : World) (hE : Env w) (hl : l.length ≤ 1000) (h : Lib.parseIntB 16 l = .ok v) : Calls Tryd.prog 79 #[.string (str l), .int .i64 10, .int .i64 16] w (ParsedTo v w) :=
  (Tryd.strconv_ParseInt_10_at16_ok (str l) (by rw [str_size]; omega) v h w).mono fun e w' ⟨he, hw⟩ => ⟨he, of_bytes hE hw⟩
theorem parse64_err (l : List UInt8) (w : World) (hE : Env w) (hl : l.length ≤ 1000) (h : ∀ v, Lib.parseIntB 64 l ≠ .ok v) : Calls Tryd.prog 79 #[.string (str l), .int .i64 10, .int .i64 64] w (Failed w) := by
  cases hp : Lib.parseIntB 64 l
  · exact absurd hp (h _)
  · obtain ⟨tp, p, hv⟩ := hE.syn
    exact (Tryd.strconv_ParseInt_10_at64_syntax_var (str l) (by rw [str_size]; omega) hp tp p w hv).mono fun e w' ⟨N, he, _, _, hb⟩ => ⟨_, _, _, he, .of hE hb⟩
  · obtain ⟨tp, p, hv⟩ := hE.rng
    exact (Tryd.strconv_ParseInt_10_at64_range_var (str l) (by rw [str_size]; omega) hp tp p w hv).mono fun e w' ⟨N, he, _, _, hb⟩ => ⟨_, _, _, he, .of hE hb⟩
theorem parse16_err (l : List UInt8) (w : World) (hE : Env w) (hl : l.length ≤ 1000) (h : ∀ v, Lib.parseIntB 16 l ≠ .ok v) : Calls Tryd.prog 79 #[.string (str l), .int .i64 10, .int .i64 16] w (Failed w) := by
  cases hp : Lib.parseIntB 16 l
  · exact absurd hp (h _)
  · obtain ⟨tp, p, hv⟩ := hE.syn
    exact (Tryd.strconv_ParseInt_10_at16_syntax_var (str l) (by rw [str_size]; omega) hp tp p w hv).mono fun e w' ⟨N, he, _, _, hb⟩ => ⟨_, _, _, he, .of hE hb⟩
  · obtain ⟨tp, p, hv⟩ := hE.rng
    exact (Tryd.strconv_ParseInt_10_at16_range_var (str l) (by rw [str_size]; omega) hp tp p w hv).mono fun e w' ⟨N, he, _, _, hb⟩ => ⟨_, _, _, he, .of hE hb⟩

/-! ### product, near, Read -/
theorem cut_any (l : List UInt8) (w : World) (hE : Env w) (hl : l.length ≤ 1000) : Calls Tryd.prog 35 #[.string (str l), .string ⟨#[112]⟩] w fun e w' => e = .returned (.tuple #[.string (str (Lib.cut l [112]).1), .string (str (Lib.cut l [112]).2.1), .bool (Lib.cut l [112]).2.2]) ∧ Left w w' := by
  obtain ⟨m, hm⟩ := hE.most
  exact (Tryd.strings_Cut (str l) ⟨#[112]⟩ m w (by rw [str_size]; omega) hm).mono fun e w' ⟨he, n, hw⟩ => ⟨he, .of hE (by rw [hw]; exact Go.Joins.below_draws _ _ _)⟩
theorem cut_len (l p : List UInt8) : (Lib.cut l p).1.length ≤ l.length ∧ (Lib.cut l p).2.1.length ≤ l.length := by
  unfold Lib.cut
  split
  · simp only [List.length_take, List.length_drop]; omega
  · simp

/-- What product gives: some number, or none; the number whose text it is, if that is one with a power. -/
structure Prod (l : List UInt8) (z : Nat) (ok : Bool) : Prop where
  lt : z < 18446744073709551616
  hit : ∀ b, b < 18446744073709551616 → rung b ≠ 0 → rung b < 9218868437227405312 → text b = l → z = b ∧ ok = true
def GivesProd (l : List UInt8) (w : World) (e : Ending) (w' : World) : Prop := ∃ (z : Nat) (ok : Bool), e = .returned (.tuple #[.float .f64 z, .bool ok]) ∧ Prod l z ok ∧ Left w w'

theorem parsed_parts {b : Nat} {l : List UInt8} (hz : rung b ≠ 0) (hf : rung b < 9218868437227405312) (h : text b = l) : Lib.parseIntB 64 (Lib.cut l [112]).1 = .ok (oddOf b) ∧ Lib.parseIntB 16 (Lib.cut l [112]).2.1 = .ok (powOf b) := by
  have hs := odd_small hz
  have hp := pow_small hz hf
  rw [← h, text_num hz hf, Dec.cut_p _ _ (Dec.itoa_no_p _)]
  exact ⟨Dec.pib64 _ (by omega) (by omega), Dec.pib16 _ (by omega) (by omega)⟩

set_option maxHeartbeats 1000000 in
theorem product_any (l : List UInt8) (w : World) (hE : Env w) (hl : l.length ≤ 1000) : Calls Tryd.prog 66 #[.string (str l)] w (GivesProd l w) := by
  have hc := cut_len l [112]
  have HP := Lib.hid (fun b hz hf h => parsed_parts (b := b) (l := l) hz hf h)
  have HE := Lib.hid hE
  have HC : Hid (∀ w, Env w → Calls Tryd.prog 35 #[.string (str l), .string ⟨#[112]⟩] w fun e w' => e = .returned (.tuple #[.string (str (Lib.cut l [112]).1), .string (str (Lib.cut l [112]).2.1), .bool (Lib.cut l [112]).2.2]) ∧ Left w w') := Lib.hid fun w h => cut_any l w h hl
  generalize Lib.cut l [112] = c at *
  obtain ⟨c1, c2, c3⟩ := c
  simp only at hc HP HC
  have H1 : Hid (c1.length ≤ 1000) := Lib.hid (by omega)
  have H2 : Hid (c2.length ≤ 1000) := Lib.hid (by omega)
  clear hE hl hc
  by_cases h1 : ∃ v, Lib.parseIntB 64 c1 = .ok v
  · obtain ⟨m, h1⟩ := h1
    have HM := Lib.hid h1
    have hmb := parseIntB_bounds h1
    rw [show (2 : Nat) ^ (64 - 1) = 9223372036854775808 by decide] at hmb
    by_cases h2 : ∃ v, Lib.parseIntB 16 c2 = .ok v
    · obtain ⟨k, h2⟩ := h2
      have HK := Lib.hid h2
      have hkb := parseIntB_bounds h2
      rw [show (2 : Nat) ^ (16 - 1) = 32768 by decide] at hkb
      clear h1 h2
      by_cases hm0 : m = 0
      · subst hm0
        clear hmb hkb
        have e0 : floatOfInt .f64 0 = 0 := ofint_zero
        go_enter Tryd.func66, Tryd.ntmps66
        go_wp2_with (first
          | (go_at_call 35; ((with_reducible refine (HC.out _ HE.out).mono ?_); rintro e w1 ⟨rfl, hL1⟩; have HL1 := Lib.hid hL1; clear hL1))
          | (go_at_call 79; ((with_reducible refine (parse64_ok _ _ _ HL1.out.env H1.out HM.out).mono ?_); rintro e w2 ⟨rfl, hL2⟩; have HL2 := Lib.hid hL2; clear hL2))
          | (go_at_call 79; ((with_reducible refine (parse16_ok _ _ _ HL2.out.env H2.out HK.out).mono ?_); rintro e w3 ⟨rfl, hL3⟩; have HL3 := Lib.hid hL3; clear hL3))
          | (go_at_call 46; ((with_reducible refine (ldexp_zero _ _).mono ?_); rintro e w' ⟨rfl, rfl⟩)))
        go_ret2
        refine ⟨_, _, rfl, ⟨by omega, fun b hb hz hf ht => ?_⟩, (HL1.out.trans HL2.out).trans HL3.out⟩
        exfalso
        have h := (HP.out b hz hf ht).1
        rw [HM.out] at h
        injection h with h
        have := odd_small hz
        omega
      · have hfin := ofint_fin hm0 (by omega)
        have HF : Hid (∀ w, Calls Tryd.prog 46 #[.float .f64 (floatOfInt .f64 m), .int .i64 k] w (SomeF (Scaled (floatOfInt .f64 m) k) w)) := Lib.hid fun w => ldexp_num _ _ _ (ofint_some m).2 hfin.1 hfin.2 (by omega) (by omega)
        clear hmb hkb hfin
        go_enter Tryd.func66, Tryd.ntmps66
        go_wp2_with (first
          | (go_at_call 35; ((with_reducible refine (HC.out _ HE.out).mono ?_); rintro e w1 ⟨rfl, hL1⟩; have HL1 := Lib.hid hL1; clear hL1))
          | (go_at_call 79; ((with_reducible refine (parse64_ok _ _ _ HL1.out.env H1.out HM.out).mono ?_); rintro e w2 ⟨rfl, hL2⟩; have HL2 := Lib.hid hL2; clear hL2))
          | (go_at_call 79; ((with_reducible refine (parse16_ok _ _ _ HL2.out.env H2.out HK.out).mono ?_); rintro e w3 ⟨rfl, hL3⟩; have HL3 := Lib.hid hL3; clear hL3))
          | (go_at_call 46; ((with_reducible refine (HF.out _).mono ?_); rintro e w' ⟨z, hz, rfl, rfl⟩; have HS := Lib.hid hz; clear hz)))
        go_ret2
        refine ⟨_, _, rfl, ⟨HS.out.1, fun b hb hz hf ht => ?_⟩, (HL1.out.trans HL2.out).trans HL3.out⟩
        have h := HP.out b hz hf ht
        rw [HM.out, HK.out] at h
        obtain ⟨h3, h4⟩ := h
        injection h3 with h3
        injection h4 with h4
        have hs := HS.out
        rw [h3, h4] at hs
        exact ⟨parts_back hb hz hf hs, rfl⟩
    · have HK : Hid (∀ v, Lib.parseIntB 16 c2 ≠ .ok v) := Lib.hid fun v hv => h2 ⟨v, hv⟩
      clear h1 h2 hmb
      go_enter Tryd.func66, Tryd.ntmps66
      go_wp2_with (first
        | (go_at_call 35; ((with_reducible refine (HC.out _ HE.out).mono ?_); rintro e w1 ⟨rfl, hL1⟩; have HL1 := Lib.hid hL1; clear hL1))
        | (go_at_call 79; ((with_reducible refine (parse64_ok _ _ _ HL1.out.env H1.out HM.out).mono ?_); rintro e w2 ⟨rfl, hL2⟩; have HL2 := Lib.hid hL2; clear hL2))
        | (go_at_call 79; ((with_reducible refine (parse16_err _ _ HL2.out.env H2.out HK.out).mono ?_); rintro e w3 ⟨n, T, p, rfl, hL3⟩; have HL3 := Lib.hid hL3; clear hL3)))
      go_ret2
      refine ⟨_, _, rfl, ⟨by omega, fun b hb hz hf ht => ?_⟩, (HL1.out.trans HL2.out).trans HL3.out⟩
      exact absurd (HP.out b hz hf ht).2 (HK.out _)
  · have HM : Hid (∀ v, Lib.parseIntB 64 c1 ≠ .ok v) := Lib.hid fun v hv => h1 ⟨v, hv⟩
    clear h1
    go_enter Tryd.func66, Tryd.ntmps66
    go_wp2_with (first
      | (go_at_call 35; ((with_reducible refine (HC.out _ HE.out).mono ?_); rintro e w1 ⟨rfl, hL1⟩; have HL1 := Lib.hid hL1; clear hL1))
      | (go_at_call 79; ((with_reducible refine (parse64_err _ _ HL1.out.env H1.out HM.out).mono ?_); rintro e w2 ⟨n, T, p, rfl, hL2⟩; have HL2 := Lib.hid hL2; clear hL2)))
    go_ret2
    refine ⟨_, _, rfl, ⟨by omega, fun b hb hz hf ht => ?_⟩, HL1.out.trans HL2.out⟩
    exact absurd (HP.out b hz hf ht).1 (HM.out _)

/-- What near gives: some number, or none; one whose text it is, if there is one. -/
structure Near (l : List UInt8) (z : Nat) (ok : Bool) : Prop where
  lt : z < 18446744073709551616
  hit : ∀ b, b < 18446744073709551616 → text b = l → text z = l ∧ ok = true
def GivesNear (l : List UInt8) (w : World) (e : Ending) (w' : World) : Prop := ∃ (z : Nat) (ok : Bool), e = .returned (.tuple #[.float .f64 z, .bool ok]) ∧ Near l z ok ∧ Left w w'

theorem beq_ne {l r : List UInt8} (h : l ≠ r) : (l == r) = false := by rw [beq_eq_false_iff_ne]; exact h
theorem canon_nan_w : canon 9221120237041090561 = 9221120237041090561 := by decide

set_option maxHeartbeats 1000000 in
theorem near_any (l : List UInt8) (w : World) (hE : Env w) (hl : (l.length : Int) ≤ 140737488355328) : Calls Tryd.prog 50 #[.string (str l)] w (GivesNear l w) := by
  have HE := Lib.hid hE
  clear hE
  have k1 := canon_nan_w
  have k2 : sg 13830554455654793216 * 9223372036854775808 = 9223372036854775808 := by decide
  by_cases h1 : l = [110, 97, 110]
  · subst h1
    have e1 : ((str [110, 97, 110]).toList == [110, 97, 110]) = true := by rw [str, ByteArray.toList_mk]; decide
    clear hl
    go_enter Tryd.func50, Tryd.ntmps50
    go_wp2_with (first
      | (go_at_call 63; ((with_reducible refine (nan_any _).mono ?_); rintro e w' ⟨rfl, rfl⟩))
      | (go_at_call 53; ((with_reducible refine (canon_any _ _).mono ?_); rintro e w' ⟨rfl, rfl⟩)))
    go_ret2
    exact ⟨_, _, rfl, ⟨by omega, fun b hb h => ⟨by decide, rfl⟩⟩, Left.refl HE.out⟩
  · by_cases h2 : l = [45, 105, 110, 102]
    · subst h2
      have e1 : ((str [45, 105, 110, 102]).toList == [110, 97, 110]) = false := by rw [str, ByteArray.toList_mk]; decide
      have e2 : ((str [45, 105, 110, 102]).toList == [45, 105, 110, 102]) = true := by rw [str, ByteArray.toList_mk]; decide
      clear hl h1
      go_enter Tryd.func50, Tryd.ntmps50
      go_wp2_with (first
        | (go_at_call 64; ((with_reducible refine (inf_neg _).mono ?_); rintro e w' ⟨rfl, rfl⟩)))
      go_ret2
      exact ⟨_, _, rfl, ⟨by omega, fun b hb h => ⟨by decide, rfl⟩⟩, Left.refl HE.out⟩
    · by_cases h3 : l = [45, 48]
      · subst h3
        have e1 : ((str [45, 48]).toList == [110, 97, 110]) = false := by rw [str, ByteArray.toList_mk]; decide
        have e2 : ((str [45, 48]).toList == [45, 105, 110, 102]) = false := by rw [str, ByteArray.toList_mk]; decide
        have e3 : ((str [45, 48]).toList == [45, 48]) = true := by rw [str, ByteArray.toList_mk]; decide
        clear hl h1 h2
        go_enter Tryd.func50, Tryd.ntmps50
        go_wp2_with (first
          | (go_at_call 65; ((with_reducible refine (copysign_any _ _ (by decide)).mono ?_); rintro e w' ⟨rfl, rfl⟩)))
        go_ret2
        exact ⟨_, _, rfl, ⟨by omega, fun b hb h => ⟨by decide, rfl⟩⟩, Left.refl HE.out⟩
      · by_cases h4 : l = [48]
        · subst h4
          have e1 : ((str [48]).toList == [110, 97, 110]) = false := by rw [str, ByteArray.toList_mk]; decide
          have e2 : ((str [48]).toList == [45, 105, 110, 102]) = false := by rw [str, ByteArray.toList_mk]; decide
          have e3 : ((str [48]).toList == [45, 48]) = false := by rw [str, ByteArray.toList_mk]; decide
          have e4 : ((str [48]).toList == [48]) = true := by rw [str, ByteArray.toList_mk]; decide
          clear hl h1 h2 h3
          go_enter Tryd.func50, Tryd.ntmps50
          go_wp2
          go_ret2
          exact ⟨_, _, rfl, ⟨by omega, fun b hb h => ⟨by decide, rfl⟩⟩, Left.refl HE.out⟩
        · by_cases h5 : l = [105, 110, 102]
          · subst h5
            have e1 : ((str [105, 110, 102]).toList == [110, 97, 110]) = false := by rw [str, ByteArray.toList_mk]; decide
            have e2 : ((str [105, 110, 102]).toList == [45, 105, 110, 102]) = false := by rw [str, ByteArray.toList_mk]; decide
            have e3 : ((str [105, 110, 102]).toList == [45, 48]) = false := by rw [str, ByteArray.toList_mk]; decide
            have e4 : ((str [105, 110, 102]).toList == [48]) = false := by rw [str, ByteArray.toList_mk]; decide
            have e5 : ((str [105, 110, 102]).toList == [105, 110, 102]) = true := by rw [str, ByteArray.toList_mk]; decide
            clear hl h1 h2 h3 h4
            go_enter Tryd.func50, Tryd.ntmps50
            go_wp2_with (first
              | (go_at_call 64; ((with_reducible refine (inf_pos _).mono ?_); rintro e w' ⟨rfl, rfl⟩)))
            go_ret2
            exact ⟨_, _, rfl, ⟨by omega, fun b hb h => ⟨by decide, rfl⟩⟩, Left.refl HE.out⟩
          · have hfive : ∀ b, text b = l → rung b ≠ 0 ∧ rung b < 9218868437227405312 := by
              intro b h
              by_cases hs : isNan b = true ∨ rung b = 9218868437227405312 ∨ rung b = 0
              · exfalso
                have := text_five b hs
                rw [h] at this
                rcases this with e | e | e | e | e
                · exact h1 e
                · exact h2 e
                · exact h5 e
                · exact h3 e
                · exact h4 e
              · have hn : isNan b = false := by simpa using fun e => hs (.inl e)
                have := not_nan hn
                omega
            have HV := Lib.hid hfive
            have e1 : ((str l).toList == [110, 97, 110]) = false := by rw [str, ByteArray.toList_mk]; exact beq_ne h1
            have e2 : ((str l).toList == [45, 105, 110, 102]) = false := by rw [str, ByteArray.toList_mk]; exact beq_ne h2
            have e3 : ((str l).toList == [45, 48]) = false := by rw [str, ByteArray.toList_mk]; exact beq_ne h3
            have e4 : ((str l).toList == [48]) = false := by rw [str, ByteArray.toList_mk]; exact beq_ne h4
            have e5 : ((str l).toList == [105, 110, 102]) = false := by rw [str, ByteArray.toList_mk]; exact beq_ne h5
            have hsz := str_size l
            clear h1 h2 h3 h4 h5 hfive k1 k2
            by_cases h6 : l.length ≤ 23
            · have HP : Hid (∀ w, Env w → Calls Tryd.prog 66 #[.string (str l)] w (GivesProd l w)) := Lib.hid fun w h => product_any l w h (by omega)
              go_enter Tryd.func50, Tryd.ntmps50
              go_wp2_with (first
                | (go_at_call 66; ((with_reducible refine (HP.out _ HE.out).mono ?_); rintro e w1 ⟨z, ok, rfl, hz, hL1⟩; have HL1 := Lib.hid hL1; have HQ := Lib.hid hz; clear hL1 hz)))
              go_ret2
              refine ⟨_, _, rfl, ⟨HQ.out.lt, fun b hb h => ?_⟩, HL1.out⟩
              have h7 := HQ.out.hit b hb (HV.out b h).1 (HV.out b h).2 h
              exact ⟨by rw [h7.1]; exact h, h7.2⟩
            · go_enter Tryd.func50, Tryd.ntmps50
              go_wp2
              go_ret2
              refine ⟨_, _, rfl, ⟨by omega, fun b hb h => ?_⟩, Left.refl HE.out⟩
              exfalso
              have := text_len b
              rw [h] at this
              omega

/-- What Read gives: the number whose text it is; or an error, if there is none. -/
structure ReadIs (l : List UInt8) (z : Nat) (er : Int) : Prop where
  lt : z < 18446744073709551616
  is : (er = 0 ∧ text z = l) ∨ (er = 3 ∧ z = 0 ∧ ∀ b, b < 18446744073709551616 → text b ≠ l)
def GivesRead (l : List UInt8) (w : World) (e : Ending) (w' : World) : Prop := ∃ (z : Nat) (er : Int), e = .returned (.tuple #[.float .f64 z, .int .i64 er]) ∧ ReadIs l z er ∧ Left w w'

set_option maxHeartbeats 1000000 in
theorem read_any (l : List UInt8) (w : World) (hE : Env w) (hl : (l.length : Int) ≤ 140737488355328) : Calls Tryd.prog 36 #[.string (str l)] w (GivesRead l w) := by
  have HN := Lib.hid (near_any l w hE hl)
  clear hE hl
  go_enter Tryd.func36, Tryd.ntmps36
  go_wp2_with (first
    | (go_at_call 50; ((with_reducible refine HN.out.mono ?_); rintro e w1 ⟨z, ok, rfl, hz, hL1⟩; have HL1 := Lib.hid hL1; have HQ := Lib.hid hz; clear hL1 hz; refine Hid.out ?_)))
  cases ok
  · refine Lib.hid ?_
    go_wp2
    go_ret2
    refine ⟨_, _, rfl, ⟨by omega, .inr ⟨rfl, rfl, fun b hb h => ?_⟩⟩, HL1.out⟩
    have := (HQ.out.hit b hb h).2
    cases this
  · have hs : ∀ a b : List UInt8, ((str a).toList == (str b).toList) = (a == b) := fun a b => by rw [str, str, ByteArray.toList_mk, ByteArray.toList_mk]
    by_cases ht : text z = l
    · have he : ((str (text z)).toList == (str l).toList) = true := by rw [hs, ht]; exact beq_self_eq_true _
      have HT := Lib.hid ht
      clear ht hs
      refine Lib.hid ?_
      go_wp2_with (first
        | (go_at_call 18; ((with_reducible refine (text_any _ _ HQ.out.lt HL1.out.env).mono ?_); rintro e w2 ⟨rfl, hL2⟩; have HL2 := Lib.hid hL2; clear hL2)))
      go_ret2
      exact ⟨_, _, rfl, ⟨HQ.out.lt, .inl ⟨rfl, HT.out⟩⟩, HL1.out.trans HL2.out⟩
    · have he : ((str (text z)).toList == (str l).toList) = false := by rw [hs]; exact beq_ne ht
      have HT := Lib.hid ht
      clear ht hs
      refine Lib.hid ?_
      go_wp2_with (first
        | (go_at_call 18; ((with_reducible refine (text_any _ _ HQ.out.lt HL1.out.env).mono ?_); rintro e w2 ⟨rfl, hL2⟩; have HL2 := Lib.hid hL2; clear hL2)))
      go_ret2
      refine ⟨_, _, rfl, ⟨by omega, .inr ⟨rfl, rfl, fun b hb h => ?_⟩⟩, HL1.out.trans HL2.out⟩
      exact HT.out (HQ.out.hit b hb h).1
end Go.Proofs.YtlacjlcndejeaaaDoor
