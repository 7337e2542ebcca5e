/- What Same of layer 6 (cmd), the document's Same and Conflict, and the program's Text give. Conditions: a number's word of 64 bits; the library's tables and the kinds' words as they are laid (EnvC). -/
import Derived.Test.YtlacjlcndejeaaaDoorCmdC
import Derived.Test.YtlacjlcndejeaaaDoorExactE
namespace Go.Proofs.YtlacjlcndejeaaaDoor.Cmd
open Go.RowKit F64 Go.Lib
set_option linter.unusedVariables false

theorem str_dec (s s' : List UInt8) : ((str s).toList == (str s').toList) = decide (s = s') := by rw [str_beq, Bool.eq_iff_iff]; simp
theorem int_dec (k k' : Int) : (k == k') = decide (k = k') := by rw [Bool.eq_iff_iff]; simp
theorem same_c (k : Int) (s : List UInt8) (v : Nat) (k' : Int) (s' : List UInt8) (v' : Nat) (w : World) :
    Calls Tryd.prog 16 #[.agg #[.int .i64 k, .string (str s), .float .f64 v], .agg #[.int .i64 k', .string (str s'), .float .f64 v']] w (RetBelow (.bool (cSame k s v k' s' v')) w) := by
  have HT := Lib.hid (Two.start w k s v k' s' v')
  have HS := Lib.hid (same_any v v')
  have HE : Hid (cSame k s v k' s' v' = (decide (k = k') && decide (s = s') && same v v')) := Lib.hid rfl
  have hk := int_dec k k'
  have he := str_dec s s'
  generalize decide (k = k') = x at hk HE
  generalize decide (s = s') = y at he HE
  cases x <;> cases y
  all_goals
    go_enter Tryd.func16, Tryd.ntmps16
    go_wp2_with (first
      | (go_at_call 26; (with_reducible refine (HS.out _).mono ?_); rintro e w1 ⟨rfl, rfl⟩))
    go_ret
    exact ⟨ret_bool (by rw [HE.out]; rfl), HT.out.a.below⟩
theorem refsame_c (k : Int) (s : List UInt8) (v : Nat) (k' : Int) (s' : List UInt8) (v' : Nat) (w : World) (hv : v < 18446744073709551616) (hv' : v' < 18446744073709551616) :
    Calls Tryd.prog 14 #[.agg #[.int .i64 k, .string (str s), .float .f64 v], .agg #[.int .i64 k', .string (str s'), .float .f64 v']] w (RetBelow (.bool (cSame k s v k' s' v')) w) := by
  have HT := Lib.hid (Two.start w k s v k' s' v')
  have HS := Lib.hid (fun w => ref_same_any v v' w hv hv')
  have HE : Hid (cSame k s v k' s' v' = (decide (k = k') && decide (s = s') && same v v')) := Lib.hid rfl
  have hk := int_dec k k'
  have he := str_dec s s'
  clear hv hv'
  generalize decide (k = k') = x at hk HE
  generalize decide (s = s') = y at he HE
  cases x <;> cases y
  all_goals
    go_enter Tryd.func14, Tryd.ntmps14
    go_wp2_with (first
      | (go_at_call 25; (with_reducible refine (HS.out _).mono ?_); rintro e w1 ⟨rfl, rfl⟩))
    go_ret
    exact ⟨ret_bool (by rw [HE.out]; rfl), HT.out.a.below⟩
def rConf (k : Int) (s : List UInt8) (k' : Int) (s' : List UInt8) : Bool := decide (s = s') && (decide (k ≠ 1) || decide (k' ≠ 1))
theorem refconf_any (k : Int) (s : List UInt8) (v : Nat) (k' : Int) (s' : List UInt8) (v' : Nat) (w : World) :
    Calls Tryd.prog 15 #[.agg #[.int .i64 k, .string (str s), .float .f64 v], .agg #[.int .i64 k', .string (str s'), .float .f64 v']] w (RetBelow (.bool (rConf k s k' s')) w) := by
  have HT := Lib.hid (Two.start w k s v k' s' v')
  have HE : Hid (rConf k s k' s' = (decide (s = s') && (!decide (k = 1) || !decide (k' = 1)))) := Lib.hid (by unfold rConf; rw [decide_not, decide_not])
  have he := str_dec s s'
  have h1 : (k = 1 ∧ decide (k = 1) = true) ∨ ((k ≠ 1 ∧ (k != 1) = true) ∧ decide (k = 1) = false) := by rw [bne_iff_ne, decide_eq_true_eq, decide_eq_false_iff_not]; omega
  have h2 : (k' = 1 ∧ decide (k' = 1) = true) ∨ ((k' ≠ 1 ∧ (k' != 1) = true) ∧ decide (k' = 1) = false) := by rw [bne_iff_ne, decide_eq_true_eq, decide_eq_false_iff_not]; omega
  generalize decide (s = s') = x at he HE
  generalize decide (k = 1) = y at h1 HE
  generalize decide (k' = 1) = z at h2 HE
  cases x <;> rcases h1 with ⟨rfl, rfl⟩ | ⟨⟨h1, h3⟩, rfl⟩ <;> rcases h2 with ⟨rfl, rfl⟩ | ⟨⟨h2, h4⟩, rfl⟩
  all_goals
    go_enter Tryd.func15, Tryd.ntmps15
    go_wp2
    go_ret
    exact ⟨ret_bool (by rw [HE.out]; rfl), HT.out.a.below⟩

/-! ### Text -/
def GivesC (l : List UInt8) (w : World) (e : Ending) (w' : World) : Prop := e = .returned (.string (str l)) ∧ LeftC w w'
def textC (k : Int) (s : List UInt8) (v : Nat) : List UInt8 := if cRight k s v then cText k s v else []
theorem add_run (x y : List UInt8) (h : x.length + y.length ≤ 1000) (w : World) : (Op.stringOp .add (str x) (str y)).run Tryd.prog w = .ok (.string (str (x ++ y))) w := by
  rw [run_string_add_sum w _ _ (by rw [str_size, str_size]; omega), str_append]

set_option maxHeartbeats 2000000 in
theorem text_right (k : Int) (s : List UInt8) (v : Nat) (w : World) (hE : EnvC w) (hv : v < 18446744073709551616) (hr : cRight k s v = true) :
    Calls Tryd.prog 6 #[.agg #[.int .i64 k, .string (str s), .float .f64 v]] w (GivesC (cText k s v) w) := by
  have hp := right_parts hr
  have hs := key_parts hp.1
  have hl := text_len v
  have HT : Hid (∀ w, Env w → Calls Tryd.prog 18 #[.float .f64 v] w (GivesStr (text v) w)) := Lib.hid fun w h => text_any v w hv h
  have HC := Lib.hid (fun w => check_any k s v w hv)
  have e0 : cErr k s v = 0 := by unfold cErr; rw [hr]; rfl
  rw [e0] at HC
  have HB := Lib.hid (Boxed.start w k s v)
  have HE := Lib.hid hE
  have HX : Hid (cText k s v = word k ++ 32 :: (s ++ tail k v)) := Lib.hid rfl
  have b1 : ∀ w, (Op.stringOp .add ⟨#[32]⟩ (str (text v))).run Tryd.prog w = .ok (.string (str (32 :: text v))) w := add_run [32] (text v) (by simp; omega)
  have kk := kinds hp.2
  clear hr e0 hE hp hv
  rcases kk with ⟨rfl, -⟩ | rfl | ⟨rfl, -⟩ | rfl
  · have a1 : ∀ w, (Op.stringOp .add ⟨#[103, 101, 116]⟩ ⟨#[32]⟩).run Tryd.prog w = .ok (.string ⟨#[103, 101, 116, 32]⟩) w := add_run [103, 101, 116] [32] (by decide)
    have a2 : ∀ w, (Op.stringOp .add ⟨#[103, 101, 116, 32]⟩ (str s)).run Tryd.prog w = .ok (.string (str (103 :: 101 :: 116 :: 32 :: s))) w := add_run [103, 101, 116, 32] s (by simp; omega)
    clear hs hl
    go_enter Tryd.func6, Tryd.ntmps6
    go_wp2_with (first
      | (go_at_call 7; (with_reducible refine (HC.out _).mono ?_); rintro e W ⟨rfl, hb⟩; have H1 := Lib.hid (HB.out.on hb); clear hb; have q0 := H1.out.c0; have q1 := H1.out.c1; have q2 := H1.out.c2; have q3 := (HE.out.words.on H1.out.below).c1))
    go_region
    go_wp2
    go_ret
    exact ⟨ret_str (by rw [HX.out]; simp [word, tail]), .of HE.out (H1.out.below.trans ((Below.refl _ _).drew.mono H1.out.below.size))⟩
  · have a1 : ∀ w, (Op.stringOp .add ⟨#[112, 117, 116]⟩ ⟨#[32]⟩).run Tryd.prog w = .ok (.string ⟨#[112, 117, 116, 32]⟩) w := add_run [112, 117, 116] [32] (by decide)
    have a2 : ∀ w, (Op.stringOp .add ⟨#[112, 117, 116, 32]⟩ (str s)).run Tryd.prog w = .ok (.string (str (112 :: 117 :: 116 :: 32 :: s))) w := add_run [112, 117, 116, 32] s (by simp; omega)
    have a3 : ∀ w, (Op.stringOp .add (str (112 :: 117 :: 116 :: 32 :: s)) (str (32 :: text v))).run Tryd.prog w = .ok (.string (str ((112 :: 117 :: 116 :: 32 :: s) ++ 32 :: text v))) w := add_run (112 :: 117 :: 116 :: 32 :: s) (32 :: text v) (by simp; omega)
    clear hs hl
    go_enter Tryd.func6, Tryd.ntmps6
    go_wp2_with (first
      | (go_at_call 7; (with_reducible refine (HC.out _).mono ?_); rintro e W ⟨rfl, hb⟩; have H1 := Lib.hid (HB.out.on hb); clear hb; have q0 := H1.out.c0; have q1 := H1.out.c1; have q2 := H1.out.c2; have q3 := (HE.out.words.on H1.out.below).c2))
    have H2 : Hid (LeftC w W.drew) := Lib.hid (.of HE.out (H1.out.below.trans ((Below.refl _ _).drew.mono H1.out.below.size)))
    go_region
    go_wp2_with (first
      | (go_at_call 18; (with_reducible refine (HT.out _ H2.out.env.env).mono ?_); rintro e V ⟨rfl, hL⟩; have H3 := Lib.hid (H2.out.trans (.of H2.out.env hL.below)); clear hL))
    go_ret
    exact ⟨ret_str (by rw [HX.out]; simp [word, tail]), H3.out⟩
  · have a1 : ∀ w, (Op.stringOp .add ⟨#[100, 101, 108]⟩ ⟨#[32]⟩).run Tryd.prog w = .ok (.string ⟨#[100, 101, 108, 32]⟩) w := add_run [100, 101, 108] [32] (by decide)
    have a2 : ∀ w, (Op.stringOp .add ⟨#[100, 101, 108, 32]⟩ (str s)).run Tryd.prog w = .ok (.string (str (100 :: 101 :: 108 :: 32 :: s))) w := add_run [100, 101, 108, 32] s (by simp; omega)
    clear hs hl
    go_enter Tryd.func6, Tryd.ntmps6
    go_wp2_with (first
      | (go_at_call 7; (with_reducible refine (HC.out _).mono ?_); rintro e W ⟨rfl, hb⟩; have H1 := Lib.hid (HB.out.on hb); clear hb; have q0 := H1.out.c0; have q1 := H1.out.c1; have q2 := H1.out.c2; have q3 := (HE.out.words.on H1.out.below).c3))
    go_region
    go_wp2
    go_ret
    exact ⟨ret_str (by rw [HX.out]; simp [word, tail]), .of HE.out (H1.out.below.trans ((Below.refl _ _).drew.mono H1.out.below.size))⟩
  · have a1 : ∀ w, (Op.stringOp .add ⟨#[97, 100, 100]⟩ ⟨#[32]⟩).run Tryd.prog w = .ok (.string ⟨#[97, 100, 100, 32]⟩) w := add_run [97, 100, 100] [32] (by decide)
    have a2 : ∀ w, (Op.stringOp .add ⟨#[97, 100, 100, 32]⟩ (str s)).run Tryd.prog w = .ok (.string (str (97 :: 100 :: 100 :: 32 :: s))) w := add_run [97, 100, 100, 32] s (by simp; omega)
    have a3 : ∀ w, (Op.stringOp .add (str (97 :: 100 :: 100 :: 32 :: s)) (str (32 :: text v))).run Tryd.prog w = .ok (.string (str ((97 :: 100 :: 100 :: 32 :: s) ++ 32 :: text v))) w := add_run (97 :: 100 :: 100 :: 32 :: s) (32 :: text v) (by simp; omega)
    clear hs hl
    go_enter Tryd.func6, Tryd.ntmps6
    go_wp2_with (first
      | (go_at_call 7; (with_reducible refine (HC.out _).mono ?_); rintro e W ⟨rfl, hb⟩; have H1 := Lib.hid (HB.out.on hb); clear hb; have q0 := H1.out.c0; have q1 := H1.out.c1; have q2 := H1.out.c2; have q3 := (HE.out.words.on H1.out.below).c4))
    have H2 : Hid (LeftC w W.drew) := Lib.hid (.of HE.out (H1.out.below.trans ((Below.refl _ _).drew.mono H1.out.below.size)))
    go_region
    go_wp2_with (first
      | (go_at_call 18; (with_reducible refine (HT.out _ H2.out.env.env).mono ?_); rintro e V ⟨rfl, hL⟩; have H3 := Lib.hid (H2.out.trans (.of H2.out.env hL.below)); clear hL))
    go_ret
    exact ⟨ret_str (by rw [HX.out]; simp [word, tail]), H3.out⟩

theorem text_wrong (k : Int) (s : List UInt8) (v : Nat) (w : World) (hE : EnvC w) (hv : v < 18446744073709551616) (hr : cRight k s v = false) :
    Calls Tryd.prog 6 #[.agg #[.int .i64 k, .string (str s), .float .f64 v]] w (GivesC [] w) := by
  have HC := Lib.hid (fun w => check_any k s v w hv)
  have e0 : cErr k s v = 12 := by unfold cErr; rw [hr]; rfl
  rw [e0] at HC
  have HB := Lib.hid (Boxed.start w k s v)
  have HE := Lib.hid hE
  clear hr e0 hE hv
  go_enter Tryd.func6, Tryd.ntmps6
  go_wp2_with (first
    | (go_at_call 7; (with_reducible refine (HC.out _).mono ?_); rintro e W ⟨rfl, hb⟩; have H1 := Lib.hid (HB.out.on hb); clear hb))
  go_ret
  exact ⟨rfl, .of HE.out H1.out.below⟩
theorem text_c (k : Int) (s : List UInt8) (v : Nat) (w : World) (hE : EnvC w) (hv : v < 18446744073709551616) :
    Calls Tryd.prog 6 #[.agg #[.int .i64 k, .string (str s), .float .f64 v]] w (GivesC (textC k s v) w) := by
  unfold textC
  cases h : cRight k s v
  · exact text_wrong k s v w hE hv h
  · exact text_right k s v w hE hv h
end Go.Proofs.YtlacjlcndejeaaaDoor.Cmd
