/- The statement's function of layer 3 (ident) on two ids: it returns true. Condition: the library's tables and errors as they are laid (Env). -/
import Derived.Test.YtnjaoohgmfphgaaDoorIdW
namespace Go.Proofs.YtnjaoohgmfphgaaDoor
open Go.RowKit Go.Lib
set_option linter.unusedVariables false

/-- The two ids' boxes, and what lay under them. -/
structure Tell (w : World) (a b c d : Int) (W : World) : Prop where
  left : Left w W
  size : w.heap.size + 1 < W.heap.size
  a0 : W.cell? ⟨w.heap.size, 0, none⟩ = some (.int .i64 a)
  a1 : W.cell? ⟨w.heap.size, 1, none⟩ = some (.int .i64 b)
  b0 : W.cell? ⟨w.heap.size + 1, 0, none⟩ = some (.int .i64 c)
  b1 : W.cell? ⟨w.heap.size + 1, 1, none⟩ = some (.int .i64 d)
theorem Tell.start (w : World) (hE : Env w) (a b c d : Int) : Tell w a b c d ((w.alloc (.cells #[.int .i64 a, .int .i64 b] 23)).alloc (.cells #[.int .i64 c, .int .i64 d] 23)) := by
  have h1 := (Boxed.start w a b).on (below_one _ (cells c d))
  have h2 := Boxed.start (w.alloc (cells a b)) c d
  have e : (w.alloc (cells a b)).heap.size = w.heap.size + 1 := by simp
  have hb := h2.fst; have hc := h2.snd; have hl := h2.lt
  rw [e] at hb hc hl
  exact ⟨.of hE h1.below, hl, h1.fst, h1.snd, hb, hc⟩
theorem Tell.on {w W W' : World} {a b c d : Int} (h : Tell w a b c d W) (hb : Below W.heap.size W W') : Tell w a b c d W' := by
  have l0 : w.heap.size < W.heap.size := by have := h.size; omega
  exact ⟨h.left.trans (.of h.left.env hb), Nat.lt_of_lt_of_le h.size hb.size, (hb.cell (p := ⟨w.heap.size, 0, none⟩) l0).trans h.a0, (hb.cell (p := ⟨w.heap.size, 1, none⟩) l0).trans h.a1,
    (hb.cell (p := ⟨w.heap.size + 1, 0, none⟩) h.size).trans h.b0, (hb.cell (p := ⟨w.heap.size + 1, 1, none⟩) h.size).trans h.b1⟩

def RetBelow (v : Value) (w : World) (e : Ending) (w' : World) : Prop := e = .returned v ∧ Below w.heap.size w w'
theorem check_b (a b : Int) (w : World) : Calls Tryd.prog 6 #[.agg #[.int .i64 a, .int .i64 b]] w (RetBelow (.int .i64 (idErr (a, b))) w) := (check_any a b w).mono fun e w' ⟨he, hw⟩ => ⟨he, by rw [hw]; exact below_one _ _⟩
theorem less_b (a b c d : Int) (w : World) : Calls Tryd.prog 7 #[.agg #[.int .i64 a, .int .i64 b], .agg #[.int .i64 c, .int .i64 d]] w (RetBelow (.bool (idLt (a, b) (c, d))) w) := (less_any a b c d w).mono fun e w' ⟨he, hw⟩ => ⟨he, by rw [hw]; exact below_two _ _ _ _ _⟩
theorem compare_b (a b c d : Int) (w : World) : Calls Tryd.prog 8 #[.agg #[.int .i64 a, .int .i64 b], .agg #[.int .i64 c, .int .i64 d]] w (RetBelow (.int .i64 (idCmp (a, b) (c, d))) w) := (compare_any a b c d w).mono fun e w' ⟨he, hw⟩ => ⟨he, by rw [hw]; exact below_two _ _ _ _ _⟩

/-- How two ids stand: one ahead, the other ahead, or the same. -/
theorem stand (x y : Idn) : (idLt x y = true ∧ idLt y x = false ∧ idCmp x y = -1) ∨ (idLt x y = false ∧ idLt y x = true ∧ idCmp x y = 1) ∨ (idLt x y = false ∧ idLt y x = false ∧ idCmp x y = 0) := by
  cases h : idLt x y with
  | true =>
    left
    exact ⟨rfl, lt_as h, by rw [cmp_lt, h]; rfl⟩
  | false =>
    right
    cases h2 : idLt y x with
    | true =>
      left
      refine ⟨rfl, rfl, ?_⟩
      rw [cmp_lt, h]
      have : ¬ x = y := fun e => by rw [e, lt_irr] at h2; cases h2
      simp [this]
    | false =>
      right
      refine ⟨rfl, rfl, ?_⟩
      rw [cmp_lt, h, lt_tot h h2]; simp

set_option maxHeartbeats 8000000 in
set_option maxRecDepth 100000 in
theorem tells_right (a b c d : Int) (w : World) (hE : Env w) (hr : idRight (a, b) = true) : Calls Tryd.prog 3 #[.agg #[.int .i64 a, .int .i64 b], .agg #[.int .i64 c, .int .i64 d]] w (GivesTrue w) := by
  have HT0 := Lib.hid (Tell.start w hE a b c d)
  have HWK := Lib.hid works_any
  have hp : 0 ≤ a ∧ a < 8 ∧ 1 ≤ b ∧ b ≤ 1048576 := right_parts hr
  have he := (right_err (a, b)).1 hr
  have HCK := Lib.hid (check_b a b)
  rw [he] at HCK
  have HTX : Hid (∀ W, Env W → Calls Tryd.prog 9 #[.agg #[.int .i64 a, .int .i64 b]] W (GivesStr (idText (a, b)) W)) := Lib.hid fun W h => idtext_any a b W h he
  have HRD : Hid (∀ W, Env W → Calls Tryd.prog 11 #[.string (str (idText (a, b)))] W fun e w' => e = .returned (.tuple #[.agg #[.int .i64 a, .int .i64 b], .int .i64 0]) ∧ Left W w') := Lib.hid fun W h => (read_any (idText (a, b)) W h).mono fun e w' ⟨x, er, he, hr', hl⟩ => by
    rcases hr' with ⟨h1, h2, h3⟩ | ⟨_, _, h2⟩
    · have := text_inj h2 hr h3
      subst this; subst h1; exact ⟨he, hl⟩
    · exact absurd rfl (h2 _ hr)
  have HRT := Lib.hid (fun W => reftext_any a b W hr)
  have hs : ((str (idText (a, b))).toList == (str (idText (a, b))).toList) = true := beq_self_eq_true _
  have hq : ∀ w, (binOp .eql 23 (.agg #[.int .i64 a, .int .i64 b]) (.agg #[.int .i64 a, .int .i64 b])).run Tryd.prog w = .ok (.bool true) w := fun w => by rw [eql_id]; simp
  have HL1 := Lib.hid (less_b a b c d)
  have HL2 := Lib.hid (less_b c d a b)
  have HCM := Lib.hid (compare_b a b c d)
  have HB : Hid (∀ W, Env W → Left W (W.alloc (.cells #[.int .i64 a, .int .i64 b] 23))) := Lib.hid fun W h => .of h (below_one W _)
  have HX : Hid (∀ W V, Left (W.alloc (.cells #[.int .i64 a, .int .i64 b] 23)) V → Boxed W a b V) := Lib.hid fun W V h => (Boxed.start W a b).on h.below
  obtain ⟨p1, p2, p3, p4⟩ := hp
  have st := stand (a, b) (c, d)
  clear hE hr he
  rcases st with ⟨s1, s2, s3⟩ | ⟨s1, s2, s3⟩ | ⟨s1, s2, s3⟩
  all_goals
    rw [s1] at HL1
    rw [s2] at HL2
    rw [s3] at HCM
    clear s1 s2 s3
    go_enter Tryd.func3, Tryd.ntmps3
    go_wp2_with (first
      | (go_at_call 6; (with_reducible refine (HCK.out _).mono ?_); rintro e w1 ⟨rfl, hb⟩; have HT1 := Lib.hid (HT0.out.on hb); clear hb; have q0 := HT1.out.a0; have q1 := HT1.out.a1; have q2 := HT1.out.b0; have q3 := HT1.out.b1)
      | (go_at_call 7; (with_reducible refine (HL1.out _).mono ?_); rintro e w2 ⟨rfl, hb⟩; have HT2 := Lib.hid (HT1.out.on hb); clear hb; clear q0 q1 q2 q3; have q0 := HT2.out.a0; have q1 := HT2.out.a1; have q2 := HT2.out.b0; have q3 := HT2.out.b1)
      | (go_at_call 7; (with_reducible refine (HL2.out _).mono ?_); rintro e w3 ⟨rfl, hb⟩; have HT3 := Lib.hid (HT2.out.on hb); clear hb; clear q0 q1 q2 q3; have q0 := HT3.out.a0; have q1 := HT3.out.a1; have q2 := HT3.out.b0; have q3 := HT3.out.b1)
      | (go_at_call 8; (with_reducible refine (HCM.out _).mono ?_); rintro e w4 ⟨rfl, hb⟩; have HT4 := Lib.hid (HT3.out.on hb); clear hb; clear q0 q1 q2 q3; have q0 := HT4.out.a0; have q1 := HT4.out.a1; have q2 := HT4.out.b0; have q3 := HT4.out.b1)
      | (go_at_call 9; (with_reducible refine (HTX.out _ HT4.out.left.env).mono ?_); rintro e w5 ⟨rfl, hl⟩; have HT5 := Lib.hid (HT4.out.on hl.below); clear hl; clear q0 q1 q2 q3; have q0 := HT5.out.a0; have q1 := HT5.out.a1)
      | (go_at_call 11; (with_reducible refine (HRD.out _ HT5.out.left.env).mono ?_); rintro e w6 ⟨rfl, hl⟩; have HT6 := Lib.hid (HT5.out.on hl.below); clear hl; clear q0 q1; have HN := Lib.hid (HB.out w6 HT6.out.left.env); have HT7 := Lib.hid (HT6.out.on HN.out.below); have q0 := HT6.out.a0; have q1 := HT6.out.a1; have q4 : w.heap.size < w6.heap.size := Nat.lt_of_succ_lt HT6.out.size)
      | (go_at_call 12; (with_reducible refine (HRT.out _).mono ?_); rintro e w7 ⟨rfl, hb⟩; have HT8 := Lib.hid (HT7.out.on hb); have r := HX.out w6 w7 (.of HN.out.env hb); clear hb; have r0 := r.fst; have r1 := r.snd; clear r; clear q0 q1; have q0 := HT8.out.a0; have q1 := HT8.out.a1)
      | (go_at_call 10; (with_reducible refine (HWK.out _ HT8.out.left.env).mono ?_); rintro e w9 ⟨rfl, hL⟩; have HW := Lib.hid hL; clear hL))
    go_ret
    exact ⟨rfl, HT8.out.left.trans HW.out⟩

/-- An id that may not be: how, and what Check tells. -/
theorem wrong_parts {a b : Int} (h : idRight (a, b) = false) :
    ((a < 0 ∨ (¬ a < 0 ∧ 7 < a)) ∧ (b < 1 ∨ (¬ b < 1 ∧ 1048576 < b) ∨ (¬ b < 1 ∧ ¬ 1048576 < b)) ∧ idErr (a, b) = 7) ∨ ((¬ a < 0 ∧ ¬ 7 < a) ∧ (b < 1 ∨ (¬ b < 1 ∧ 1048576 < b)) ∧ idErr (a, b) = 8) := by
  unfold idRight at h
  rw [decide_eq_false_iff_not] at h
  unfold idErr
  simp only at h ⊢
  by_cases h1 : 0 ≤ a ∧ a < 8
  · right
    rw [if_pos h1]
    refine ⟨by omega, by omega, ?_⟩
    rw [if_neg (by omega)]
  · left
    rw [if_neg h1]
    exact ⟨by omega, by omega, rfl⟩

set_option maxHeartbeats 40000000 in
set_option maxRecDepth 100000 in
theorem tells_wrong (a b c d : Int) (w : World) (hE : Env w) (hr : idRight (a, b) = false) : Calls Tryd.prog 3 #[.agg #[.int .i64 a, .int .i64 b], .agg #[.int .i64 c, .int .i64 d]] w (GivesTrue w) := by
  have HT0 := Lib.hid (Tell.start w hE a b c d)
  have HWK := Lib.hid works_any
  have hne : idErr (a, b) ≠ 0 := fun e => by rw [(right_err (a, b)).2 e] at hr; cases hr
  have HCK := Lib.hid (check_b a b)
  have HTX : Hid (∀ W, Env W → Calls Tryd.prog 9 #[.agg #[.int .i64 a, .int .i64 b]] W fun e w' => e = .returned (.string ⟨#[]⟩) ∧ Left W w') := Lib.hid fun W h => idtext_none a b W h hne
  have HL1 := Lib.hid (less_b a b c d)
  have HL2 := Lib.hid (less_b c d a b)
  have HCM := Lib.hid (compare_b a b c d)
  have st := stand (a, b) (c, d)
  have wp := wrong_parts hr
  clear hE hr hne
  rcases wp with ⟨x1 | ⟨x1, x2⟩, y1 | ⟨y1, y2⟩ | ⟨y1, y2⟩, he⟩ | ⟨⟨x1, x2⟩, y1 | ⟨y1, y2⟩, he⟩
  all_goals rcases st with ⟨s1, s2, s3⟩ | ⟨s1, s2, s3⟩ | ⟨s1, s2, s3⟩
  all_goals
    rw [s1] at HL1
    rw [s2] at HL2
    rw [s3] at HCM
    rw [he] at HCK
    clear s1 s2 s3 he
    go_enter Tryd.func3, Tryd.ntmps3
    go_wp2_with (first
      | (go_at_call 6; (with_reducible refine (HCK.out _).mono ?_); rintro e w1 ⟨rfl, hb⟩; have HT1 := Lib.hid (HT0.out.on hb); clear hb; have q0 := HT1.out.a0; have q1 := HT1.out.a1; have q2 := HT1.out.b0; have q3 := HT1.out.b1)
      | (go_at_call 7; (with_reducible refine (HL1.out _).mono ?_); rintro e w2 ⟨rfl, hb⟩; have HT2 := Lib.hid (HT1.out.on hb); clear hb; clear q0 q1 q2 q3; have q0 := HT2.out.a0; have q1 := HT2.out.a1; have q2 := HT2.out.b0; have q3 := HT2.out.b1)
      | (go_at_call 7; (with_reducible refine (HL2.out _).mono ?_); rintro e w3 ⟨rfl, hb⟩; have HT3 := Lib.hid (HT2.out.on hb); clear hb; clear q0 q1 q2 q3; have q0 := HT3.out.a0; have q1 := HT3.out.a1; have q2 := HT3.out.b0; have q3 := HT3.out.b1)
      | (go_at_call 8; (with_reducible refine (HCM.out _).mono ?_); rintro e w4 ⟨rfl, hb⟩; have HT4 := Lib.hid (HT3.out.on hb); clear hb; clear q0 q1 q2 q3; have q0 := HT4.out.a0; have q1 := HT4.out.a1; have q2 := HT4.out.b0; have q3 := HT4.out.b1)
      | (go_at_call 9; (with_reducible refine (HTX.out _ HT4.out.left.env).mono ?_); rintro e w5 ⟨rfl, hl⟩; have HT5 := Lib.hid (HT4.out.on hl.below); clear hl; clear q0 q1 q2 q3; have q0 := HT5.out.a0; have q1 := HT5.out.a1)
      | (go_at_call 10; (with_reducible refine (HWK.out _ HT5.out.left.env).mono ?_); rintro e w9 ⟨rfl, hL⟩; have HW := Lib.hid hL; clear hL))
    go_ret
    exact ⟨rfl, HT5.out.left.trans HW.out⟩

theorem tells_any (a b c d : Int) (w : World) (hE : Env w) : Calls Tryd.prog 3 #[.agg #[.int .i64 a, .int .i64 b], .agg #[.int .i64 c, .int .i64 d]] w (GivesTrue w) := by
  cases h : idRight (a, b) with
  | true => exact tells_right a b c d w hE h
  | false => exact tells_wrong a b c d w hE h
end Go.Proofs.YtnjaoohgmfphgaaDoor
