/- The statement's function of layer 6 (cmd) on any two commands: it returns true. Conditions: a number's word of 64 bits, keys that Go can hold; the library's tables and the kinds' words as they are laid (EnvC). -/
import Derived.Test.YtlacjlcndejeaaaDoorCmdG
namespace Go.Proofs.YtlacjlcndejeaaaDoor.Cmd
open Go.RowKit F64 Go.Lib
set_option linter.unusedVariables false

theorem conf_swap (k : Int) (s : List UInt8) (v : Nat) (k' : Int) (s' : List UInt8) (v' : Nat) : cConf k' s' v' k s v = cConf k s v k' s' v' := by
  unfold cConf
  have h : decide (s' = s) = decide (s = s') := by rw [decide_eq_decide]; exact ⟨Eq.symm, Eq.symm⟩
  rw [h]
  cases cRight k s v <;> cases cRight k' s' v' <;> cases decide (k ≠ 1) <;> cases decide (k' ≠ 1) <;> rfl

set_option maxHeartbeats 8000000 in
set_option maxRecDepth 100000 in
theorem pairs_c (k : Int) (s : List UInt8) (v : Nat) (k' : Int) (s' : List UInt8) (v' : Nat) (w : World) (hE : EnvC w) (hv : v < 18446744073709551616) (hv' : v' < 18446744073709551616) (hl : (s.length : Int) ≤ 9223372036854775807) (hl' : (s'.length : Int) ≤ 9223372036854775807) :
    Calls Tryd.prog 4 #[.agg #[.int .i64 k, .string (str s), .float .f64 v], .agg #[.int .i64 k', .string (str s'), .float .f64 v']] w (GivesTrueC w) := by
  have HE := Lib.hid hE
  have HWK := Lib.hid works_c
  have HT := Lib.hid (Two.start w k s v k' s' v')
  have HRA := Lib.hid (fun W => right_any k s v W hv hl)
  have HRB := Lib.hid (fun W => right_any k' s' v' W hv' hl')
  have HRC := Lib.hid (refconf_any k s v k' s' v')
  have HC1 := Lib.hid (fun W => conf_any k s v k' s' v' W hv hv')
  have HC2 := Lib.hid (fun W => conf_any k' s' v' k s v W hv' hv)
  rw [conf_swap k s v k' s' v'] at HC2
  have HS1 := Lib.hid (same_c k s v k' s' v')
  have HS2 := Lib.hid (fun W => refsame_c k s v k' s' v' W hv hv')
  have HQ : Hid (cConf k s v k' s' v' = (cRight k s v && cRight k' s' v' && rConf k s k' s')) := Lib.hid (by unfold cConf rConf; rw [Bool.and_assoc, Bool.and_assoc])
  generalize cConf k s v k' s' v' = x at HC1 HC2 HQ
  generalize cSame k s v k' s' v' = y at HS1 HS2
  generalize cRight k s v = ra at HRA HQ
  generalize cRight k' s' v' = rb at HRB HQ
  generalize rConf k s k' s' = rc at HRC HQ
  clear hE hv hv' hl hl'
  cases ra with
  | false =>
    obtain rfl : x = false := HQ.out
    go_enter Tryd.func4, Tryd.ntmps4
    go_wp2_with (first
      | (go_at_call 8; (with_reducible refine (HRA.out _).mono ?_); rintro e W0 ⟨rfl, hb⟩; have T0 := Lib.hid (HT.out.on hb); clear hb; have q0 := T0.out.a.c0; have q1 := T0.out.a.c1; have q2 := T0.out.a.c2; have q3 := T0.out.b.c0; have q4 := T0.out.b.c1; have q5 := T0.out.b.c2))
    have TD : Hid (Two w k s v k' s' v' W0.drew) := Lib.hid (T0.out.on ((Below.refl _ _).drew))
    go_region_held3 (fun W => W.cell? ⟨w.heap.size, 0, none⟩ = some (.int .i64 k) ∧ W.cell? ⟨w.heap.size, 1, none⟩ = some (.string (str s)) ∧ W.cell? ⟨w.heap.size, 2, none⟩ = some (.float .f64 v) ∧ W.cell? ⟨w.heap.size + 1, 0, none⟩ = some (.int .i64 k') ∧ W.cell? ⟨w.heap.size + 1, 1, none⟩ = some (.string (str s')) ∧ W.cell? ⟨w.heap.size + 1, 2, none⟩ = some (.float .f64 v'))
      (first
        | (with_reducible exact ⟨T5.out.a.c0, T5.out.a.c1, T5.out.a.c2, T5.out.b.c0, T5.out.b.c1, T5.out.b.c2⟩)
        | (with_reducible exact ⟨T4.out.a.c0, T4.out.a.c1, T4.out.a.c2, T4.out.b.c0, T4.out.b.c1, T4.out.b.c2⟩)
        | (with_reducible exact ⟨T3.out.a.c0, T3.out.a.c1, T3.out.a.c2, T3.out.b.c0, T3.out.b.c1, T3.out.b.c2⟩)
        | (with_reducible exact ⟨T2.out.a.c0, T2.out.a.c1, T2.out.a.c2, T2.out.b.c0, T2.out.b.c1, T2.out.b.c2⟩)
        | (with_reducible exact ⟨T1.out.a.c0, T1.out.a.c1, T1.out.a.c2, T1.out.b.c0, T1.out.b.c1, T1.out.b.c2⟩)
        | (with_reducible exact ⟨T0.out.a.c0, T0.out.a.c1, T0.out.a.c2, T0.out.b.c0, T0.out.b.c1, T0.out.b.c2⟩)
        | go_keep)
      (first
        | (go_at_call 10; (with_reducible refine (HC1.out _).mono ?_); rintro e W1 ⟨rfl, hb⟩; have T1 := Lib.hid (TD.out.on hb); clear hb)
        | (go_at_call 10; (with_reducible refine (HC2.out _).mono ?_); rintro e W2 ⟨rfl, hb⟩; have T2 := Lib.hid (T1.out.on hb); clear hb)
        | (go_at_call 16; (with_reducible refine (HS1.out _).mono ?_); rintro e W3 ⟨rfl, hb⟩; have T3 := Lib.hid (T2.out.on hb); clear hb)
        | (go_at_call 14; (with_reducible refine (HS2.out _).mono ?_); rintro e W4 ⟨rfl, hb⟩; have T4 := Lib.hid (T3.out.on hb); clear hb)
        | (go_at_call 11; (with_reducible refine (HWK.out _ (HE.out.on T4.out.a.below)).mono ?_); rintro e W5 ⟨rfl, hL⟩; have T5 := Lib.hid (T4.out.on hL.below); clear hL))
    go_wp2
    go_ret
    exact ⟨rfl, .of HE.out T5.out.a.below⟩
  | true =>
    cases rb with
    | false =>
      obtain rfl : x = false := HQ.out
      go_enter Tryd.func4, Tryd.ntmps4
      go_wp2_with (first
        | (go_at_call 8; (with_reducible refine (HRA.out _).mono ?_); rintro e WA ⟨rfl, hb⟩; have TA := Lib.hid (HT.out.on hb); clear hb; have p0 := TA.out.b.c0; have p1 := TA.out.b.c1; have p2 := TA.out.b.c2)
        | (go_at_call 8; (with_reducible refine (HRB.out _).mono ?_); rintro e W0 ⟨rfl, hb⟩; have T0 := Lib.hid (TA.out.on hb); clear hb p0 p1 p2; have q0 := T0.out.a.c0; have q1 := T0.out.a.c1; have q2 := T0.out.a.c2; have q3 := T0.out.b.c0; have q4 := T0.out.b.c1; have q5 := T0.out.b.c2))
      have TD : Hid (Two w k s v k' s' v' W0.drew) := Lib.hid (T0.out.on ((Below.refl _ _).drew))
      go_region_held3 (fun W => W.cell? ⟨w.heap.size, 0, none⟩ = some (.int .i64 k) ∧ W.cell? ⟨w.heap.size, 1, none⟩ = some (.string (str s)) ∧ W.cell? ⟨w.heap.size, 2, none⟩ = some (.float .f64 v) ∧ W.cell? ⟨w.heap.size + 1, 0, none⟩ = some (.int .i64 k') ∧ W.cell? ⟨w.heap.size + 1, 1, none⟩ = some (.string (str s')) ∧ W.cell? ⟨w.heap.size + 1, 2, none⟩ = some (.float .f64 v'))
        (first
          | (with_reducible exact ⟨T5.out.a.c0, T5.out.a.c1, T5.out.a.c2, T5.out.b.c0, T5.out.b.c1, T5.out.b.c2⟩)
          | (with_reducible exact ⟨T4.out.a.c0, T4.out.a.c1, T4.out.a.c2, T4.out.b.c0, T4.out.b.c1, T4.out.b.c2⟩)
          | (with_reducible exact ⟨T3.out.a.c0, T3.out.a.c1, T3.out.a.c2, T3.out.b.c0, T3.out.b.c1, T3.out.b.c2⟩)
          | (with_reducible exact ⟨T2.out.a.c0, T2.out.a.c1, T2.out.a.c2, T2.out.b.c0, T2.out.b.c1, T2.out.b.c2⟩)
          | (with_reducible exact ⟨T1.out.a.c0, T1.out.a.c1, T1.out.a.c2, T1.out.b.c0, T1.out.b.c1, T1.out.b.c2⟩)
          | (with_reducible exact ⟨T0.out.a.c0, T0.out.a.c1, T0.out.a.c2, T0.out.b.c0, T0.out.b.c1, T0.out.b.c2⟩)
          | go_keep)
        (first
          | (go_at_call 10; (with_reducible refine (HC1.out _).mono ?_); rintro e W1 ⟨rfl, hb⟩; have T1 := Lib.hid (TD.out.on hb); clear hb)
          | (go_at_call 10; (with_reducible refine (HC2.out _).mono ?_); rintro e W2 ⟨rfl, hb⟩; have T2 := Lib.hid (T1.out.on hb); clear hb)
          | (go_at_call 16; (with_reducible refine (HS1.out _).mono ?_); rintro e W3 ⟨rfl, hb⟩; have T3 := Lib.hid (T2.out.on hb); clear hb)
          | (go_at_call 14; (with_reducible refine (HS2.out _).mono ?_); rintro e W4 ⟨rfl, hb⟩; have T4 := Lib.hid (T3.out.on hb); clear hb)
          | (go_at_call 11; (with_reducible refine (HWK.out _ (HE.out.on T4.out.a.below)).mono ?_); rintro e W5 ⟨rfl, hL⟩; have T5 := Lib.hid (T4.out.on hL.below); clear hL))
      go_wp2
      go_ret
      exact ⟨rfl, .of HE.out T5.out.a.below⟩
    | true =>
      obtain rfl : x = rc := HQ.out
      go_enter Tryd.func4, Tryd.ntmps4
      go_wp2_with (first
        | (go_at_call 8; (with_reducible refine (HRA.out _).mono ?_); rintro e WA ⟨rfl, hb⟩; have TA := Lib.hid (HT.out.on hb); clear hb; have p0 := TA.out.b.c0; have p1 := TA.out.b.c1; have p2 := TA.out.b.c2)
        | (go_at_call 8; (with_reducible refine (HRB.out _).mono ?_); rintro e WB ⟨rfl, hb⟩; have TB := Lib.hid (TA.out.on hb); clear hb p0 p1 p2; have p0 := TB.out.a.c0; have p1 := TB.out.a.c1; have p2 := TB.out.a.c2; have p3 := TB.out.b.c0; have p4 := TB.out.b.c1; have p5 := TB.out.b.c2)
        | (go_at_call 15; (with_reducible refine (HRC.out _).mono ?_); rintro e W0 ⟨rfl, hb⟩; have T0 := Lib.hid (TB.out.on hb); clear hb p0 p1 p2 p3 p4 p5; have q0 := T0.out.a.c0; have q1 := T0.out.a.c1; have q2 := T0.out.a.c2; have q3 := T0.out.b.c0; have q4 := T0.out.b.c1; have q5 := T0.out.b.c2))
      have TD : Hid (Two w k s v k' s' v' W0.drew) := Lib.hid (T0.out.on ((Below.refl _ _).drew))
      go_region_held3 (fun W => W.cell? ⟨w.heap.size, 0, none⟩ = some (.int .i64 k) ∧ W.cell? ⟨w.heap.size, 1, none⟩ = some (.string (str s)) ∧ W.cell? ⟨w.heap.size, 2, none⟩ = some (.float .f64 v) ∧ W.cell? ⟨w.heap.size + 1, 0, none⟩ = some (.int .i64 k') ∧ W.cell? ⟨w.heap.size + 1, 1, none⟩ = some (.string (str s')) ∧ W.cell? ⟨w.heap.size + 1, 2, none⟩ = some (.float .f64 v'))
        (first
          | (with_reducible exact ⟨T5.out.a.c0, T5.out.a.c1, T5.out.a.c2, T5.out.b.c0, T5.out.b.c1, T5.out.b.c2⟩)
          | (with_reducible exact ⟨T4.out.a.c0, T4.out.a.c1, T4.out.a.c2, T4.out.b.c0, T4.out.b.c1, T4.out.b.c2⟩)
          | (with_reducible exact ⟨T3.out.a.c0, T3.out.a.c1, T3.out.a.c2, T3.out.b.c0, T3.out.b.c1, T3.out.b.c2⟩)
          | (with_reducible exact ⟨T2.out.a.c0, T2.out.a.c1, T2.out.a.c2, T2.out.b.c0, T2.out.b.c1, T2.out.b.c2⟩)
          | (with_reducible exact ⟨T1.out.a.c0, T1.out.a.c1, T1.out.a.c2, T1.out.b.c0, T1.out.b.c1, T1.out.b.c2⟩)
          | (with_reducible exact ⟨T0.out.a.c0, T0.out.a.c1, T0.out.a.c2, T0.out.b.c0, T0.out.b.c1, T0.out.b.c2⟩)
          | go_keep)
        (first
          | (go_at_call 10; (with_reducible refine (HC1.out _).mono ?_); rintro e W1 ⟨rfl, hb⟩; have T1 := Lib.hid (TD.out.on hb); clear hb)
          | (go_at_call 10; (with_reducible refine (HC2.out _).mono ?_); rintro e W2 ⟨rfl, hb⟩; have T2 := Lib.hid (T1.out.on hb); clear hb)
          | (go_at_call 16; (with_reducible refine (HS1.out _).mono ?_); rintro e W3 ⟨rfl, hb⟩; have T3 := Lib.hid (T2.out.on hb); clear hb)
          | (go_at_call 14; (with_reducible refine (HS2.out _).mono ?_); rintro e W4 ⟨rfl, hb⟩; have T4 := Lib.hid (T3.out.on hb); clear hb)
          | (go_at_call 11; (with_reducible refine (HWK.out _ (HE.out.on T4.out.a.below)).mono ?_); rintro e W5 ⟨rfl, hL⟩; have T5 := Lib.hid (T4.out.on hL.below); clear hL))
      go_wp2
      go_ret
      exact ⟨rfl, .of HE.out T5.out.a.below⟩
end Go.Proofs.YtlacjlcndejeaaaDoor.Cmd
