/- The statement's function of layer 6 (cmd) on any command: it returns true. Conditions: a number's word of 64 bits, a key that Go can hold; the library's tables and the kinds' words as they are laid (EnvC). -/
import Derived.Test.YtlacjlcndejeaaaDoorCmdG
namespace Go.Proofs.YtlacjlcndejeaaaDoor.Cmd
open Go.RowKit F64 Go.Lib
set_option linter.unusedVariables false

set_option maxHeartbeats 8000000 in
set_option maxRecDepth 100000 in
theorem tells_wrong (k : Int) (s : List UInt8) (v : Nat) (w : World) (hE : EnvC w) (hv : v < 18446744073709551616) (hl : (s.length : Int) ≤ 9223372036854775807) (hr : cRight k s v = false) :
    Calls Tryd.prog 3 #[.agg #[.int .i64 k, .string (str s), .float .f64 v]] w (GivesTrueC w) := by
  have HE := Lib.hid hE
  have HWK := Lib.hid works_c
  have B0 := Lib.hid (Boxed.start w k s v)
  have BD : Hid (Boxed w w.heap.size k s v (w.alloc (.cells #[.int .i64 k, .string (str s), .float .f64 v] 24)).drew) := Lib.hid (B0.out.on ((Below.refl _ _).drew))
  have ED : Hid (EnvC (w.alloc (.cells #[.int .i64 k, .string (str s), .float .f64 v] 24)).drew) := Lib.hid (hE.on BD.out.below)
  have HT : Hid (∀ W, EnvC W → Calls Tryd.prog 6 #[.agg #[.int .i64 k, .string (str s), .float .f64 v]] W fun e w' => e = .returned (.string ⟨#[]⟩) ∧ LeftC W w') := Lib.hid fun W h => text_wrong k s v W h hv hr
  have HC := Lib.hid (fun W => check_any k s v W hv)
  rw [show cErr k s v = 12 by unfold cErr; rw [hr]; rfl] at HC
  have HR := Lib.hid (fun W => right_any k s v W hv hl)
  have HW := Lib.hid (fun W => writes_any k s v W hv)
  have HF := Lib.hid (fun W => conf_any k s v k s v W hv hv)
  rw [show cWrites k s v = false by unfold cWrites; rw [hr]; rfl] at HW
  rw [show cConf k s v k s v = false by unfold cConf; rw [hr]; rfl] at HF
  rw [hr] at HR
  clear hE hv hl hr
  go_enter Tryd.func3, Tryd.ntmps3
  go_wp2
  go_region_held3 (fun W => W.cell? ⟨w.heap.size, 0, none⟩ = some (.int .i64 k) ∧ W.cell? ⟨w.heap.size, 1, none⟩ = some (.string (str s)) ∧ W.cell? ⟨w.heap.size, 2, none⟩ = some (.float .f64 v))
    (first
      | (with_reducible exact ⟨B2.out.c0, B2.out.c1, B2.out.c2⟩)
      | (with_reducible exact ⟨B1.out.c0, B1.out.c1, B1.out.c2⟩)
      | exact ⟨B0.out.c0, B0.out.c1, B0.out.c2⟩
      | go_keep)
    (first
      | (go_at_call 6; (with_reducible refine (HT.out _ ED.out).mono ?_); rintro e W1 ⟨rfl, hL⟩; have B1 := Lib.hid (BD.out.on hL.below); clear hL)
      | (go_at_call 7; (with_reducible refine (HC.out _).mono ?_); rintro e W2 ⟨rfl, hb⟩; have B2 := Lib.hid (B1.out.on hb); clear hb))
  have q0 := B2.out.c0
  have q1 := B2.out.c1
  have q2 := B2.out.c2
  go_wp2_with (first
    | (go_at_call 8; (with_reducible refine (HR.out _).mono ?_); rintro e W3 ⟨rfl, hb⟩; have B3 := Lib.hid (B2.out.on hb); clear hb q0 q1 q2; have q0 := B3.out.c0; have q1 := B3.out.c1; have q2 := B3.out.c2)
    | (go_at_call 9; (with_reducible refine (HW.out _).mono ?_); rintro e W4 ⟨rfl, hb⟩; have B4 := Lib.hid (B3.out.on hb); clear hb q0 q1 q2; have q0 := B4.out.c0; have q1 := B4.out.c1; have q2 := B4.out.c2)
    | (go_at_call 10; (with_reducible refine (HF.out _).mono ?_); rintro e W5 ⟨rfl, hb⟩; have B5 := Lib.hid (B4.out.on hb); clear hb q0 q1 q2)
    | (go_at_call 11; (with_reducible refine (HWK.out _ (HE.out.on B5.out.below)).mono ?_); rintro e W6 ⟨rfl, hL⟩; have B6 := Lib.hid (B5.out.on hL.below); clear hL))
  go_ret
  exact ⟨rfl, .of HE.out B6.out.below⟩

set_option maxHeartbeats 8000000 in
set_option maxRecDepth 100000 in
theorem tells_right (k : Int) (s : List UInt8) (v : Nat) (w : World) (hE : EnvC w) (hv : v < 18446744073709551616) (hl : (s.length : Int) ≤ 9223372036854775807) (hr : cRight k s v = true) :
    Calls Tryd.prog 3 #[.agg #[.int .i64 k, .string (str s), .float .f64 v]] w (GivesTrueC w) := by
  have HE := Lib.hid hE
  have HWK := Lib.hid works_c
  have B0 := Lib.hid (Boxed.start w k s v)
  have BD : Hid (Boxed w w.heap.size k s v (w.alloc (.cells #[.int .i64 k, .string (str s), .float .f64 v] 24)).drew) := Lib.hid (B0.out.on ((Below.refl _ _).drew))
  have ED : Hid (EnvC (w.alloc (.cells #[.int .i64 k, .string (str s), .float .f64 v] 24)).drew) := Lib.hid (hE.on BD.out.below)
  have HT := Lib.hid (fun W (h : EnvC W) => text_right k s v W h hv hr)
  have HC := Lib.hid (fun W => check_any k s v W hv)
  rw [show cErr k s v = 0 by unfold cErr; rw [hr]; rfl] at HC
  have HR := Lib.hid (fun W => right_any k s v W hv hl)
  rw [hr] at HR
  have hlen := ctext_len hr
  have HRD : Hid (∀ W, EnvC W → Calls Tryd.prog 12 #[.string (str (cText k s v))] W fun e w' => ∃ k' s' v', e = .returned (.tuple #[.agg #[.int .i64 k', .string (str s'), .float .f64 v'], .int .i64 0]) ∧ (v' < 18446744073709551616 ∧ cSame k' s' v' k s v = true) ∧ LeftC W w') := Lib.hid fun W h => (read_c (cText k s v) W h (by omega)).mono fun e w' ⟨k', s', v', er, he, hq, hb⟩ => by
    rcases hq.is with ⟨h1, h2, h3⟩ | ⟨_, _, _, _, h2⟩
    · subst h1
      obtain ⟨rfl, rfl, hs⟩ := ctext_inj hq.lt hv h2 hr h3
      exact ⟨_, _, _, he, ⟨hq.lt, by unfold cSame; rw [hs]; simp⟩, hb⟩
    · exact absurd rfl (h2 _ _ _ hv hr)
  have HRT := Lib.hid (fun W => reftext_any k s v W hv hr)
  have HSS : Hid (∀ k' s' v' W, v' < 18446744073709551616 → cSame k' s' v' k s v = true → Calls Tryd.prog 14 #[.agg #[.int .i64 k', .string (str s'), .float .f64 v'], .agg #[.int .i64 k, .string (str s), .float .f64 v]] W (RetBelow (.bool true) W)) := Lib.hid fun k' s' v' W hv' h => by
    have := refsame_c k' s' v' k s v W hv' hv
    rw [h] at this; exact this
  have HW := Lib.hid (fun W => writes_any k s v W hv)
  rw [show cWrites k s v = (k != 1) by unfold cWrites; rw [hr, Bool.true_and, Bool.eq_iff_iff]; simp] at HW
  have hs : ((str (cText k s v)).toList == (str (cText k s v)).toList) = true := beq_self_eq_true _
  generalize cText k s v = t at HT HRD HRT hs
  have HX : Hid (∀ W V k' s' v', Below (W.alloc (.cells #[.int .i64 k', .string (str s'), .float .f64 v'] 24)).heap.size (W.alloc (.cells #[.int .i64 k', .string (str s'), .float .f64 v'] 24)) V → Boxed W W.heap.size k' s' v' V) := Lib.hid fun W V k' s' v' h => (Boxed.start W k' s' v').on h
  clear hE hv hl hr hlen
  go_enter Tryd.func3, Tryd.ntmps3
  go_wp2
  go_region_held3 (fun W => W.cell? ⟨w.heap.size, 0, none⟩ = some (.int .i64 k) ∧ W.cell? ⟨w.heap.size, 1, none⟩ = some (.string (str s)) ∧ W.cell? ⟨w.heap.size, 2, none⟩ = some (.float .f64 v))
    (first
      | (with_reducible exact ⟨B2.out.c0, B2.out.c1, B2.out.c2⟩)
      | (with_reducible exact ⟨B1.out.c0, B1.out.c1, B1.out.c2⟩)
      | exact ⟨B0.out.c0, B0.out.c1, B0.out.c2⟩
      | go_keep)
    (first
      | (go_at_call 6; (with_reducible refine (HT.out _ ED.out).mono ?_); rintro e W1 ⟨rfl, hL⟩; have B1 := Lib.hid (BD.out.on hL.below); clear hL)
      | (go_at_call 7; (with_reducible refine (HC.out _).mono ?_); rintro e W2 ⟨rfl, hb⟩; have B2 := Lib.hid (B1.out.on hb); clear hb))
  have q0 := B2.out.c0
  have q1 := B2.out.c1
  have q2 := B2.out.c2
  go_wp2_with (first
    | (go_at_call 8; (with_reducible refine (HR.out _).mono ?_); rintro e W3 ⟨rfl, hb⟩; have B3 := Lib.hid (B2.out.on hb); clear hb q0 q1 q2; have E3 := Lib.hid (HE.out.on B3.out.below))
    | (go_at_call 12; (with_reducible refine (HRD.out _ E3.out).mono ?_); rintro e W4 ⟨k', s', v', rfl, hz, hL⟩; have HZ := Lib.hid hz; have B4 := Lib.hid ((B3.out.on hL.below).on (below_one W4 (cells k' s' v'))); have BX := Lib.hid (Boxed.start W4 k' s' v'); clear hL hz; refine Hid.out ?_))
  refine Lib.hid ?_
  go_wp2
  have P4 : Hid (Boxed w w.heap.size k s v (W4.alloc (.cells #[.int .i64 k', .string (str s'), .float .f64 v'] 24))) := B4
  have X4 : Hid (Boxed W4 W4.heap.size k' s' v' (W4.alloc (.cells #[.int .i64 k', .string (str s'), .float .f64 v'] 24))) := BX
  have P5 := Lib.hid (P4.out.on ((Below.refl _ _).drew))
  have X5 := Lib.hid (X4.out.on ((Below.refl _ _).drew))
  go_region_held3 (fun W => W.cell? ⟨w.heap.size, 0, none⟩ = some (.int .i64 k) ∧ W.cell? ⟨w.heap.size, 1, none⟩ = some (.string (str s)) ∧ W.cell? ⟨w.heap.size, 2, none⟩ = some (.float .f64 v) ∧ W.cell? ⟨W4.heap.size, 0, none⟩ = some (.int .i64 k') ∧ W.cell? ⟨W4.heap.size, 1, none⟩ = some (.string (str s')) ∧ W.cell? ⟨W4.heap.size, 2, none⟩ = some (.float .f64 v'))
    (first
      | (with_reducible exact ⟨P9.out.c0, P9.out.c1, P9.out.c2, X9.out.c0, X9.out.c1, X9.out.c2⟩)
      | (with_reducible exact ⟨P8.out.c0, P8.out.c1, P8.out.c2, X8.out.c0, X8.out.c1, X8.out.c2⟩)
      | (with_reducible exact ⟨P7.out.c0, P7.out.c1, P7.out.c2, X7.out.c0, X7.out.c1, X7.out.c2⟩)
      | (with_reducible exact ⟨P6.out.c0, P6.out.c1, P6.out.c2, X6.out.c0, X6.out.c1, X6.out.c2⟩)
      | exact ⟨P4.out.c0, P4.out.c1, P4.out.c2, X4.out.c0, X4.out.c1, X4.out.c2⟩
      | go_keep)
    (first
      | (go_at_call 13; (with_reducible refine (HRT.out _).mono ?_); rintro e W6 ⟨rfl, hb⟩; have P6 := Lib.hid (P5.out.on hb); have X6 := Lib.hid (X5.out.on hb); clear hb)
      | (go_at_call 14; (with_reducible refine (HSS.out _ _ _ _ HZ.out.1 HZ.out.2).mono ?_); rintro e W7 ⟨rfl, hb⟩; have P7 := Lib.hid (P6.out.on hb); have X7 := Lib.hid (X6.out.on hb); clear hb)
      | (go_at_call 9; (with_reducible refine (HW.out _).mono ?_); rintro e W8 ⟨rfl, hb⟩; have P8 := Lib.hid (P7.out.on hb); have X8 := Lib.hid (X7.out.on hb); clear hb)
      | (go_at_call 11; (with_reducible refine (HWK.out _ (HE.out.on P8.out.below)).mono ?_); rintro e W9 ⟨rfl, hL⟩; have P9 := Lib.hid (P8.out.on hL.below); have X9 := Lib.hid (X8.out.on hL.below); clear hL))
  go_wp2
  go_ret
  exact ⟨rfl, .of HE.out P9.out.below⟩

theorem tells_c (k : Int) (s : List UInt8) (v : Nat) (w : World) (hE : EnvC w) (hv : v < 18446744073709551616) (hl : (s.length : Int) ≤ 9223372036854775807) :
    Calls Tryd.prog 3 #[.agg #[.int .i64 k, .string (str s), .float .f64 v]] w (GivesTrueC w) := by
  cases hr : cRight k s v
  · exact tells_wrong k s v w hE hv hl hr
  · exact tells_right k s v w hE hv hl hr
end Go.Proofs.YtlacjlcndejeaaaDoor.Cmd
