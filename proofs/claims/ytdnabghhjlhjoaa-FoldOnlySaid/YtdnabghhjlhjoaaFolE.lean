/- The statements' functions of layer 14 (fold): each returns true. Conditions: the items lie in memory as their cells say; numbers' words of 64 bits; texts of a length that Go reads. -/
import Derived.Test.YtdnabghhjlhjoaaFolD
import Derived.Test.YtdnabghhjlhjoaaFolC
namespace Go.Proofs.Ytdnabghhjlhjoaa.Fol
open Go.RowKit F64 Cmd Bat Cel Wid Vau
set_option linter.unusedVariables false
set_option linter.unusedSimpArgs false

theorem fit_same2 {f g : Bool} {z y : Nat} {c : Cell2} (h : Fit f z c) (k : Fit g y c) : sameC (f, z) (g, y) = true := alike_same (h.alike.trans k.alike.symm)
theorem wfT_ok {xs : List Itm} (h : ∀ x ∈ xs, wfT x) : ∀ x ∈ okOf xs, wfT x := fun x hx => h x (okOf_mem hx).1

/-! ### FoldTells -/
theorem ftells_long (p : Option Addr) (n cap : Nat) (s : List UInt8) (w : World) (hl : 12 < n) : Calls Try.prog 3 #[.slice p n cap, .string (str s)] w (RetBelow (.bool true) w) := by
  have CP := Lib.hid fplay_any
  have h2 : decide ((12 : Int) < n) = true := decide_eq_true (by omega)
  have h3 : (12 : Int) < n := by omega
  clear hl
  go_enter Try.func3, Try.ntmps3
  go_wp2_with (first
    | (go_at_call 6; (with_reducible refine (CP.out _).mono ?_); rintro E w1 ⟨rfl, hb⟩; have B1 := Lib.hid hb; clear hb))
  go_ret
  exact ⟨rfl, B1.out⟩
set_option maxHeartbeats 16000000 in
set_option maxRecDepth 100000 in
theorem ftells_few (p : Option Addr) (cap : Nat) (xs : List Itm) (s : List UInt8) (w : World) (h : layT.Row w (.slice p xs.length cap) xs) (hw : ∀ x ∈ xs, wfT x) (hs : s.length ≤ 140737488351232) (hl : xs.length ≤ 12) : Calls Try.prog 3 #[.slice p xs.length cap, .string (str s)] w (RetBelow (.bool true) w) := by
  have CP := Lib.hid fplay_any
  have CB := Lib.hid (both_any _ xs w h hw (by omega))
  have HW := Lib.hid hw
  have HWO := Lib.hid (wfT_ok hw)
  have HL := Lib.hid hl
  have HSZ := Lib.hid hs
  have HCM : Hid ((cmdsOf (okOf xs)).length ≤ 100000) := Lib.hid (by have := okOf_cmds xs; omega)
  have HOL : Hid ((okOf xs).length ≤ 100000) := Lib.hid (by have := okOf_len xs; omega)
  obtain ⟨n, hn⟩ : ∃ n, n = xs.length := ⟨_, rfl⟩
  rw [← hn] at CB ⊢
  have h2 : decide ((12 : Int) < n) = false := decide_eq_false (by omega)
  have h3 : ¬ (12 : Int) < n := by omega
  clear h hw hl hn hs
  go_enter Try.func3, Try.ntmps3
  go_wp2_with (first
    | (go_at_call 7; ((with_reducible refine CB.out.mono ?_); rintro E w1 ⟨va, vb, rfl, ht⟩; have T1 := ht; have C1 := Lib.hid (fcell_any va xs s w1 T1.out.rowA HW.out (by have := HL.out; omega) HSZ.out); clear ht))
    | (go_at_call 9; ((with_reducible refine C1.out.mono ?_); rintro E w2 ⟨f1, z1, rfl, hf, hb⟩; have F1 := Lib.hid hf; have T2 := Lib.hid (T1.out.on hb); have C2 := Lib.hid (rcell_any vb (okOf xs) s w2 T2.out.rowB HWO.out); clear hf hb C1))
    | (go_at_call 10; ((with_reducible refine C2.out.mono ?_); rintro E w3 ⟨f2, z2, rfl, hf, hb⟩; have T3 := Lib.hid (T2.out.on hb); have CS : Hid (Calls Try.prog 8 #[.agg #[.bool f1, .float .f64 z1], .agg #[.bool f2, .float .f64 z2]] w3 (RetBelow (.bool true) w3)) := Lib.hid ((rcsame (f1, z1) (f2, z2) w3 F1.out.lt hf.lt).mono fun E w' h => by rw [fit_same2 F1.out hf] at h; exact h); clear hf hb C2))
    | (go_at_call 8; ((with_reducible refine CS.out.mono ?_); rintro E w4 ⟨rfl, hb⟩; have T4 := Lib.hid (T3.out.on hb); have C4 := Lib.hid (fwriters_any va xs s w4 T4.out.rowA HW.out (by have := HL.out; omega) HSZ.out); clear hb CS))
    | (go_at_call 12; ((with_reducible refine C4.out.mono ?_); rintro E w5 ⟨v5, rfl, hr, hb⟩; have R5 := Lib.hid hr; have T5 := Lib.hid (T4.out.on hb); have C5 := Lib.hid (rlog_any vb (okOf xs) s w5 T5.out.rowB HWO.out HCM.out); clear hr hb C4))
    | (go_at_call 13; ((with_reducible refine C5.out.mono ?_); rintro E w6 ⟨v6, rfl, hr, hb⟩; have T6 := Lib.hid (T5.out.on hb); have C6 : Hid (Calls Try.prog 11 #[v5, v6] w6 (RetBelow (.bool true) w6)) := Lib.hid ((slog_any v5 v6 _ _ w6 (R5.out.on hb) hr).mono fun E w' h => by rw [decide_eq_true rfl] at h; exact h); clear hr hb C5 R5))
    | (go_at_call 11; ((with_reducible refine C6.out.mono ?_); rintro E w7 ⟨rfl, hb⟩; have T7 := Lib.hid (T6.out.on hb); have C7 := Lib.hid (fresults_any va xs w7 T7.out.rowA HW.out (by have := HL.out; omega)); clear hb C6))
    | (go_at_call 15; ((with_reducible refine C7.out.mono ?_); rintro E w8 ⟨v8, ys, rfl, hr, hf, hb⟩; have R8 := Lib.hid hr; have F8 := Lib.hid hf; have T8 := Lib.hid (T7.out.on hb); have C8 := Lib.hid (rres_any vb (okOf xs) w8 T8.out.rowB HWO.out HCM.out HOL.out); clear hr hf hb C7))
    | (go_at_call 16; ((with_reducible refine C8.out.mono ?_); rintro E w9 ⟨v9, zs, rfl, hr, hf, hb⟩; have T9 := Lib.hid (T8.out.on hb); have C9 : Hid (Calls Try.prog 14 #[v8, v9] w9 (RetBelow (.bool true) w9)) := Lib.hid ((sres_any v8 v9 ys zs w9 (R8.out.on hb) hr F8.out.wf hf.wf).mono fun E w' h => by rw [F8.out.same hf] at h; exact h); clear hr hf hb C8 R8))
    | (go_at_call 14; ((with_reducible refine C9.out.mono ?_); rintro E w10 ⟨rfl, hb⟩; have T10 := Lib.hid (T9.out.on hb); clear hb C9))
    | (go_at_call 6; (with_reducible refine (CP.out _).mono ?_); rintro E w11 ⟨rfl, hb⟩; have T11 := Lib.hid (T10.out.on hb); clear hb))
  go_ret
  exact ⟨rfl, T11.out.below⟩

/-! ### FoldOnly -/
theorem fonly_long (p : Option Addr) (n cap : Nat) (s : List UInt8) (pw : Option Addr) (m capw : Nat) (w : World) (hl : 12 < n ∨ 50 < m) : Calls Try.prog 4 #[.slice p n cap, .string (str s), .slice pw m capw] w (RetBelow (.bool true) w) := by
  have CP := Lib.hid fplay_any
  by_cases h1 : 12 < n
  · have h2 : decide ((12 : Int) < n) = true := decide_eq_true (by omega)
    have h3 : (12 : Int) < n := by omega
    clear hl h1
    go_enter Try.func4, Try.ntmps4
    go_wp2_with (first
      | (go_at_call 6; (with_reducible refine (CP.out _).mono ?_); rintro E w1 ⟨rfl, hb⟩; have B1 := Lib.hid hb; clear hb))
    go_ret
    exact ⟨rfl, B1.out⟩
  · have h2 : decide ((12 : Int) < n) = false := decide_eq_false (by omega)
    have h3 : ¬ (12 : Int) < n := by omega
    have h4 : decide ((50 : Int) < m) = true := decide_eq_true (by omega)
    have h5 : (50 : Int) < m := by omega
    clear hl h1
    go_enter Try.func4, Try.ntmps4
    go_wp2_with (first
      | (go_at_call 6; (with_reducible refine (CP.out _).mono ?_); rintro E w1 ⟨rfl, hb⟩; have B1 := Lib.hid hb; clear hb))
    go_ret
    exact ⟨rfl, B1.out⟩
set_option maxHeartbeats 16000000 in
set_option maxRecDepth 100000 in
theorem fonly_few (p : Option Addr) (cap : Nat) (xs : List Itm) (s : List UInt8) (pw : Option Addr) (capw : Nat) (ws : List Wr) (w : World) (h : layT.Row w (.slice p xs.length cap) xs) (hw : ∀ x ∈ xs, wfT x) (ha : ∀ x ∈ xs, wfA x) (hs : s.length ≤ 140737488351232) (hu : layW.Row w (.slice pw ws.length capw) ws) (hwu : ∀ x ∈ ws, wfW x) (hl : xs.length ≤ 12 ∧ ws.length ≤ 50) : Calls Try.prog 4 #[.slice p xs.length cap, .string (str s), .slice pw ws.length capw] w (RetBelow (.bool true) w) := by
  have CP := Lib.hid fplay_any
  have CB := Lib.hid (both_any _ xs w h hw (by omega))
  have HW := Lib.hid hw
  have HWO := Lib.hid (wfT_ok hw)
  have HL := Lib.hid hl
  have HSZ := Lib.hid hs
  have HU := Lib.hid hu
  have HAI := Lib.hid ha
  have HWU := Lib.hid hwu
  have HLW : Hid (∀ e ∈ logOf (okOf xs) s, wfW e) := Lib.hid (logOf_wf s (okOf xs) fun x hx => ⟨ha x (okOf_mem hx).1, by have := (berr_parts (okOf_mem hx).2).1; omega⟩)
  have HLO : Hid ((logOf (okOf xs) s).length ≤ 100000) := Lib.hid (by have h1 := logOf_le s (okOf xs); have h2 := okOf_cmds xs; omega)
  obtain ⟨n, hn⟩ : ∃ n, n = xs.length := ⟨_, rfl⟩
  obtain ⟨m, hm⟩ : ∃ m, m = ws.length := ⟨_, rfl⟩
  rw [← hn] at CB ⊢
  rw [← hm] at HU ⊢
  have h2 : decide ((12 : Int) < n) = false := decide_eq_false (by omega)
  have h3 : ¬ (12 : Int) < n := by omega
  have h4 : decide ((50 : Int) < m) = false := decide_eq_false (by omega)
  have h5 : ¬ (50 : Int) < m := by omega
  clear h hw hl hn hs hu hm ha hwu
  go_enter Try.func4, Try.ntmps4
  go_wp2_with (first
    | (go_at_call 7; ((with_reducible refine CB.out.mono ?_); rintro E w1 ⟨va, vb, rfl, ht⟩; have T1 := ht; have C1 := Lib.hid (fonly_any va _ xs s ws w1 T1.out.rowA (HU.out.on T1.out.below) HW.out HAI.out HWU.out (by have := HL.out; omega) HSZ.out (by have := HL.out; omega)); clear ht))
    | (go_at_call 17; ((with_reducible refine C1.out.mono ?_); rintro E w2 ⟨f1, z1, rfl, hf, hb⟩; have F1 := Lib.hid hf; have T2 := Lib.hid (T1.out.on hb); have C2 := Lib.hid (ronly_any vb _ (okOf xs) s ws w2 T2.out.rowB (HU.out.on T2.out.below) HWO.out (by have := HL.out; omega)); clear hf hb C1))
    | (go_at_call 18; ((with_reducible refine C2.out.mono ?_); rintro E w3 ⟨f2, z2, rfl, hf, hb⟩; have T3 := Lib.hid (T2.out.on hb); have CS : Hid (Calls Try.prog 8 #[.agg #[.bool f1, .float .f64 z1], .agg #[.bool f2, .float .f64 z2]] w3 (RetBelow (.bool true) w3)) := Lib.hid ((rcsame (f1, z1) (f2, z2) w3 F1.out.lt hf.lt).mono fun E w' h => by rw [fit_same2 F1.out hf] at h; exact h); clear hf hb C2))
    | (go_at_call 8; ((with_reducible refine CS.out.mono ?_); rintro E w4 ⟨rfl, hb⟩; have T4 := Lib.hid (T3.out.on hb); have C4 := Lib.hid (fwriters_any va xs s w4 T4.out.rowA HW.out (by have := HL.out; omega) HSZ.out); clear hb CS))
    | (go_at_call 12; ((with_reducible refine C4.out.mono ?_); rintro E w5 ⟨v5, rfl, hr, hb⟩; have T5 := Lib.hid (T4.out.on hb); have C5 : Hid (Calls Try.prog 17 #[va, .string (str s), v5] w5 (GivesFold (cellOf (okOf xs) s) w5)) := Lib.hid (by have := fonly_any va v5 xs s _ w5 T5.out.rowA hr HW.out HAI.out HLW.out (by have := HL.out; omega) HSZ.out HLO.out; rw [only_all] at this; exact this); clear hr hb C4))
    | (go_at_call 17; ((with_reducible refine C5.out.mono ?_); rintro E w6 ⟨f6, z6, rfl, hf, hb⟩; have F6 := Lib.hid hf; have T6 := Lib.hid (T5.out.on hb); have C6 := Lib.hid (fcell_any va xs s w6 T6.out.rowA HW.out (by have := HL.out; omega) HSZ.out); clear hf hb C5))
    | (go_at_call 9; ((with_reducible refine C6.out.mono ?_); rintro E w7 ⟨f7, z7, rfl, hf, hb⟩; have T7 := Lib.hid (T6.out.on hb); have CS7 : Hid (Calls Try.prog 8 #[.agg #[.bool f6, .float .f64 z6], .agg #[.bool f7, .float .f64 z7]] w7 (RetBelow (.bool true) w7)) := Lib.hid ((rcsame (f6, z6) (f7, z7) w7 F6.out.lt hf.lt).mono fun E w' h => by rw [fit_same2 F6.out hf] at h; exact h); clear hf hb C6))
    | (go_at_call 8; ((with_reducible refine CS7.out.mono ?_); rintro E w8 ⟨rfl, hb⟩; have T8 := Lib.hid (T7.out.on hb); clear hb CS7))
    | (go_at_call 6; (with_reducible refine (CP.out _).mono ?_); rintro E w9 ⟨rfl, hb⟩; have T9 := Lib.hid (T8.out.on hb); clear hb))
  go_ret
  exact ⟨rfl, T9.out.below⟩
end Go.Proofs.Ytdnabghhjlhjoaa.Fol
