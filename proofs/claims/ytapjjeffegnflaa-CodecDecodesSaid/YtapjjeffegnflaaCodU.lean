/- The statement's function of layer 11 (codec) on any bytes, sealed or not: it returns true. Conditions: the bytes lie in memory as their cells say. (Written by tools/gen_decodes.py.) -/
import Derived.Test.YtapjjeffegnflaaCodP
import Derived.Test.YtapjjeffegnflaaCodK
namespace Go.Proofs.Ytapjjeffegnflaa.Cod
open Go.RowKit F64 Cmd Bat Ids Rec Wir Dig
set_option linter.unusedVariables false
set_option linter.unusedSimpArgs false

set_option maxHeartbeats 4000000 in
set_option maxRecDepth 100000 in
theorem decodes_many (v : Value) (zs : List UInt8) (sealed : Bool) (w : World) (h : layB.Row w v zs) (hl : 2000 < zs.length) : Calls Try.prog 4 #[v, .bool sealed] w (RetBelow (.bool true) w) := by
  obtain ⟨p, cap, rfl, g1, g2, -⟩ := h
  have CW := Lib.hid cplay_any
  have h1 : (2000 : Int) < zs.length := by omega
  have h2 : decide ((2000 : Int) < zs.length) = true := decide_eq_true h1
  generalize (zs.length : Nat) = L at *
  clear hl
  go_enter Try.func4, Try.ntmps4
  go_wp2_with (first
    | (go_at_call 6; (with_reducible refine (CW.out _).mono ?_); rintro e w3 ⟨rfl, hb⟩; have D3 := Lib.hid hb; clear hb))
  go_ret
  exact ⟨rfl, D3.out⟩
set_option maxHeartbeats 16000000 in
set_option maxRecDepth 100000 in
theorem decodes_plain_no (v : Value) (zs : List UInt8) (w : World) (h : layB.Row w v zs) (hl : zs.length ≤ 2000) (k : Nat) (hd : dec zs = .error k) : Calls Try.prog 4 #[v, .bool false] w (RetBelow (.bool true) w) := by
  have hrow := h
  obtain ⟨p, cap, rfl, g1, g2, -⟩ := h
  have CW := Lib.hid cplay_any
  have h1 : ¬ (2000 : Int) < zs.length := by omega
  have h2 : decide ((2000 : Int) < zs.length) = false := decide_eq_false h1
  have HO1 : Hid (OwnB (w.alloc (.cells #[] 5)) w.heap.size (.slice (some ⟨w.heap.size, 0, none⟩) 0 0) []) := Lib.hid (made_none w)
  have D0 := Lib.hid (Cmd.below_one w (.cells #[] 5))
  have HL : Hid (([] : List UInt8).length + zs.length ≤ 1000000) := Lib.hid (by rw [List.length_nil]; omega)
  have HRow : Hid (∀ W, Below w.heap.size w W → layB.Row W (.slice p zs.length cap) zs) := Lib.hid fun W hb => hrow.on hb
  obtain ⟨X, hX⟩ : ∃ X, zs = X := ⟨_, rfl⟩
  have HEX := Lib.hid hX
  rw [hX] at hd
  have hXl : X.length ≤ 3000 := by rw [← hX]; omega
  clear hX
  have HLX : Hid (([] : List UInt8).length + X.length ≤ 1000000) := Lib.hid (by rw [List.length_nil]; omega)
  have HM : Hid (∀ W : World, OwnB (W.alloc (.cells #[] 5)) W.heap.size (.slice (some ⟨W.heap.size, 0, none⟩) 0 0) [] ∧ Below W.heap.size W (W.alloc (.cells #[] 5))) := Lib.hid fun W => ⟨made_none W, Cmd.below_one W _⟩
  have CD : Hid (∀ W V, layB.Row W V X → Calls Try.prog 10 #[V] W fun E w' => k ≠ 0 ∧ GivesNo k W E w') := Lib.hid fun W V hr => (decode_any V X W hr (by omega)).mono fun E w' h => h.fell hd
  have CR : Hid (∀ W V, layB.Row W V X → Calls Try.prog 15 #[V] W (GivesNo k W)) := Lib.hid fun W V hr => (ref_read V X W hr).mono fun E w' h => (h.fell hd).2
  have CS : Hid (∀ W p1 c1 p2 c2 p3 c3 p4 c4, RowAt W (.slice p1 0 c1) [] → layC.Row W (.slice p2 0 c2) [] → RowAt W (.slice p3 0 c3) [] → layC.Row W (.slice p4 0 c4) [] → Calls Try.prog 12 #[.agg #[.int .i64 0, .int .i64 0, .int .i64 0, .slice p1 0 c1, .slice p2 0 c2], .agg #[.int .i64 0, .int .i64 0, .int .i64 0, .slice p3 0 c3, .slice p4 0 c4]] W (RetBelow (.bool true) W)) := Lib.hid fun W p1 c1 p2 c2 p3 c3 p4 c4 r1 r2 r3 r4 => by
    have := refsame_r 0 0 0 (.slice p1 0 c1) (.slice p2 0 c2) 0 0 0 (.slice p3 0 c3) (.slice p4 0 c4) [] [] [] [] W r1 r2 r3 r4 (fun x hx => absurd hx (by simp)) (fun x hx => absurd hx (by simp))
    rw [rsame_nil] at this
    exact this
  clear hrow hl hd hXl
  go_enter Try.func4, Try.ntmps4
  go_wp2_with (first
    | (at_builtin; refine wp_rows rfl _ _ rfl w.heap.size _ [] rfl HO1.out D0.out.size (.slice p zs.length cap) zs rfl (HRow.out _ D0.out) HL.out ?_; intro u4 w4 HO4 HB4; have D4 := Lib.hid (D0.out.trans HB4.out); have OX : Hid (OwnB w4 w.heap.size u4 X) := Lib.hid (by rw [← HEX.out]; exact HO4.out); obtain ⟨px, cx, rfl, -, -⟩ := own_len OX.out; obtain ⟨m1, m2⟩ := HM.out w4; have M1 := Lib.hid m1; have M2 := Lib.hid m2; have RX := Lib.hid ((rowB OX.out).on m2); clear m1 m2)
    | (at_builtin; refine wp_rows rfl _ _ rfl w4.heap.size _ [] rfl M1.out M2.out.size (.slice px X.length cx) X rfl RX.out HLX.out ?_; intro u6 w6 HO6 HB6; have M6 := Lib.hid (M2.out.trans HB6.out); have R6 : Hid (layB.Row w6 u6 X) := Lib.hid (rowB HO6.out); have C6 := Lib.hid (CD.out _ _ R6.out))
    | (go_at_call 10; (with_reducible refine C6.out.mono ?_); rintro E7 w7 ⟨hk, p71, c71, p72, c72, rfl, r1, r2, hb⟩; have hk1 : ((k : Int) != 0) = true := (by rw [bne_iff_ne]; omega); have hk2 : ¬ (k : Int) = 0 := (by omega); have T1 := Lib.hid r1; have T2 := Lib.hid r2; have M7 := Lib.hid (M6.out.trans (hb.mono M6.out.size)); have A7 := Lib.hid (Cmd.below_one w7 (.cells #[.int .i64 0, .int .i64 0, .int .i64 0, .slice p71 0 c71, .slice p72 0 c72] 27)); have F7 := Lib.hid (Five.new w7 (.int .i64 0) (.int .i64 0) (.int .i64 0) (.slice p71 0 c71) (.slice p72 0 c72) 27); have M8 := Lib.hid (M7.out.trans (A7.out.mono M7.out.size)); have C8 := Lib.hid (CR.out _ _ ((rowB OX.out).on M8.out)); have lt7 : Hid (w7.heap.size < (w7.alloc (.cells #[.int .i64 0, .int .i64 0, .int .i64 0, .slice p71 0 c71, .slice p72 0 c72] 27)).heap.size) := Lib.hid (by simp); clear hb hk r1 r2)
    | (go_at_call 15; (with_reducible refine C8.out.mono ?_); rintro E9 w9 ⟨p91, c91, p92, c92, rfl, r1, r2, hb⟩; have A9 := Lib.hid (Cmd.below_one w9 (.cells #[.int .i64 0, .int .i64 0, .int .i64 0, .slice p91 0 c91, .slice p92 0 c92] 27)); have F9 := Lib.hid (Five.new w9 (.int .i64 0) (.int .i64 0) (.int .i64 0) (.slice p91 0 c91) (.slice p92 0 c92) 27); have N9 := Lib.hid (hb.trans (A9.out.mono hb.size)); have M9 := Lib.hid (M8.out.trans (N9.out.mono M8.out.size)); have F8 := Lib.hid (F7.out.same (N9.out.block _ lt7.out)); obtain ⟨x0, x1, x2, x3, x4⟩ := F8.out.cells; obtain ⟨y0, y1, y2, y3, y4⟩ := F9.out.cells; have C9 := Lib.hid (CS.out _ _ _ _ _ _ _ _ _ ((T1.out.on A7.out).on N9.out) ((T2.out.on A7.out).on N9.out) (r1.on A9.out) (r2.on A9.out)); clear hb r1 r2)
    | (go_at_call 12; (with_reducible refine C9.out.mono ?_); rintro E10 w10 ⟨rfl, hb⟩; have M10 := Lib.hid (M9.out.trans (hb.mono M9.out.size)); clear hb)
    | (go_at_call 6; (with_reducible refine (CW.out _).mono ?_); rintro E12 w12 ⟨rfl, hb⟩; have M12 := Lib.hid (M10.out.trans (hb.mono M10.out.size)); clear hb))
  go_ret
  exact ⟨rfl, D4.out.trans (M12.out.mono D4.out.size)⟩
set_option maxHeartbeats 16000000 in
set_option maxRecDepth 100000 in
theorem decodes_plain_ok (v : Value) (zs : List UInt8) (w : World) (h : layB.Row w v zs) (hl : zs.length ≤ 2000) (a b q : Int) (ds : List Idn) (cs' : List Cmdn) (hd : dec zs = .ok (a, b, q, ds, cs')) : Calls Try.prog 4 #[v, .bool false] w (RetBelow (.bool true) w) := by
  have hrow := h
  obtain ⟨p, cap, rfl, g1, g2, -⟩ := h
  have CW := Lib.hid cplay_any
  have h1 : ¬ (2000 : Int) < zs.length := by omega
  have h2 : decide ((2000 : Int) < zs.length) = false := decide_eq_false h1
  have HO1 : Hid (OwnB (w.alloc (.cells #[] 5)) w.heap.size (.slice (some ⟨w.heap.size, 0, none⟩) 0 0) []) := Lib.hid (made_none w)
  have D0 := Lib.hid (Cmd.below_one w (.cells #[] 5))
  have HL : Hid (([] : List UInt8).length + zs.length ≤ 1000000) := Lib.hid (by rw [List.length_nil]; omega)
  have HRow : Hid (∀ W, Below w.heap.size w W → layB.Row W (.slice p zs.length cap) zs) := Lib.hid fun W hb => hrow.on hb
  obtain ⟨X, hX⟩ : ∃ X, zs = X := ⟨_, rfl⟩
  have HEX := Lib.hid hX
  rw [hX] at hd
  have hXl : X.length ≤ 3000 := by rw [← hX]; omega
  clear hX
  have HLX : Hid (([] : List UInt8).length + X.length ≤ 1000000) := Lib.hid (by rw [List.length_nil]; omega)
  have HM : Hid (∀ W : World, OwnB (W.alloc (.cells #[] 5)) W.heap.size (.slice (some ⟨W.heap.size, 0, none⟩) 0 0) [] ∧ Below W.heap.size W (W.alloc (.cells #[] 5))) := Lib.hid fun W => ⟨made_none W, Cmd.below_one W _⟩
  have CD : Hid (∀ W V, layB.Row W V X → Calls Try.prog 10 #[V] W (GivesRd a b q ds cs' W)) := Lib.hid fun W V hr => (decode_any V X W hr (by omega)).mono fun E w' h => h.took hd
  have CR : Hid (∀ W V, layB.Row W V X → Calls Try.prog 15 #[V] W (GivesRd a b q ds cs' W)) := Lib.hid fun W V hr => (ref_read V X W hr).mono fun E w' h => h.took hd
  have CS : Hid (∀ W p1 c1 p2 c2 cs1 p3 c3 p4 c4 cs2, cs1.map cmdC = cs' → GoodC cs1 → cs2.map cmdC = cs' → GoodC cs2 → RowAt W (.slice p1 ds.length c1) ds → layC.Row W (.slice p2 cs1.length c2) cs1 → RowAt W (.slice p3 ds.length c3) ds → layC.Row W (.slice p4 cs2.length c4) cs2 → Calls Try.prog 12 #[.agg #[.int .i64 a, .int .i64 b, .int .i64 q, .slice p1 ds.length c1, .slice p2 cs1.length c2], .agg #[.int .i64 a, .int .i64 b, .int .i64 q, .slice p3 ds.length c3, .slice p4 cs2.length c4]] W (RetBelow (.bool true) W)) := Lib.hid fun W p1 c1 p2 c2 cs1 p3 c3 p4 c4 cs2 e1 g1 e2 g2 r1 r2 r3 r4 => by
    have := refsame_r a b q (.slice p1 ds.length c1) (.slice p2 cs1.length c2) a b q (.slice p3 ds.length c3) (.slice p4 cs2.length c4) ds ds cs1 cs2 W r1 r2 r3 r4 (dec_has g1 (by rw [e1]; exact hd)).1 (dec_has g2 (by rw [e2]; exact hd)).1
    rw [rsame_cmdC (zero_good g1) (zero_good g2) (e1.trans e2.symm)] at this
    exact this
  obtain ⟨n, hn⟩ : ∃ n, X.length = n := ⟨_, rfl⟩
  have CE : Hid (∀ W p1 c1 p2 c2 cs1, cs1.map cmdC = cs' → GoodC cs1 → RowAt W (.slice p1 ds.length c1) ds → layC.Row W (.slice p2 cs1.length c2) cs1 → Calls Try.prog 7 #[.agg #[.int .i64 a, .int .i64 b, .int .i64 q, .slice p1 ds.length c1, .slice p2 cs1.length c2]] W (GivesEn X n W)) := Lib.hid fun W p1 c1 p2 c2 cs1 e1 g1 r1 r2 => by
    obtain ⟨k1, k2, k3⟩ := dec_has g1 (by rw [e1]; exact hd)
    have h0 : 0 < n := by have := seal_len (recB a b q ds cs1); rw [k3] at this; omega
    exact enc_ok r1 r2 k1 k2 k3 hn h0
  clear hrow hl hd hXl hn
  go_enter Try.func4, Try.ntmps4
  go_wp2_with (first
    | (at_builtin; refine wp_rows rfl _ _ rfl w.heap.size _ [] rfl HO1.out D0.out.size (.slice p zs.length cap) zs rfl (HRow.out _ D0.out) HL.out ?_; intro u4 w4 HO4 HB4; have D4 := Lib.hid (D0.out.trans HB4.out); have OX : Hid (OwnB w4 w.heap.size u4 X) := Lib.hid (by rw [← HEX.out]; exact HO4.out); obtain ⟨px, cx, rfl, -, -⟩ := own_len OX.out; obtain ⟨m1, m2⟩ := HM.out w4; have M1 := Lib.hid m1; have M2 := Lib.hid m2; have RX := Lib.hid ((rowB OX.out).on m2); clear m1 m2)
    | (at_builtin; refine wp_rows rfl _ _ rfl w4.heap.size _ [] rfl M1.out M2.out.size (.slice px X.length cx) X rfl RX.out HLX.out ?_; intro u6 w6 HO6 HB6; have M6 := Lib.hid (M2.out.trans HB6.out); have R6 : Hid (layB.Row w6 u6 X) := Lib.hid (rowB HO6.out); have C6 := Lib.hid (CD.out _ _ R6.out))
    | (go_at_call 10; (with_reducible refine C6.out.mono ?_); rintro E7 w7 ⟨p71, c71, p72, c72, cs1, rfl, hm, hg, r1, r2, hb⟩; have HM1 := Lib.hid hm; have HG1 := Lib.hid hg; have T1 := Lib.hid r1; have T2 := Lib.hid r2; have M7 := Lib.hid (M6.out.trans (hb.mono M6.out.size)); have A7 := Lib.hid (Cmd.below_one w7 (.cells #[.int .i64 a, .int .i64 b, .int .i64 q, .slice p71 ds.length c71, .slice p72 cs1.length c72] 27)); have F7 := Lib.hid (Five.new w7 (.int .i64 a) (.int .i64 b) (.int .i64 q) (.slice p71 ds.length c71) (.slice p72 cs1.length c72) 27); have M8 := Lib.hid (M7.out.trans (A7.out.mono M7.out.size)); have C8 := Lib.hid (CR.out _ _ ((rowB OX.out).on M8.out)); have lt7 : Hid (w7.heap.size < (w7.alloc (.cells #[.int .i64 a, .int .i64 b, .int .i64 q, .slice p71 ds.length c71, .slice p72 cs1.length c72] 27)).heap.size) := Lib.hid (by simp); clear hb hm hg r1 r2)
    | (go_at_call 15; (with_reducible refine C8.out.mono ?_); rintro E9 w9 ⟨p91, c91, p92, c92, cs2, rfl, hm, hg, r1, r2, hb⟩; have A9 := Lib.hid (Cmd.below_one w9 (.cells #[.int .i64 a, .int .i64 b, .int .i64 q, .slice p91 ds.length c91, .slice p92 cs2.length c92] 27)); have F9 := Lib.hid (Five.new w9 (.int .i64 a) (.int .i64 b) (.int .i64 q) (.slice p91 ds.length c91) (.slice p92 cs2.length c92) 27); have N9 := Lib.hid (hb.trans (A9.out.mono hb.size)); have M9 := Lib.hid (M8.out.trans (N9.out.mono M8.out.size)); have F8 := Lib.hid (F7.out.same (N9.out.block _ lt7.out)); obtain ⟨x0, x1, x2, x3, x4⟩ := F8.out.cells; obtain ⟨y0, y1, y2, y3, y4⟩ := F9.out.cells; have C9 := Lib.hid (CS.out _ _ _ _ _ _ _ _ _ _ _ HM1.out HG1.out hm hg ((T1.out.on A7.out).on N9.out) ((T2.out.on A7.out).on N9.out) (r1.on A9.out) (r2.on A9.out)); have T3 := Lib.hid ((T1.out.on A7.out).on N9.out); have T4 := Lib.hid ((T2.out.on A7.out).on N9.out); clear hb hm hg r1 r2)
    | (go_at_call 12; (with_reducible refine C9.out.mono ?_); rintro E10 w10 ⟨rfl, hb⟩; have M10 := Lib.hid (M9.out.trans (hb.mono M9.out.size)); have lt9 := Lib.hid (Nat.lt_of_lt_of_le lt7.out N9.out.size); have F10 := Lib.hid (F8.out.same (hb.block _ lt9.out)); obtain ⟨a0, a1, a2, a3, a4⟩ := F10.out.cells; have C10 := Lib.hid (CE.out _ _ _ _ _ _ HM1.out HG1.out (T3.out.on hb) (T4.out.on hb)); clear hb)
    | (go_at_call 7; (with_reducible refine C10.out.mono ?_); rintro E11 w11 ⟨g11, cap11, rfl, ho, hc11, hb⟩; have M11 := Lib.hid (M10.out.trans (hb.mono M10.out.size)); have ht1 := text_run (rowB ho); have ht2 := text_run ((rowB OX.out).on M11.out); clear hb ho)
    | (go_at_call 6; (with_reducible refine (CW.out _).mono ?_); rintro E12 w12 ⟨rfl, hb⟩; have M12 := Lib.hid (M11.out.trans (hb.mono M11.out.size)); clear hb))
  go_ret
  exact ⟨rfl, D4.out.trans (M12.out.mono D4.out.size)⟩
set_option maxHeartbeats 16000000 in
set_option maxRecDepth 100000 in
theorem decodes_sealed_no (v : Value) (zs : List UInt8) (w : World) (h : layB.Row w v zs) (hl : zs.length ≤ 2000) (k : Nat) (hd : dec (sealt zs) = .error k) : Calls Try.prog 4 #[v, .bool true] w (RetBelow (.bool true) w) := by
  have hrow := h
  obtain ⟨p, cap, rfl, g1, g2, -⟩ := h
  have CW := Lib.hid cplay_any
  have h1 : ¬ (2000 : Int) < zs.length := by omega
  have h2 : decide ((2000 : Int) < zs.length) = false := decide_eq_false h1
  have HO1 : Hid (OwnB (w.alloc (.cells #[] 5)) w.heap.size (.slice (some ⟨w.heap.size, 0, none⟩) 0 0) []) := Lib.hid (made_none w)
  have D0 := Lib.hid (Cmd.below_one w (.cells #[] 5))
  have HL : Hid (([] : List UInt8).length + zs.length ≤ 1000000) := Lib.hid (by rw [List.length_nil]; omega)
  have HRow : Hid (∀ W, Below w.heap.size w W → layB.Row W (.slice p zs.length cap) zs) := Lib.hid fun W hb => hrow.on hb
  have hsl := seal_len zs
  have hD := dg_lt zs
  have CO : Hid (∀ W, Below w.heap.size w W → Calls Try.prog 14 #[.slice p zs.length cap] W fun e w' => e = .returned (.int .u64 (dg zs : Nat)) ∧ W = w') := Lib.hid fun W hb => refof_any _ _ W (hrow.on hb)
  have CB : Hid (∀ W, Calls Try.prog 13 #[.int .u64 (dg zs)] W (GivesR (big (dg zs)) 8 W)) := Lib.hid fun W => (Wir.big_any _ W hD).mono fun e w' h => gives_row h rfl (big_len _)
  have HL2 : Hid (zs.length + (big (dg zs)).length ≤ 1000000) := Lib.hid (by rw [big_len]; omega)
  have hEX : zs ++ big (dg zs) = sealt zs := rfl
  obtain ⟨X, hX⟩ : ∃ X, sealt zs = X := ⟨_, rfl⟩
  rw [hX] at hsl hd hEX
  have HEX := Lib.hid hEX
  have hXl : X.length ≤ 3000 := by omega
  generalize big (dg zs) = bg at CB HL2 HEX hEX
  generalize dg zs = dk at CO CB
  clear hX hEX hsl
  have HLX : Hid (([] : List UInt8).length + X.length ≤ 1000000) := Lib.hid (by rw [List.length_nil]; omega)
  have HM : Hid (∀ W : World, OwnB (W.alloc (.cells #[] 5)) W.heap.size (.slice (some ⟨W.heap.size, 0, none⟩) 0 0) [] ∧ Below W.heap.size W (W.alloc (.cells #[] 5))) := Lib.hid fun W => ⟨made_none W, Cmd.below_one W _⟩
  have CD : Hid (∀ W V, layB.Row W V X → Calls Try.prog 10 #[V] W fun E w' => k ≠ 0 ∧ GivesNo k W E w') := Lib.hid fun W V hr => (decode_any V X W hr (by omega)).mono fun E w' h => h.fell hd
  have CR : Hid (∀ W V, layB.Row W V X → Calls Try.prog 15 #[V] W (GivesNo k W)) := Lib.hid fun W V hr => (ref_read V X W hr).mono fun E w' h => (h.fell hd).2
  have CS : Hid (∀ W p1 c1 p2 c2 p3 c3 p4 c4, RowAt W (.slice p1 0 c1) [] → layC.Row W (.slice p2 0 c2) [] → RowAt W (.slice p3 0 c3) [] → layC.Row W (.slice p4 0 c4) [] → Calls Try.prog 12 #[.agg #[.int .i64 0, .int .i64 0, .int .i64 0, .slice p1 0 c1, .slice p2 0 c2], .agg #[.int .i64 0, .int .i64 0, .int .i64 0, .slice p3 0 c3, .slice p4 0 c4]] W (RetBelow (.bool true) W)) := Lib.hid fun W p1 c1 p2 c2 p3 c3 p4 c4 r1 r2 r3 r4 => by
    have := refsame_r 0 0 0 (.slice p1 0 c1) (.slice p2 0 c2) 0 0 0 (.slice p3 0 c3) (.slice p4 0 c4) [] [] [] [] W r1 r2 r3 r4 (fun x hx => absurd hx (by simp)) (fun x hx => absurd hx (by simp))
    rw [rsame_nil] at this
    exact this
  clear hrow hl hd hXl hD
  go_enter Try.func4, Try.ntmps4
  go_wp2_with (first
    | (at_builtin; refine wp_rows rfl _ _ rfl w.heap.size _ [] rfl HO1.out D0.out.size (.slice p zs.length cap) zs rfl (HRow.out _ D0.out) HL.out ?_; intro u2 w2 HO2 HB2; have D2 := Lib.hid (D0.out.trans HB2.out))
    | (go_at_call 14; (with_reducible refine (CO.out _ D2.out).mono ?_); rintro e wx ⟨rfl, rfl⟩)
    | (go_at_call 13; (with_reducible refine (CB.out _).mono ?_); rintro e w3 ⟨pb, cb, rfl, hcb, hr, hb⟩; have RB := Lib.hid hr; have D3 := Lib.hid (D2.out.trans (hb.mono D2.out.size)); have O3 := Lib.hid (own_below HO2.out hb); clear hb hr hcb)
    | (at_builtin; refine wp_rows rfl _ _ rfl w.heap.size _ zs rfl O3.out D3.out.size (.slice pb 8 cb) bg rfl RB.out HL2.out ?_; intro u4 w4 HO4 HB4; have D4 := Lib.hid (D3.out.trans HB4.out); have OX : Hid (OwnB w4 w.heap.size u4 X) := Lib.hid (by rw [← HEX.out]; exact HO4.out); obtain ⟨px, cx, rfl, -, -⟩ := own_len OX.out; obtain ⟨m1, m2⟩ := HM.out w4; have M1 := Lib.hid m1; have M2 := Lib.hid m2; have RX := Lib.hid ((rowB OX.out).on m2); clear m1 m2)
    | (at_builtin; refine wp_rows rfl _ _ rfl w4.heap.size _ [] rfl M1.out M2.out.size (.slice px X.length cx) X rfl RX.out HLX.out ?_; intro u6 w6 HO6 HB6; have M6 := Lib.hid (M2.out.trans HB6.out); have R6 : Hid (layB.Row w6 u6 X) := Lib.hid (rowB HO6.out); have C6 := Lib.hid (CD.out _ _ R6.out))
    | (go_at_call 10; (with_reducible refine C6.out.mono ?_); rintro E7 w7 ⟨hk, p71, c71, p72, c72, rfl, r1, r2, hb⟩; have hk1 : ((k : Int) != 0) = true := (by rw [bne_iff_ne]; omega); have hk2 : ¬ (k : Int) = 0 := (by omega); have T1 := Lib.hid r1; have T2 := Lib.hid r2; have M7 := Lib.hid (M6.out.trans (hb.mono M6.out.size)); have A7 := Lib.hid (Cmd.below_one w7 (.cells #[.int .i64 0, .int .i64 0, .int .i64 0, .slice p71 0 c71, .slice p72 0 c72] 27)); have F7 := Lib.hid (Five.new w7 (.int .i64 0) (.int .i64 0) (.int .i64 0) (.slice p71 0 c71) (.slice p72 0 c72) 27); have M8 := Lib.hid (M7.out.trans (A7.out.mono M7.out.size)); have C8 := Lib.hid (CR.out _ _ ((rowB OX.out).on M8.out)); have lt7 : Hid (w7.heap.size < (w7.alloc (.cells #[.int .i64 0, .int .i64 0, .int .i64 0, .slice p71 0 c71, .slice p72 0 c72] 27)).heap.size) := Lib.hid (by simp); clear hb hk r1 r2)
    | (go_at_call 15; (with_reducible refine C8.out.mono ?_); rintro E9 w9 ⟨p91, c91, p92, c92, rfl, r1, r2, hb⟩; have A9 := Lib.hid (Cmd.below_one w9 (.cells #[.int .i64 0, .int .i64 0, .int .i64 0, .slice p91 0 c91, .slice p92 0 c92] 27)); have F9 := Lib.hid (Five.new w9 (.int .i64 0) (.int .i64 0) (.int .i64 0) (.slice p91 0 c91) (.slice p92 0 c92) 27); have N9 := Lib.hid (hb.trans (A9.out.mono hb.size)); have M9 := Lib.hid (M8.out.trans (N9.out.mono M8.out.size)); have F8 := Lib.hid (F7.out.same (N9.out.block _ lt7.out)); obtain ⟨x0, x1, x2, x3, x4⟩ := F8.out.cells; obtain ⟨y0, y1, y2, y3, y4⟩ := F9.out.cells; have C9 := Lib.hid (CS.out _ _ _ _ _ _ _ _ _ ((T1.out.on A7.out).on N9.out) ((T2.out.on A7.out).on N9.out) (r1.on A9.out) (r2.on A9.out)); clear hb r1 r2)
    | (go_at_call 12; (with_reducible refine C9.out.mono ?_); rintro E10 w10 ⟨rfl, hb⟩; have M10 := Lib.hid (M9.out.trans (hb.mono M9.out.size)); clear hb)
    | (go_at_call 6; (with_reducible refine (CW.out _).mono ?_); rintro E12 w12 ⟨rfl, hb⟩; have M12 := Lib.hid (M10.out.trans (hb.mono M10.out.size)); clear hb))
  go_ret
  exact ⟨rfl, D4.out.trans (M12.out.mono D4.out.size)⟩
set_option maxHeartbeats 16000000 in
set_option maxRecDepth 100000 in
theorem decodes_sealed_ok (v : Value) (zs : List UInt8) (w : World) (h : layB.Row w v zs) (hl : zs.length ≤ 2000) (a b q : Int) (ds : List Idn) (cs' : List Cmdn) (hd : dec (sealt zs) = .ok (a, b, q, ds, cs')) : Calls Try.prog 4 #[v, .bool true] w (RetBelow (.bool true) w) := by
  have hrow := h
  obtain ⟨p, cap, rfl, g1, g2, -⟩ := h
  have CW := Lib.hid cplay_any
  have h1 : ¬ (2000 : Int) < zs.length := by omega
  have h2 : decide ((2000 : Int) < zs.length) = false := decide_eq_false h1
  have HO1 : Hid (OwnB (w.alloc (.cells #[] 5)) w.heap.size (.slice (some ⟨w.heap.size, 0, none⟩) 0 0) []) := Lib.hid (made_none w)
  have D0 := Lib.hid (Cmd.below_one w (.cells #[] 5))
  have HL : Hid (([] : List UInt8).length + zs.length ≤ 1000000) := Lib.hid (by rw [List.length_nil]; omega)
  have HRow : Hid (∀ W, Below w.heap.size w W → layB.Row W (.slice p zs.length cap) zs) := Lib.hid fun W hb => hrow.on hb
  have hsl := seal_len zs
  have hD := dg_lt zs
  have CO : Hid (∀ W, Below w.heap.size w W → Calls Try.prog 14 #[.slice p zs.length cap] W fun e w' => e = .returned (.int .u64 (dg zs : Nat)) ∧ W = w') := Lib.hid fun W hb => refof_any _ _ W (hrow.on hb)
  have CB : Hid (∀ W, Calls Try.prog 13 #[.int .u64 (dg zs)] W (GivesR (big (dg zs)) 8 W)) := Lib.hid fun W => (Wir.big_any _ W hD).mono fun e w' h => gives_row h rfl (big_len _)
  have HL2 : Hid (zs.length + (big (dg zs)).length ≤ 1000000) := Lib.hid (by rw [big_len]; omega)
  have hEX : zs ++ big (dg zs) = sealt zs := rfl
  obtain ⟨X, hX⟩ : ∃ X, sealt zs = X := ⟨_, rfl⟩
  rw [hX] at hsl hd hEX
  have HEX := Lib.hid hEX
  have hXl : X.length ≤ 3000 := by omega
  generalize big (dg zs) = bg at CB HL2 HEX hEX
  generalize dg zs = dk at CO CB
  clear hX hEX hsl
  have HLX : Hid (([] : List UInt8).length + X.length ≤ 1000000) := Lib.hid (by rw [List.length_nil]; omega)
  have HM : Hid (∀ W : World, OwnB (W.alloc (.cells #[] 5)) W.heap.size (.slice (some ⟨W.heap.size, 0, none⟩) 0 0) [] ∧ Below W.heap.size W (W.alloc (.cells #[] 5))) := Lib.hid fun W => ⟨made_none W, Cmd.below_one W _⟩
  have CD : Hid (∀ W V, layB.Row W V X → Calls Try.prog 10 #[V] W (GivesRd a b q ds cs' W)) := Lib.hid fun W V hr => (decode_any V X W hr (by omega)).mono fun E w' h => h.took hd
  have CR : Hid (∀ W V, layB.Row W V X → Calls Try.prog 15 #[V] W (GivesRd a b q ds cs' W)) := Lib.hid fun W V hr => (ref_read V X W hr).mono fun E w' h => h.took hd
  have CS : Hid (∀ W p1 c1 p2 c2 cs1 p3 c3 p4 c4 cs2, cs1.map cmdC = cs' → GoodC cs1 → cs2.map cmdC = cs' → GoodC cs2 → RowAt W (.slice p1 ds.length c1) ds → layC.Row W (.slice p2 cs1.length c2) cs1 → RowAt W (.slice p3 ds.length c3) ds → layC.Row W (.slice p4 cs2.length c4) cs2 → Calls Try.prog 12 #[.agg #[.int .i64 a, .int .i64 b, .int .i64 q, .slice p1 ds.length c1, .slice p2 cs1.length c2], .agg #[.int .i64 a, .int .i64 b, .int .i64 q, .slice p3 ds.length c3, .slice p4 cs2.length c4]] W (RetBelow (.bool true) W)) := Lib.hid fun W p1 c1 p2 c2 cs1 p3 c3 p4 c4 cs2 e1 g1 e2 g2 r1 r2 r3 r4 => by
    have := refsame_r a b q (.slice p1 ds.length c1) (.slice p2 cs1.length c2) a b q (.slice p3 ds.length c3) (.slice p4 cs2.length c4) ds ds cs1 cs2 W r1 r2 r3 r4 (dec_has g1 (by rw [e1]; exact hd)).1 (dec_has g2 (by rw [e2]; exact hd)).1
    rw [rsame_cmdC (zero_good g1) (zero_good g2) (e1.trans e2.symm)] at this
    exact this
  obtain ⟨n, hn⟩ : ∃ n, X.length = n := ⟨_, rfl⟩
  have CE : Hid (∀ W p1 c1 p2 c2 cs1, cs1.map cmdC = cs' → GoodC cs1 → RowAt W (.slice p1 ds.length c1) ds → layC.Row W (.slice p2 cs1.length c2) cs1 → Calls Try.prog 7 #[.agg #[.int .i64 a, .int .i64 b, .int .i64 q, .slice p1 ds.length c1, .slice p2 cs1.length c2]] W (GivesEn X n W)) := Lib.hid fun W p1 c1 p2 c2 cs1 e1 g1 r1 r2 => by
    obtain ⟨k1, k2, k3⟩ := dec_has g1 (by rw [e1]; exact hd)
    have h0 : 0 < n := by have := seal_len (recB a b q ds cs1); rw [k3] at this; omega
    exact enc_ok r1 r2 k1 k2 k3 hn h0
  clear hrow hl hd hXl hD hn
  go_enter Try.func4, Try.ntmps4
  go_wp2_with (first
    | (at_builtin; refine wp_rows rfl _ _ rfl w.heap.size _ [] rfl HO1.out D0.out.size (.slice p zs.length cap) zs rfl (HRow.out _ D0.out) HL.out ?_; intro u2 w2 HO2 HB2; have D2 := Lib.hid (D0.out.trans HB2.out))
    | (go_at_call 14; (with_reducible refine (CO.out _ D2.out).mono ?_); rintro e wx ⟨rfl, rfl⟩)
    | (go_at_call 13; (with_reducible refine (CB.out _).mono ?_); rintro e w3 ⟨pb, cb, rfl, hcb, hr, hb⟩; have RB := Lib.hid hr; have D3 := Lib.hid (D2.out.trans (hb.mono D2.out.size)); have O3 := Lib.hid (own_below HO2.out hb); clear hb hr hcb)
    | (at_builtin; refine wp_rows rfl _ _ rfl w.heap.size _ zs rfl O3.out D3.out.size (.slice pb 8 cb) bg rfl RB.out HL2.out ?_; intro u4 w4 HO4 HB4; have D4 := Lib.hid (D3.out.trans HB4.out); have OX : Hid (OwnB w4 w.heap.size u4 X) := Lib.hid (by rw [← HEX.out]; exact HO4.out); obtain ⟨px, cx, rfl, -, -⟩ := own_len OX.out; obtain ⟨m1, m2⟩ := HM.out w4; have M1 := Lib.hid m1; have M2 := Lib.hid m2; have RX := Lib.hid ((rowB OX.out).on m2); clear m1 m2)
    | (at_builtin; refine wp_rows rfl _ _ rfl w4.heap.size _ [] rfl M1.out M2.out.size (.slice px X.length cx) X rfl RX.out HLX.out ?_; intro u6 w6 HO6 HB6; have M6 := Lib.hid (M2.out.trans HB6.out); have R6 : Hid (layB.Row w6 u6 X) := Lib.hid (rowB HO6.out); have C6 := Lib.hid (CD.out _ _ R6.out))
    | (go_at_call 10; (with_reducible refine C6.out.mono ?_); rintro E7 w7 ⟨p71, c71, p72, c72, cs1, rfl, hm, hg, r1, r2, hb⟩; have HM1 := Lib.hid hm; have HG1 := Lib.hid hg; have T1 := Lib.hid r1; have T2 := Lib.hid r2; have M7 := Lib.hid (M6.out.trans (hb.mono M6.out.size)); have A7 := Lib.hid (Cmd.below_one w7 (.cells #[.int .i64 a, .int .i64 b, .int .i64 q, .slice p71 ds.length c71, .slice p72 cs1.length c72] 27)); have F7 := Lib.hid (Five.new w7 (.int .i64 a) (.int .i64 b) (.int .i64 q) (.slice p71 ds.length c71) (.slice p72 cs1.length c72) 27); have M8 := Lib.hid (M7.out.trans (A7.out.mono M7.out.size)); have C8 := Lib.hid (CR.out _ _ ((rowB OX.out).on M8.out)); have lt7 : Hid (w7.heap.size < (w7.alloc (.cells #[.int .i64 a, .int .i64 b, .int .i64 q, .slice p71 ds.length c71, .slice p72 cs1.length c72] 27)).heap.size) := Lib.hid (by simp); clear hb hm hg r1 r2)
    | (go_at_call 15; (with_reducible refine C8.out.mono ?_); rintro E9 w9 ⟨p91, c91, p92, c92, cs2, rfl, hm, hg, r1, r2, hb⟩; have A9 := Lib.hid (Cmd.below_one w9 (.cells #[.int .i64 a, .int .i64 b, .int .i64 q, .slice p91 ds.length c91, .slice p92 cs2.length c92] 27)); have F9 := Lib.hid (Five.new w9 (.int .i64 a) (.int .i64 b) (.int .i64 q) (.slice p91 ds.length c91) (.slice p92 cs2.length c92) 27); have N9 := Lib.hid (hb.trans (A9.out.mono hb.size)); have M9 := Lib.hid (M8.out.trans (N9.out.mono M8.out.size)); have F8 := Lib.hid (F7.out.same (N9.out.block _ lt7.out)); obtain ⟨x0, x1, x2, x3, x4⟩ := F8.out.cells; obtain ⟨y0, y1, y2, y3, y4⟩ := F9.out.cells; have C9 := Lib.hid (CS.out _ _ _ _ _ _ _ _ _ _ _ HM1.out HG1.out hm hg ((T1.out.on A7.out).on N9.out) ((T2.out.on A7.out).on N9.out) (r1.on A9.out) (r2.on A9.out)); have T3 := Lib.hid ((T1.out.on A7.out).on N9.out); have T4 := Lib.hid ((T2.out.on A7.out).on N9.out); clear hb hm hg r1 r2)
    | (go_at_call 12; (with_reducible refine C9.out.mono ?_); rintro E10 w10 ⟨rfl, hb⟩; have M10 := Lib.hid (M9.out.trans (hb.mono M9.out.size)); have lt9 := Lib.hid (Nat.lt_of_lt_of_le lt7.out N9.out.size); have F10 := Lib.hid (F8.out.same (hb.block _ lt9.out)); obtain ⟨a0, a1, a2, a3, a4⟩ := F10.out.cells; have C10 := Lib.hid (CE.out _ _ _ _ _ _ HM1.out HG1.out (T3.out.on hb) (T4.out.on hb)); clear hb)
    | (go_at_call 7; (with_reducible refine C10.out.mono ?_); rintro E11 w11 ⟨g11, cap11, rfl, ho, hc11, hb⟩; have M11 := Lib.hid (M10.out.trans (hb.mono M10.out.size)); have ht1 := text_run (rowB ho); have ht2 := text_run ((rowB OX.out).on M11.out); clear hb ho)
    | (go_at_call 6; (with_reducible refine (CW.out _).mono ?_); rintro E12 w12 ⟨rfl, hb⟩; have M12 := Lib.hid (M11.out.trans (hb.mono M11.out.size)); clear hb))
  go_ret
  exact ⟨rfl, D4.out.trans (M12.out.mono D4.out.size)⟩
end Go.Proofs.Ytapjjeffegnflaa.Cod
