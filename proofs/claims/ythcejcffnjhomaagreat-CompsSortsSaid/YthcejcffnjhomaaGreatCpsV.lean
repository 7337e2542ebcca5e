/- The statement's function CompsSorts of layer 17 (comps): it returns true, whatever way graphs are kept (under Graphs and Comps) and where the play returns true. Conditions: the records, the ids and the lists of ids lie in memory as their cells say; numbers' words of 64 bits; texts of a length that Go reads. -/
import Derived.Test.YthcejcffnjhomaaGreatCpsW
namespace Go.Proofs.YthcejcffnjhomaaGreat.Cps
open Go.RowKit Cmd Bat Ids Rec Wid Gra Rea
set_option linter.unusedVariables false
set_option linter.unusedSimpArgs false

set_option maxRecDepth 100000 in
theorem csort_few (CP : ∀ w, Calls Tryz.prog 8 #[] w (RetBelow (.bool true) w)) (v : Value) (p : Option Addr) (m cap : Nat) (px : Option Addr) (mx cx : Nat) (rs : List Rcd) (w : World) (h : layG.Row w v rs) (hl : fewG rs 14 = false) : Calls Tryz.prog 4 #[v, .slice p m cap, .slice px mx cx] w (RetBelow (.bool true) w) := by
  have HP := Lib.hid CP
  have CF : Hid (Calls Tryz.prog 6 #[v, .int .i64 14] w (RetBelow (.bool false) w)) := Lib.hid (by have := few_any v rs 14 (by decide) w h; rw [hl] at this; exact this)
  clear h hl CP
  go_enter Tryz.func4, Tryz.ntmps4
  go_wp2_with (first
    | (go_at_call 6; ((with_reducible refine CF.out.mono ?_); rintro E w1 ⟨rfl, hb⟩; have B1 := Lib.hid hb; clear hb))
    | (go_at_call 8; ((with_reducible refine (HP.out _).mono ?_); rintro E w2 ⟨rfl, hb⟩; have B2 := Lib.hid (B1.out.trans (hb.mono B1.out.size)); clear hb)))
  go_ret
  exact ⟨rfl, B2.out⟩
set_option maxRecDepth 100000 in
theorem csort_long (CP : ∀ w, Calls Tryz.prog 8 #[] w (RetBelow (.bool true) w)) (v : Value) (p : Option Addr) (m cap : Nat) (px : Option Addr) (mx cx : Nat) (rs : List Rcd) (w : World) (h : layG.Row w v rs) (hl : fewG rs 14 = true) (hm : 20 < m) : Calls Tryz.prog 4 #[v, .slice p m cap, .slice px mx cx] w (RetBelow (.bool true) w) := by
  have HP := Lib.hid CP
  have CF : Hid (Calls Tryz.prog 6 #[v, .int .i64 14] w (RetBelow (.bool true) w)) := Lib.hid (by have := few_any v rs 14 (by decide) w h; rw [hl] at this; exact this)
  have q1 : decide ((20 : Int) < m) = true := decide_eq_true (by omega)
  clear h hl CP
  go_enter Tryz.func4, Tryz.ntmps4
  go_wp2_with (first
    | (go_at_call 6; ((with_reducible refine CF.out.mono ?_); rintro E w1 ⟨rfl, hb⟩; have B1 := Lib.hid hb; clear hb))
    | (go_at_call 8; ((with_reducible refine (HP.out _).mono ?_); rintro E w2 ⟨rfl, hb⟩; have B2 := Lib.hid (B1.out.trans (hb.mono B1.out.size)); clear hb)))
  go_ret
  exact ⟨rfl, B2.out⟩
set_option maxRecDepth 100000 in
theorem csort_wide (CP : ∀ w, Calls Tryz.prog 8 #[] w (RetBelow (.bool true) w)) (v : Value) (p : Option Addr) (m cap : Nat) (px : Option Addr) (mx cx : Nat) (rs : List Rcd) (w : World) (h : layG.Row w v rs) (hl : fewG rs 14 = true) (hm : ¬ 20 < m) (hx : 20 < mx) : Calls Tryz.prog 4 #[v, .slice p m cap, .slice px mx cx] w (RetBelow (.bool true) w) := by
  have HP := Lib.hid CP
  have CF : Hid (Calls Tryz.prog 6 #[v, .int .i64 14] w (RetBelow (.bool true) w)) := Lib.hid (by have := few_any v rs 14 (by decide) w h; rw [hl] at this; exact this)
  have q1 : decide ((20 : Int) < m) = false := decide_eq_false (by omega)
  have q3 : decide ((20 : Int) < mx) = true := decide_eq_true (by omega)
  clear h hl CP
  go_enter Tryz.func4, Tryz.ntmps4
  go_wp2_with (first
    | (go_at_call 6; ((with_reducible refine CF.out.mono ?_); rintro E w1 ⟨rfl, hb⟩; have B1 := Lib.hid hb; clear hb))
    | (go_at_call 8; ((with_reducible refine (HP.out _).mono ?_); rintro E w2 ⟨rfl, hb⟩; have B2 := Lib.hid (B1.out.trans (hb.mono B1.out.size)); clear hb)))
  go_ret
  exact ⟨rfl, B2.out⟩
set_option maxRecDepth 100000 in
theorem csort_bad (CP : ∀ w, Calls Tryz.prog 8 #[] w (RetBelow (.bool true) w)) (v : Value) (p : Option Addr) (m cap : Nat) (px : Option Addr) (mx cx : Nat) (rs : List Rcd) (w : World) (h : layG.Row w v rs) (hw : ∀ x ∈ rs, wfG x) (hl : fewG rs 14 = true) (hm : ¬ 20 < m) (hx : ¬ 20 < mx) (he : gErr rs ≠ 0) : Calls Tryz.prog 4 #[v, .slice p m cap, .slice px mx cx] w (RetBelow (.bool true) w) := by
  have HP := Lib.hid CP
  have CF : Hid (Calls Tryz.prog 6 #[v, .int .i64 14] w (RetBelow (.bool true) w)) := Lib.hid (by have := few_any v rs 14 (by decide) w h; rw [hl] at this; exact this)
  have CC := Lib.hid (fun W (hb : Below w.heap.size w W) => refgerr_any v rs W (h.on hb) hw)
  have q1 : decide ((20 : Int) < m) = false := decide_eq_false (by omega)
  have q3 : decide ((20 : Int) < mx) = false := decide_eq_false (by omega)
  generalize gErr rs = e at CC he
  have q2 : (e != (0 : Int)) = true := by rw [bne, beq_eq_false_iff_ne.2 he]; rfl
  clear h hl CP hw
  go_enter Tryz.func4, Tryz.ntmps4
  go_wp2_with (first
    | (go_at_call 6; ((with_reducible refine CF.out.mono ?_); rintro E w1 ⟨rfl, hb⟩; have B1 := Lib.hid hb; have C1 := Lib.hid (CC.out w1 hb); clear hb))
    | (go_at_call 7; ((with_reducible refine C1.out.mono ?_); rintro E w2 ⟨rfl, hb⟩; have B2 := Lib.hid (B1.out.trans (hb.mono B1.out.size)); clear hb))
    | (go_at_call 8; ((with_reducible refine (HP.out _).mono ?_); rintro E w3 ⟨rfl, hb⟩; have B3 := Lib.hid (B2.out.trans (hb.mono B2.out.size)); clear hb)))
  go_ret
  exact ⟨rfl, B3.out⟩
set_option maxRecDepth 100000 in
set_option maxHeartbeats 16000000 in
theorem csort_ok {G : Nat → Nat → List Rcd → World → Prop} (HG : Graphs G) (RG : Comps G) (CP : ∀ w, Calls Tryz.prog 8 #[] w (RetBelow (.bool true) w)) (v : Value) (p : Option Addr) (m cap : Nat) (px : Option Addr) (mx cx : Nat) (rs : List Rcd) (zs : List Idn) (xs : List (List Idn)) (w : World) (h : layG.Row w v rs) (hw : ∀ x ∈ rs, wfG x) (hs : RowAt w (.slice p m cap) zs) (hsw : ∀ z ∈ zs, wfId z) (hx : layLL.Row w (.slice px mx cx) xs) (hxw : ∀ c ∈ xs, ∀ z ∈ c, wfId z) (hl : fewG rs 14 = true) (hm : ¬ 20 < m) (hmx : ¬ 20 < mx) (he : gErr rs = 0) : Calls Tryz.prog 4 #[v, .slice p m cap, .slice px mx cx] w (RetBelow (.bool true) w) := by
  obtain ⟨hd, hr⟩ := cdeps_few hl
  have HP := Lib.hid CP
  have CF : Hid (Calls Tryz.prog 6 #[v, .int .i64 14] w (RetBelow (.bool true) w)) := Lib.hid (by have := few_any v rs 14 (by decide) w h; rw [hl] at this; exact this)
  have CC := Lib.hid (fun W (hb : Below w.heap.size w W) => refgerr_any v rs W (h.on hb) hw)
  rw [he] at CC
  have CN := Lib.hid (fun W (hb : Below w.heap.size w W) => cnew_ok HG (h.on hb) (clot_few hw hl (by omega)) he)
  have HK := Lib.hid HG
  have HR := Lib.hid RG
  obtain ⟨p', c', e, hms, hds⟩ := Rec.RowAt.parts hs
  have em : m = zs.length := by injection e
  have ep : p = p' := by injection e
  subst ep
  obtain ⟨p'', c'', e', -, -⟩ := hx.parts
  have emx : mx = xs.length := by injection e'
  have HZL : Hid (m = zs.length) := Lib.hid em
  have HXL : Hid (mx = xs.length) := Lib.hid emx
  have HM20 : m ≤ 20 := by omega
  have HX20 : mx ≤ 20 := by omega
  have HSR := Lib.hid hs
  have HXR := Lib.hid hx
  have HSW := Lib.hid hsw
  have HXW := Lib.hid hxw
  have RSo := Lib.hid (fun W (hb : Below w.heap.size w W) => refsortr_any v (.slice p m cap) rs zs W (h.on hb) (hs.on hb) (by omega))
  have HMu := Lib.hid (fun W (hb : Below w.heap.size w W) a b c d => refmut_any v rs a b c d W (h.on hb) (by omega))
  have HAt := Lib.hid (fun W (hb : Below w.heap.size w W) a b => refat_any (.slice px mx cx) xs a b W (hx.on hb) (by omega))
  have HCM := Lib.hid (fun W (hb : Below w.heap.size w W) a b (hab : wfId (a, b)) => RG.at_ W (.slice px mx cx) xs a b (hx.on hb) (by omega) hxw hab)
  have SP : Hid (m = 0 ∨ ∃ B off, p = some ⟨B, off, none⟩ ∧ Hid (Row2 w B off zs)) := Lib.hid (by rw [em]; exact hds)
  have q1 : decide ((20 : Int) < m) = false := decide_eq_false (by omega)
  have q3 : decide ((20 : Int) < mx) = false := decide_eq_false (by omega)
  clear h hw hl he hd hr CP e e' hms hds em emx hs hx hsw hxw
  go_enter Tryz.func4, Tryz.ntmps4
  go_wp2_with (first
    | (go_at_call 6; ((with_reducible refine CF.out.mono ?_); rintro E w1 ⟨rfl, hb⟩; have B1 := Lib.hid hb; have C1 := Lib.hid (CC.out w1 hb); clear hb))
    | (go_at_call 7; ((with_reducible refine C1.out.mono ?_); rintro E w2 ⟨rfl, hb⟩; have B2 := Lib.hid (B1.out.trans (hb.mono B1.out.size)); have N2 := Lib.hid (CN.out w2 B2.out); clear hb))
    | (go_at_call 9; ((with_reducible refine N2.out.mono ?_); rintro E w3 ⟨g, rfl, hg, hb⟩; have G3 := Lib.hid hg; have B3 := Lib.hid (B2.out.trans (hb.mono B2.out.size)); have K3 := Lib.hid (HR.out.sorted hg (.slice p m cap) zs (HSR.out.on B3.out) (by have := HZL.out; omega) HSW.out); clear hb hg))
    | (go_at_call 14; ((with_reducible refine K3.out.mono ?_); rintro E w4 ⟨c, rfl, hr, hb⟩; have G4 := Lib.hid (HK.out.on G3.out hb); have B4 := Lib.hid (B3.out.trans (hb.mono B3.out.size)); have R4 := Lib.hid hr; have F4 := Lib.hid (RSo.out w4 B4.out); clear hb hr K3))
    | (go_at_call 15; ((with_reducible refine F4.out.mono ?_); rintro E w5 ⟨d, rfl, hr, hb⟩; have hb' := hb.mono (HK.out.le G4.out); have G5 := Lib.hid (HK.out.on G4.out hb'); have B5 := Lib.hid (B4.out.trans (hb.mono B4.out.size)); have S5 := Lib.hid (Ids.same_any _ _ _ _ _ (R4.out.on hb) hr); rw [decide_eq_true rfl] at S5; clear hb hr hb'))
    | (go_at_call 13; ((with_reducible refine S5.out.mono ?_); rintro E w6 ⟨rfl, hb⟩; have hb' := hb.mono (HK.out.le G5.out); have G6 := Lib.hid (HK.out.on G5.out hb'); have B6 := Lib.hid (B5.out.trans (hb.mono B5.out.size)); clear hb hb' S5)))
  go_loopw [9] (fun i W => ∃ k : Nat, k ≤ m ∧ i = .int .i64 k ∧ Hid (Below w6.heap.size w6 W)) (fun i _ => m - (intOf i).toNat)
  case atStart => exact ⟨0, Nat.zero_le _, rfl, Lib.hid (Below.refl _ _)⟩
  case round =>
    obtain ⟨k, hk, rfl, hbb⟩ := hrel
    have k0 : (0 : Int) ≤ k := by omega
    have HWR := Lib.hid (B6.out.trans (hbb.out.mono B6.out.size))
    by_cases hkm : k < m
    · have km : (k : Int) < m := by omega
      have m0 : (0 : Int) < m := by omega
      have mn : 0 < m := by omega
      obtain ⟨B, off, rfl, HC⟩ := SP.out.resolve_left (by omega)
      have hal : 0 < zs.length := by rw [← HZL.out]; omega
      have hbl : k < zs.length := by rw [← HZL.out]; exact hkm
      obtain ⟨⟨x1, y1⟩, hz1⟩ : ∃ z, nth zs 0 = z := ⟨_, rfl⟩
      obtain ⟨⟨x2, y2⟩, hz2⟩ : ∃ z, nth zs k = z := ⟨_, rfl⟩
      have f1 : wfId (x1, y1) := HSW.out _ (by rw [← hz1]; exact nth_in hal)
      have f2 : wfId (x2, y2) := HSW.out _ (by rw [← hz2]; exact nth_in hbl)
      have HX : Hid (∀ w', Below wr.heap.size wr w' → w'.cell? ⟨B, off, none⟩ = some (.int .i64 x1) ∧ w'.cell? ⟨B, off + 1, none⟩ = some (.int .i64 y1) ∧ w'.cell? ⟨B, off + k * 2, none⟩ = some (.int .i64 x2) ∧ w'.cell? ⟨B, off + k * 2 + 1, none⟩ = some (.int .i64 y2)) := Lib.hid (fun W hw => by
        have hro := HC.out.on (HWR.out.trans (hw.mono HWR.out.size))
        have o0 := hro.fst 0 hal
        have o1 := hro.snd 0 hal
        have o2 := hro.fst k hbl
        have o3 := hro.snd k hbl
        rw [hz1] at o0 o1
        rw [hz2] at o2 o3
        rw [Nat.zero_mul, Nat.add_zero] at o0 o1
        exact ⟨o0, o1, o2, o3⟩)
      have CA1 := Lib.hid (fun W (hw : Below wr.heap.size wr W) => HR.out.mut_ (HK.out.on G6.out ((hbb.out.trans (hw.mono hbb.out.size)).mono (HK.out.le G6.out))) x1 y1 x2 y2 f1 f2)
      have CA2 := Lib.hid (fun W (hw : Below wr.heap.size wr W) => HMu.out W (HWR.out.trans (hw.mono HWR.out.size)) x1 y1 x2 y2)
      have CA3 := Lib.hid (fun W (hw : Below wr.heap.size wr W) => HCM.out W (HWR.out.trans (hw.mono HWR.out.size)) x2 y2 f2)
      have CA4 := Lib.hid (fun W (hw : Below wr.heap.size wr W) => HAt.out W (HWR.out.trans (hw.mono HWR.out.size)) x2 y2)
      have E0 := Lib.hid (Below.refl wr.heap.size wr)
      generalize atL xs (x2, y2) = r at CA3 CA4
      generalize mutG rs (x1, y1) (x2, y2) = mu at CA1 CA2
      clear hz1 hz2 f1 f2 hal hbl
      cases mu with
      | true =>
        go_wp2_with fail
        go_region_held3 (fun w' => w'.cell? ⟨B, off, none⟩ = some (.int .i64 x1) ∧ w'.cell? ⟨B, off + 1, none⟩ = some (.int .i64 y1) ∧ w'.cell? ⟨B, off + k * 2, none⟩ = some (.int .i64 x2) ∧ w'.cell? ⟨B, off + k * 2 + 1, none⟩ = some (.int .i64 y2))
          (first
            | exact HX.out _ E4.out
            | exact HX.out _ E3.out
            | exact HX.out _ E2.out
            | exact HX.out _ E1.out
            | exact HX.out _ E0.out
            | exact HX.out _ E0.out.drew)
          (first
            | (go_at_call 16; (with_reducible refine (CA1.out _ E0.out.drew).mono ?_); rintro e z1 ⟨rfl, hb1⟩; have E1 := Lib.hid (E0.out.drew.trans (hb1.mono E0.out.drew.size)); clear hb1)
            | (go_at_call 17; (with_reducible refine (CA2.out _ E1.out).mono ?_); rintro e z2 ⟨rfl, hb2⟩; have E2 := Lib.hid (E1.out.trans (hb2.mono E1.out.size)); clear hb2)
            | (go_at_call 18; (with_reducible refine (CA3.out _ E2.out).mono ?_); rintro e z3 ⟨rfl, hb3⟩; have E3 := Lib.hid (E2.out.trans (hb3.mono E2.out.size)); clear hb3)
            | (go_at_call 19; (with_reducible refine (CA4.out _ E3.out).mono ?_); rintro e z4 ⟨rfl, hb4⟩; have E4 := Lib.hid (E3.out.trans (hb4.mono E3.out.size)); clear hb4))
        go_wp2
        go_roundw
        case rel => exact ⟨k + 1, by omega, by go_num, Lib.hid (hbb.out.trans (E4.out.mono hbb.out.size))⟩
        case measure => simp [intOf]; omega
      | false =>
        go_wp2_with fail
        go_region_held3 (fun w' => w'.cell? ⟨B, off, none⟩ = some (.int .i64 x1) ∧ w'.cell? ⟨B, off + 1, none⟩ = some (.int .i64 y1) ∧ w'.cell? ⟨B, off + k * 2, none⟩ = some (.int .i64 x2) ∧ w'.cell? ⟨B, off + k * 2 + 1, none⟩ = some (.int .i64 y2))
          (first
            | exact HX.out _ E4.out
            | exact HX.out _ E3.out
            | exact HX.out _ E2.out
            | exact HX.out _ E1.out
            | exact HX.out _ E0.out
            | exact HX.out _ E0.out.drew)
          (first
            | (go_at_call 16; (with_reducible refine (CA1.out _ E0.out.drew).mono ?_); rintro e z1 ⟨rfl, hb1⟩; have E1 := Lib.hid (E0.out.drew.trans (hb1.mono E0.out.drew.size)); clear hb1)
            | (go_at_call 17; (with_reducible refine (CA2.out _ E1.out).mono ?_); rintro e z2 ⟨rfl, hb2⟩; have E2 := Lib.hid (E1.out.trans (hb2.mono E1.out.size)); clear hb2)
            | (go_at_call 18; (with_reducible refine (CA3.out _ E2.out).mono ?_); rintro e z3 ⟨rfl, hb3⟩; have E3 := Lib.hid (E2.out.trans (hb3.mono E2.out.size)); clear hb3)
            | (go_at_call 19; (with_reducible refine (CA4.out _ E3.out).mono ?_); rintro e z4 ⟨rfl, hb4⟩; have E4 := Lib.hid (E3.out.trans (hb4.mono E3.out.size)); clear hb4))
        go_wp2
        go_roundw
        case rel => exact ⟨k + 1, by omega, by go_num, Lib.hid (hbb.out.trans (E4.out.mono hbb.out.size))⟩
        case measure => simp [intOf]; omega
    · have km : ¬ (k : Int) < m := by omega
      go_wp2_with (go_at_call 8; ((with_reducible refine (HP.out _).mono ?_); rintro E w8 ⟨rfl, hb8⟩; have B8 := Lib.hid (HWR.out.trans (hb8.mono HWR.out.size)); clear hb8))
      go_ret
      exact ⟨rfl, B8.out⟩
theorem csorts_any {G : Nat → Nat → List Rcd → World → Prop} (HG : Graphs G) (RG : Comps G) (CP : ∀ w, Calls Tryz.prog 8 #[] w (RetBelow (.bool true) w)) (v : Value) (p : Option Addr) (m cap : Nat) (px : Option Addr) (mx cx : Nat) (rs : List Rcd) (zs : List Idn) (xs : List (List Idn)) (w : World) (h : layG.Row w v rs) (hw : ∀ x ∈ rs, wfG x) (hs : RowAt w (.slice p m cap) zs) (hsw : ∀ z ∈ zs, wfId z) (hx : layLL.Row w (.slice px mx cx) xs) (hxw : ∀ c ∈ xs, ∀ z ∈ c, wfId z) : Calls Tryz.prog 4 #[v, .slice p m cap, .slice px mx cx] w (RetBelow (.bool true) w) := by
  cases hl : fewG rs 14 with
  | false => exact csort_few CP v p m cap px mx cx rs w h hl
  | true =>
    by_cases hm : 20 < m
    · exact csort_long CP v p m cap px mx cx rs w h hl hm
    · by_cases hmx : 20 < mx
      · exact csort_wide CP v p m cap px mx cx rs w h hl hm hmx
      · by_cases he : gErr rs = 0
        · exact csort_ok HG RG CP v p m cap px mx cx rs zs xs w h hw hs hsw hx hxw hl hm hmx he
        · exact csort_bad CP v p m cap px mx cx rs w h hw hl hm hmx he
end Go.Proofs.YthcejcffnjhomaaGreat.Cps
