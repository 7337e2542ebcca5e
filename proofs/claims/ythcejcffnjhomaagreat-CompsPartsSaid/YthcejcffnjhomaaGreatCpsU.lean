/- The statement's function CompsParts of layer 17 (comps): it returns true, whatever way graphs are kept (under Graphs and Comps) and where the play returns true. Conditions: the records lie in memory as their cells say; numbers' words of 64 bits; texts of a length that Go reads. -/
import Derived.Test.YthcejcffnjhomaaGreatCpsW
namespace Go.Proofs.YthcejcffnjhomaaGreat.Cps
open Go.RowKit Cmd Bat Ids Rec Wid Gra Rea
set_option linter.unusedVariables false
set_option linter.unusedSimpArgs false

theorem sum_step {L : List (List Idn)} {k : Nat} (h : k < L.length) : (L.take (k + 1)).flatten.length = (L.take k).flatten.length + (L.getD k []).length := by
  rw [List.take_add_one, List.getElem?_eq_getElem h, List.flatten_append, List.length_append, List.getD_eq_getElem?_getD, List.getElem?_eq_getElem h]
  simp
theorem sum_le {L : List (List Idn)} (k : Nat) : (L.take k).flatten.length ≤ L.flatten.length := by
  have h : (L.take k ++ L.drop k).flatten.length = L.flatten.length := by rw [List.take_append_drop]
  rw [List.flatten_append, List.length_append] at h; omega
set_option maxRecDepth 100000 in
theorem cpart_few (CP : ∀ w, Calls Tryz.prog 8 #[] w (RetBelow (.bool true) w)) (v : Value) (rs : List Rcd) (w : World) (h : layG.Row w v rs) (hl : fewG rs 14 = false) : Calls Tryz.prog 5 #[v] w (RetBelow (.bool true) w) := by
  have HP := Lib.hid CP
  have CF : Hid (Calls Tryz.prog 6 #[v, .int .i64 14] w (RetBelow (.bool false) w)) := Lib.hid (by have := few_any v rs 14 (by decide) w h; rw [hl] at this; exact this)
  clear h hl CP
  go_enter Tryz.func5, Tryz.ntmps5
  go_wp2_with (first
    | (go_at_call 6; ((with_reducible refine CF.out.mono ?_); rintro E w1 ⟨rfl, hb⟩; have B1 := Lib.hid hb; clear hb))
    | (go_at_call 8; ((with_reducible refine (HP.out _).mono ?_); rintro E w2 ⟨rfl, hb⟩; have B2 := Lib.hid (B1.out.trans (hb.mono B1.out.size)); clear hb)))
  go_ret
  exact ⟨rfl, B2.out⟩
set_option maxRecDepth 100000 in
theorem cpart_bad (CP : ∀ w, Calls Tryz.prog 8 #[] w (RetBelow (.bool true) w)) (v : Value) (rs : List Rcd) (w : World) (h : layG.Row w v rs) (hw : ∀ x ∈ rs, wfG x) (hl : fewG rs 14 = true) (he : gErr rs ≠ 0) : Calls Tryz.prog 5 #[v] w (RetBelow (.bool true) w) := by
  have HP := Lib.hid CP
  have CF : Hid (Calls Tryz.prog 6 #[v, .int .i64 14] w (RetBelow (.bool true) w)) := Lib.hid (by have := few_any v rs 14 (by decide) w h; rw [hl] at this; exact this)
  have CC := Lib.hid (fun W (hb : Below w.heap.size w W) => refgerr_any v rs W (h.on hb) hw)
  generalize gErr rs = e at CC he
  have q2 : (e != (0 : Int)) = true := by rw [bne, beq_eq_false_iff_ne.2 he]; rfl
  clear h hl CP hw
  go_enter Tryz.func5, Tryz.ntmps5
  go_wp2_with (first
    | (go_at_call 6; ((with_reducible refine CF.out.mono ?_); rintro E w1 ⟨rfl, hb⟩; have B1 := Lib.hid hb; have C1 := Lib.hid (CC.out w1 hb); clear hb))
    | (go_at_call 7; ((with_reducible refine C1.out.mono ?_); rintro E w2 ⟨rfl, hb⟩; have B2 := Lib.hid (B1.out.trans (hb.mono B1.out.size)); clear hb))
    | (go_at_call 8; ((with_reducible refine (HP.out _).mono ?_); rintro E w3 ⟨rfl, hb⟩; have B3 := Lib.hid (B2.out.trans (hb.mono B2.out.size)); clear hb)))
  go_ret
  exact ⟨rfl, B3.out⟩
set_option maxRecDepth 100000 in
set_option maxHeartbeats 16000000 in
theorem cpart_ok {G : Nat → Nat → List Rcd → World → Prop} (HG : Graphs G) (RG : Comps G) (CP : ∀ w, Calls Tryz.prog 8 #[] w (RetBelow (.bool true) w)) (v : Value) (rs : List Rcd) (w : World) (h : layG.Row w v rs) (hw : ∀ x ∈ rs, wfG x) (hl : fewG rs 14 = true) (he : gErr rs = 0) : Calls Tryz.prog 5 #[v] w (RetBelow (.bool true) w) := by
  obtain ⟨hd, hr⟩ := cdeps_few hl
  have HP := Lib.hid CP
  have CF : Hid (Calls Tryz.prog 6 #[v, .int .i64 14] w (RetBelow (.bool true) w)) := Lib.hid (by have := few_any v rs 14 (by decide) w h; rw [hl] at this; exact this)
  have CC := Lib.hid (fun W (hb : Below w.heap.size w W) => refgerr_any v rs W (h.on hb) hw)
  rw [he] at CC
  have CN := Lib.hid (fun W (hb : Below w.heap.size w W) => cnew_ok HG (h.on hb) (clot_few hw hl (by omega)) he)
  have HK := Lib.hid HG
  have HR := Lib.hid RG
  have RO := Lib.hid (fun W (hb : Below w.heap.size w W) => refclosed_any v rs W (h.on hb) (by omega) (by omega))
  have HMu := Lib.hid (fun W (hb : Below w.heap.size w W) a b c d => refmut_any v rs a b c d W (h.on hb) (by omega))
  have HOL : Hid ((ofG rs).length ≤ 14) := Lib.hid (by have h1 := ofL_len rs (allR rs) (allR rs).length; have h2 := allR_len rs; unfold ofG; omega)
  have HCL : Hid ((closedG rs).length ≤ 14) := Lib.hid (by have := closed_len rs; omega)
  have HSUM := Lib.hid (of_len rs)
  have HAT := Lib.hid (fun a b (ha : a ∈ closedG rs) (hb : b ∈ closedG rs) => of_at (rs := rs) ha hb)
  clear h hw hl he hd hr CP
  go_enter Tryz.func5, Tryz.ntmps5
  go_wp2_with (first
    | (go_at_call 6; ((with_reducible refine CF.out.mono ?_); rintro E w1 ⟨rfl, hb⟩; have B1 := Lib.hid hb; have C1 := Lib.hid (CC.out w1 hb); clear hb))
    | (go_at_call 7; ((with_reducible refine C1.out.mono ?_); rintro E w2 ⟨rfl, hb⟩; have B2 := Lib.hid (B1.out.trans (hb.mono B1.out.size)); have N2 := Lib.hid (CN.out w2 B2.out); clear hb))
    | (go_at_call 9; ((with_reducible refine N2.out.mono ?_); rintro E w3 ⟨g, rfl, hg, hb⟩; have B3 := Lib.hid (B2.out.trans (hb.mono B2.out.size)); have K3 := Lib.hid (HR.out.of_ hg); clear hb hg))
    | (go_at_call 11; ((with_reducible refine K3.out.mono ?_); rintro E w4 ⟨c, rfl, hr, hb⟩; have B4 := Lib.hid (B3.out.trans (hb.mono B3.out.size)); have R4 := Lib.hid hr; have F4 := Lib.hid (RO.out w4 B4.out); clear hb hr K3))
    | (go_at_call 20; ((with_reducible refine F4.out.mono ?_); rintro E w5 ⟨d, rfl, hr, hb⟩; have B5 := Lib.hid (B4.out.trans (hb.mono B4.out.size)); have R5 := Lib.hid (R4.out.on hb); have D5 := Lib.hid hr; clear hb hr F4 R4)))
  obtain ⟨p, cap, rfl, hq1, hcq⟩ := R5.out.parts
  obtain ⟨L, hL⟩ : ∃ L, L = ofG rs := ⟨_, rfl⟩
  obtain ⟨cl, hcl⟩ : ∃ cl, cl = closedG rs := ⟨_, rfl⟩
  rw [← hL] at R5 HOL HSUM HAT hq1 hcq ⊢
  rw [← hcl] at D5 HCL HSUM HAT
  obtain ⟨pc, kc, rfl, hm1, hcm⟩ := Rec.RowAt.parts D5.out
  obtain ⟨q, hq⟩ : ∃ q, q = L.length := ⟨_, rfl⟩
  obtain ⟨m, hm⟩ : ∃ m, m = cl.length := ⟨_, rfl⟩
  have HQ := Lib.hid hq
  have HM := Lib.hid hm
  rw [← hq] at R5 hq1 hcq ⊢
  rw [← hm] at D5 hm1 hcm ⊢
  clear hL hcl hq hm
  go_loopw [6, 8] (fun s i W => ∃ k : Nat, k ≤ q ∧ i = .int .i64 k ∧ s = .int .i64 ((L.take k).flatten.length : Int) ∧ Hid (Below w5.heap.size w5 W)) (fun _ i _ => q - (intOf i).toNat)
  case atStart => exact ⟨0, Nat.zero_le _, rfl, rfl, Lib.hid (Below.refl _ _)⟩
  case round =>
    obtain ⟨k, hk, rfl, rfl, hb⟩ := hrel
    have k0 : (0 : Int) ≤ k := by omega
    by_cases hkq : k < q
    · have kq : (k : Int) < q := by omega
      obtain ⟨B, off, rfl, HC⟩ := hcq.resolve_left (by omega)
      have hkl : k < L.length := by rw [← HQ.out]; exact hkq
      obtain ⟨p1, c1, e1, r1⟩ := llAt (HC.out.on hb.out) hkl
      have HS := Lib.hid (sum_step hkl)
      have hb14 : (L.take k).flatten.length + (L.getD k []).length ≤ 14 := by rw [← sum_step hkl]; have h1 := sum_le (L := L) (k + 1); have h2 := HSUM.out; have h3 := HCL.out; omega
      generalize (L.getD k []).length = s2 at e1 HS hb14
      generalize (L.take k).flatten.length = s1 at HS hb14
      clear hcq hcm r1 hkl
      go_wp2
      go_roundw
      case rel => exact ⟨k + 1, by omega, by go_num, by rw [HS.out]; go_num, hb⟩
      case measure => simp [intOf]; omega
    · have kq : ¬ (k : Int) < q := by omega
      have HE : Hid ((L.take k).flatten.length = m) := Lib.hid (by rw [List.take_of_length_le (by rw [← HQ.out]; omega), HSUM.out, HM.out])
      rw [HE.out]
      clear hkq hk k0
      go_wp2
      go_loopw [9] (fun i W => ∃ a : Nat, a ≤ m ∧ i = .int .i64 a ∧ Hid (Below w5.heap.size w5 W)) (fun i _ => m - (intOf i).toNat)
      case atStart => exact ⟨0, Nat.zero_le _, rfl, hb⟩
      case round =>
        obtain ⟨a, ha, rfl, hba⟩ := hrel
        have a0 : (0 : Int) ≤ a := by omega
        by_cases ham : a < m
        · have am : (a : Int) < m := by omega
          obtain ⟨B, off, rfl, HC⟩ := hcm.resolve_left (by omega)
          have hal : a < cl.length := by rw [← HM.out]; exact ham
          clear hcm hcq
          go_wp2
          go_loopw [10] (fun i W => ∃ b : Nat, b ≤ m ∧ i = .int .i64 b ∧ Hid (Below w5.heap.size w5 W)) (fun i _ => m - (intOf i).toNat)
          case atStart => exact ⟨0, Nat.zero_le _, rfl, hba⟩
          case round =>
            obtain ⟨b, hb', rfl, hbb⟩ := hrel
            have b0 : (0 : Int) ≤ b := by omega
            by_cases hbm : b < m
            · have bm : (b : Int) < m := by omega
              have hbl : b < cl.length := by rw [← HM.out]; exact hbm
              obtain ⟨⟨x1, y1⟩, hz1⟩ : ∃ z, nth cl a = z := ⟨_, rfl⟩
              obtain ⟨⟨x2, y2⟩, hz2⟩ : ∃ z, nth cl b = z := ⟨_, rfl⟩
              have m1 : (x1, y1) ∈ cl := by rw [← hz1]; exact nth_in hal
              have m2 : (x2, y2) ∈ cl := by rw [← hz2]; exact nth_in hbl
              have HX : Hid (∀ w', Below wr.heap.size wr w' → w'.cell? ⟨B, off + a * 2, none⟩ = some (.int .i64 x1) ∧ w'.cell? ⟨B, off + a * 2 + 1, none⟩ = some (.int .i64 y1) ∧ w'.cell? ⟨B, off + b * 2, none⟩ = some (.int .i64 x2) ∧ w'.cell? ⟨B, off + b * 2 + 1, none⟩ = some (.int .i64 y2)) := Lib.hid (fun W hw => by
                have hro := HC.out.on (hbb.out.trans (hw.mono hbb.out.size))
                have o0 := hro.fst a hal
                have o1 := hro.snd a hal
                have o2 := hro.fst b hbl
                have o3 := hro.snd b hbl
                rw [hz1] at o0 o1
                rw [hz2] at o2 o3
                exact ⟨o0, o1, o2, o3⟩)
              have hat := HAT.out _ _ m1 m2
              have CA1 := Lib.hid (fun W (hw : Below wr.heap.size wr W) => refat_any _ L x1 y1 W (R5.out.on (hbb.out.trans (hw.mono hbb.out.size))) (by have := HOL.out; omega))
              have CA2 := Lib.hid (fun W (hw : Below wr.heap.size wr W) => refat_any _ L x2 y2 W (R5.out.on (hbb.out.trans (hw.mono hbb.out.size))) (by have := HOL.out; omega))
              have CM := Lib.hid (fun W (hw : Below wr.heap.size wr W) => HMu.out W (B5.out.trans ((hbb.out.trans (hw.mono hbb.out.size)).mono B5.out.size)) x1 y1 x2 y2)
              have E0 := Lib.hid (Below.refl wr.heap.size wr)
              generalize atL L (x1, y1) = r1 at CA1 hat
              generalize atL L (x2, y2) = r2 at CA2 hat
              generalize mutG rs (x1, y1) (x2, y2) = mu at CM hat
              have gd : (r1 == r2) = mu := by rw [← hat]; rfl
              clear hz1 hz2 m1 m2 hal hbl
              cases mu with
              | true =>
                go_wp2_with fail
                go_region_held3 (fun w' => w'.cell? ⟨B, off + a * 2, none⟩ = some (.int .i64 x1) ∧ w'.cell? ⟨B, off + a * 2 + 1, none⟩ = some (.int .i64 y1) ∧ w'.cell? ⟨B, off + b * 2, none⟩ = some (.int .i64 x2) ∧ w'.cell? ⟨B, off + b * 2 + 1, none⟩ = some (.int .i64 y2))
                  (first
                    | exact HX.out _ E3.out
                    | exact HX.out _ E2.out
                    | exact HX.out _ E1.out
                    | exact HX.out _ E0.out
                    | exact HX.out _ E0.out.drew)
                  (first
                    | (go_at_call 19; (with_reducible refine (CA1.out _ E0.out.drew).mono ?_); rintro e z1 ⟨rfl, hb1⟩; have E1 := Lib.hid (E0.out.drew.trans (hb1.mono E0.out.drew.size)); clear hb1)
                    | (go_at_call 19; (with_reducible refine (CA2.out _ E1.out).mono ?_); rintro e z2 ⟨rfl, hb2⟩; have E2 := Lib.hid (E1.out.trans (hb2.mono E1.out.size)); clear hb2)
                    | (go_at_call 17; (with_reducible refine (CM.out _ E2.out).mono ?_); rintro e z3 ⟨rfl, hb3⟩; have E3 := Lib.hid (E2.out.trans (hb3.mono E2.out.size)); clear hb3))
                go_wp2
                go_roundw
                case rel => exact ⟨b + 1, by omega, by go_num, Lib.hid (hbb.out.trans (E3.out.mono hbb.out.size))⟩
                case measure => simp [intOf]; omega
              | false =>
                go_wp2_with fail
                go_region_held3 (fun w' => w'.cell? ⟨B, off + a * 2, none⟩ = some (.int .i64 x1) ∧ w'.cell? ⟨B, off + a * 2 + 1, none⟩ = some (.int .i64 y1) ∧ w'.cell? ⟨B, off + b * 2, none⟩ = some (.int .i64 x2) ∧ w'.cell? ⟨B, off + b * 2 + 1, none⟩ = some (.int .i64 y2))
                  (first
                    | exact HX.out _ E3.out
                    | exact HX.out _ E2.out
                    | exact HX.out _ E1.out
                    | exact HX.out _ E0.out
                    | exact HX.out _ E0.out.drew)
                  (first
                    | (go_at_call 19; (with_reducible refine (CA1.out _ E0.out.drew).mono ?_); rintro e z1 ⟨rfl, hb1⟩; have E1 := Lib.hid (E0.out.drew.trans (hb1.mono E0.out.drew.size)); clear hb1)
                    | (go_at_call 19; (with_reducible refine (CA2.out _ E1.out).mono ?_); rintro e z2 ⟨rfl, hb2⟩; have E2 := Lib.hid (E1.out.trans (hb2.mono E1.out.size)); clear hb2)
                    | (go_at_call 17; (with_reducible refine (CM.out _ E2.out).mono ?_); rintro e z3 ⟨rfl, hb3⟩; have E3 := Lib.hid (E2.out.trans (hb3.mono E2.out.size)); clear hb3))
                go_wp2
                go_roundw
                case rel => exact ⟨b + 1, by omega, by go_num, Lib.hid (hbb.out.trans (E3.out.mono hbb.out.size))⟩
                case measure => simp [intOf]; omega
            · have bm : ¬ (b : Int) < m := by omega
              go_wp2
              go_roundw
              case rel => exact ⟨a + 1, by omega, by go_num, hbb⟩
              case measure => simp [intOf]; omega
        · have am : ¬ (a : Int) < m := by omega
          have HBF := Lib.hid (B5.out.trans (hba.out.mono B5.out.size))
          clear hcm hcq
          go_wp2_with (go_at_call 8; ((with_reducible refine (HP.out _).mono ?_); rintro E w8 ⟨rfl, hb8⟩; have B8 := Lib.hid (HBF.out.trans (hb8.mono HBF.out.size)); clear hb8))
          go_ret
          exact ⟨rfl, B8.out⟩
theorem cparts_any {G : Nat → Nat → List Rcd → World → Prop} (HG : Graphs G) (RG : Comps G) (CP : ∀ w, Calls Tryz.prog 8 #[] w (RetBelow (.bool true) w)) (v : Value) (rs : List Rcd) (w : World) (h : layG.Row w v rs) (hw : ∀ x ∈ rs, wfG x) : Calls Tryz.prog 5 #[v] w (RetBelow (.bool true) w) := by
  cases hl : fewG rs 14 with
  | false => exact cpart_few CP v rs w h hl
  | true =>
    by_cases he : gErr rs = 0
    · exact cpart_ok HG RG CP v rs w h hw hl he
    · exact cpart_bad CP v rs w h hw hl he
end Go.Proofs.YthcejcffnjhomaaGreat.Cps
