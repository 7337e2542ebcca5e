/- The statement's function CompsTells of layer 17 (comps): it returns true, whatever way graphs are kept (under Graphs and Comps) and where the play returns true. Conditions: the records lie in memory as their cells say; numbers' words of 64 bits; texts of a length that Go reads. -/
import Derived.Test.YthcejcffnjhomaaGreatCpsW
namespace Go.Proofs.YthcejcffnjhomaaGreat.Cps
open Go.RowKit Cmd Bat Ids Rec Wid Gra Rea
set_option linter.unusedVariables false
set_option linter.unusedSimpArgs false

set_option maxRecDepth 100000 in
theorem ctell_few (CP : ∀ w, Calls Tryz.prog 8 #[] w (RetBelow (.bool true) w)) (v : Value) (rs : List Rcd) (w : World) (h : layG.Row w v rs) (hl : fewG rs 14 = false) : Calls Tryz.prog 3 #[v] w (RetBelow (.bool true) w) := by
  have HP := Lib.hid CP
  have CF : Hid (Calls Tryz.prog 6 #[v, .int .i64 14] w (RetBelow (.bool false) w)) := Lib.hid (by have := few_any v rs 14 (by decide) w h; rw [hl] at this; exact this)
  clear h hl CP
  go_enter Tryz.func3, Tryz.ntmps3
  go_wp2_with (first
    | (go_at_call 6; ((with_reducible refine CF.out.mono ?_); rintro E w1 ⟨rfl, hb⟩; have B1 := Lib.hid hb; clear hb))
    | (go_at_call 8; ((with_reducible refine (HP.out _).mono ?_); rintro E w2 ⟨rfl, hb⟩; have B2 := Lib.hid (B1.out.trans (hb.mono B1.out.size)); clear hb)))
  go_ret
  exact ⟨rfl, B2.out⟩
set_option maxRecDepth 100000 in
theorem ctell_bad (CP : ∀ w, Calls Tryz.prog 8 #[] w (RetBelow (.bool true) w)) (v : Value) (rs : List Rcd) (w : World) (h : layG.Row w v rs) (hw : ∀ x ∈ rs, wfG x) (hl : fewG rs 14 = true) (he : gErr rs ≠ 0) : Calls Tryz.prog 3 #[v] w (RetBelow (.bool true) w) := by
  have HP := Lib.hid CP
  have CF : Hid (Calls Tryz.prog 6 #[v, .int .i64 14] w (RetBelow (.bool true) w)) := Lib.hid (by have := few_any v rs 14 (by decide) w h; rw [hl] at this; exact this)
  have CC := Lib.hid (fun W (hb : Below w.heap.size w W) => refgerr_any v rs W (h.on hb) hw)
  generalize gErr rs = e at CC he
  have q2 : (e != (0 : Int)) = true := by rw [bne, beq_eq_false_iff_ne.2 he]; rfl
  clear h hl CP hw
  go_enter Tryz.func3, Tryz.ntmps3
  go_wp2_with (first
    | (go_at_call 6; ((with_reducible refine CF.out.mono ?_); rintro E w1 ⟨rfl, hb⟩; have B1 := Lib.hid hb; have C1 := Lib.hid (CC.out w1 hb); clear hb))
    | (go_at_call 7; ((with_reducible refine C1.out.mono ?_); rintro E w2 ⟨rfl, hb⟩; have B2 := Lib.hid (B1.out.trans (hb.mono B1.out.size)); clear hb))
    | (go_at_call 8; ((with_reducible refine (HP.out _).mono ?_); rintro E w3 ⟨rfl, hb⟩; have B3 := Lib.hid (B2.out.trans (hb.mono B2.out.size)); clear hb)))
  go_ret
  exact ⟨rfl, B3.out⟩
theorem row_zeroL {w : World} {v : Value} (h : layLL.Row w v []) : ∃ p cap, v = .slice p 0 cap := by obtain ⟨p, cap, e, _⟩ := h; exact ⟨p, cap, e⟩
set_option maxRecDepth 100000 in
set_option maxHeartbeats 16000000 in
theorem ctell_ok {G : Nat → Nat → List Rcd → World → Prop} (HG : Graphs G) (RG : Comps G) (CP : ∀ w, Calls Tryz.prog 8 #[] w (RetBelow (.bool true) w)) (v : Value) (rs : List Rcd) (w : World) (h : layG.Row w v rs) (hw : ∀ x ∈ rs, wfG x) (hl : fewG rs 14 = true) (he : gErr rs = 0) : Calls Tryz.prog 3 #[v] w (RetBelow (.bool true) w) := by
  obtain ⟨hd, hr⟩ := cdeps_few hl
  have HP := Lib.hid CP
  have CF : Hid (Calls Tryz.prog 6 #[v, .int .i64 14] w (RetBelow (.bool true) w)) := Lib.hid (by have := few_any v rs 14 (by decide) w h; rw [hl] at this; exact this)
  have CC := Lib.hid (fun W (hb : Below w.heap.size w W) => refgerr_any v rs W (h.on hb) hw)
  rw [he] at CC
  have CN := Lib.hid (fun W (hb : Below w.heap.size w W) => cnew_ok HG (h.on hb) (clot_few hw hl (by omega)) he)
  have HK := Lib.hid HG
  have HR := Lib.hid RG
  have RO := Lib.hid (fun W (hb : Below w.heap.size w W) => refof_any v rs W (h.on hb) (by omega) (by omega))
  have HOL : Hid ((ofG rs).length ≤ 1000000) := Lib.hid (by have h1 := ofL_len rs (allR rs) (allR rs).length; have h2 := allR_len rs; unfold ofG; omega)
  clear h hw hl he hd hr CP
  go_enter Tryz.func3, Tryz.ntmps3
  go_wp2_with (first
    | (go_at_call 6; ((with_reducible refine CF.out.mono ?_); rintro E w1 ⟨rfl, hb⟩; have B1 := Lib.hid hb; have C1 := Lib.hid (CC.out w1 hb); clear hb))
    | (go_at_call 7; ((with_reducible refine C1.out.mono ?_); rintro E w2 ⟨rfl, hb⟩; have B2 := Lib.hid (B1.out.trans (hb.mono B1.out.size)); have N2 := Lib.hid (CN.out w2 B2.out); clear hb))
    | (go_at_call 9; ((with_reducible refine N2.out.mono ?_); rintro E w3 ⟨g, rfl, hg, hb⟩; have B3 := Lib.hid (B2.out.trans (hb.mono B2.out.size)); have K3 := Lib.hid (HR.out.of_ hg); clear hb hg))
    | (go_at_call 11; ((with_reducible refine K3.out.mono ?_); rintro E w4 ⟨c, rfl, hr, hb⟩; have B4 := Lib.hid (B3.out.trans (hb.mono B3.out.size)); have R4 := Lib.hid hr; have F4 := Lib.hid (RO.out w4 B4.out); clear hb hr K3))
    | (go_at_call 12; ((with_reducible refine F4.out.mono ?_); rintro E w5 ⟨d, rfl, hr, hb⟩; have B5 := Lib.hid (B4.out.trans (hb.mono B4.out.size)); have S5 := Lib.hid (refsamell_any _ _ _ _ _ (R4.out.on hb) hr HOL.out); rw [decide_eq_true rfl] at S5; clear hb hr))
    | (go_at_call 10; ((with_reducible refine S5.out.mono ?_); rintro E w6 ⟨rfl, hb⟩; have B6 := Lib.hid (B5.out.trans (hb.mono B5.out.size)); clear hb S5))
    | (go_at_call 11; ((with_reducible refine (HR.out.nof _).mono ?_); rintro E w7 ⟨c7, rfl, hr, hb⟩; obtain ⟨p7, k7, rfl⟩ := row_zeroL hr; have B7 := Lib.hid (B6.out.trans (hb.mono B6.out.size)); clear hb hr))
    | (go_at_call 8; ((with_reducible refine (HP.out _).mono ?_); rintro E w8 ⟨rfl, hb⟩; have B8 := Lib.hid (B7.out.trans (hb.mono B7.out.size)); clear hb)))
  go_ret
  exact ⟨rfl, B8.out⟩
theorem ctells_any {G : Nat → Nat → List Rcd → World → Prop} (HG : Graphs G) (RG : Comps G) (CP : ∀ w, Calls Tryz.prog 8 #[] w (RetBelow (.bool true) w)) (v : Value) (rs : List Rcd) (w : World) (h : layG.Row w v rs) (hw : ∀ x ∈ rs, wfG x) : Calls Tryz.prog 3 #[v] w (RetBelow (.bool true) w) := by
  cases hl : fewG rs 14 with
  | false => exact ctell_few CP v rs w h hl
  | true =>
    by_cases he : gErr rs = 0
    · exact ctell_ok HG RG CP v rs w h hw hl he
    · exact ctell_bad CP v rs w h hw hl he
end Go.Proofs.YthcejcffnjhomaaGreat.Cps
