/- The statement's function CanonOrders of layer 18 (canon): it returns true, whatever way graphs are kept (under Graphs and Canon) and where the play returns true. Conditions: the records lie in memory as their cells say; numbers' words of 64 bits; texts of a length that Go reads. -/
import Derived.Test.YtjokejcokgeeiaaGreatCanD
import Derived.Test.YtjokejcokgeeiaaGreatCpsW
namespace Go.Proofs.YtjokejcokgeeiaaGreat.Can
open Go.RowKit Cmd Bat Ids Rec Wid Gra Rea Cps
set_option linter.unusedVariables false
set_option linter.unusedSimpArgs false

/-- What canon has to give, whatever way graphs are kept. -/
structure Canon (G : Nat → Nat → List Rcd → World → Prop) : Prop where
  order : ∀ {N g : Nat} {rs : List Rcd} {W : World}, G N g rs W → Calls Tryz.prog 9 #[gptr g] W (GivesLL (orderG rs) W)
  flat : ∀ (W : World) (v : Value) (l : List (List Idn)), layLL.Row W v l → l.length ≤ 1000 → l.flatten.length ≤ 1000000 → (∀ c ∈ l, ∀ x ∈ c, wfId x) → Calls Tryz.prog 15 #[v] W (GivesRow l.flatten W)
  leads : ∀ {N g : Nat} {rs : List Rcd} {W : World}, G N g rs W → ∀ (v u : Value) (a b : List Idn), RowAt W v a → RowAt W u b → a.length ≤ 1000000 → b.length ≤ 1000000 → (∀ x ∈ a, wfId x) → (∀ x ∈ b, wfId x) → Calls Tryz.prog 17 #[gptr g, v, u] W (RetBelow (.bool (leadsG rs a b)) W)
  right : ∀ {N g : Nat} {rs : List Rcd} {W : World}, G N g rs W → ∀ (v : Value) (l : List (List Idn)), layLL.Row W v l → l.length ≤ 1000 → l.flatten.length ≤ 1000000 → (∀ c ∈ l, ∀ x ∈ c, wfId x) → Calls Tryz.prog 12 #[gptr g, v] W (RetBelow (.bool (rightG rs l)) W)
  norder : ∀ W : World, Calls Tryz.prog 9 #[.pointer none] W (GivesLL [] W)

theorem low_few {rs : List Rcd} (hl : fewG rs 12 = true) : (depsG rs).length ≤ 240 ∧ rs.length ≤ 12 := by
  have h := few_out hl
  have := cdeps_low (rs := rs) fun r hr => (h.2 r hr).1
  exact ⟨by omega, h.1⟩
theorem order_len (rs : List Rcd) : (orderG rs).length = (ofG rs).length := orderN_len rs _ _
theorem order_in {rs : List Rcd} {c : List Idn} (h : c ∈ orderG rs) : c ∈ ofG rs := by
  obtain ⟨i, hi, e⟩ := in_nthL h
  rw [← e]; exact (order_right rs i hi).1
theorem comp_wf {rs : List Rcd} (hw : ∀ x ∈ rs, wfG x) {c : List Idn} (hc : c ∈ ofG rs) : ∀ z ∈ c, wfId z := fun z hz => by
  have h : z ∈ idsG rs := closed_mem.1 (comp_mut hc hz hz).2 _ (.here _)
  unfold idsG at h
  obtain ⟨r, hr, e⟩ := List.mem_map.1 h
  rw [← e]; exact (hw r hr).1
set_option maxRecDepth 100000 in
theorem corder_few (CP : ∀ w, Calls Tryz.prog 7 #[] w (RetBelow (.bool true) w)) (v : Value) (rs : List Rcd) (w : World) (h : layG.Row w v rs) (hl : fewG rs 12 = false) : Calls Tryz.prog 3 #[v] w (RetBelow (.bool true) w) := by
  have HP := Lib.hid CP
  have CF : Hid (Calls Tryz.prog 5 #[v, .int .i64 12] w (RetBelow (.bool false) w)) := Lib.hid (by have := few_any v rs 12 (by decide) w h; rw [hl] at this; exact this)
  clear h hl CP
  go_enter Tryz.func3, Tryz.ntmps3
  go_wp2_with (first
    | (go_at_call 5; ((with_reducible refine CF.out.mono ?_); rintro E w1 ⟨rfl, hb⟩; have B1 := Lib.hid hb; clear hb))
    | (go_at_call 7; ((with_reducible refine (HP.out _).mono ?_); rintro E w2 ⟨rfl, hb⟩; have B2 := Lib.hid (B1.out.trans (hb.mono B1.out.size)); clear hb)))
  go_ret
  exact ⟨rfl, B2.out⟩
set_option maxRecDepth 100000 in
theorem corder_bad (CP : ∀ w, Calls Tryz.prog 7 #[] w (RetBelow (.bool true) w)) (v : Value) (rs : List Rcd) (w : World) (h : layG.Row w v rs) (hw : ∀ x ∈ rs, wfG x) (hl : fewG rs 12 = true) (he : gErr rs ≠ 0) : Calls Tryz.prog 3 #[v] w (RetBelow (.bool true) w) := by
  have HP := Lib.hid CP
  have CF : Hid (Calls Tryz.prog 5 #[v, .int .i64 12] w (RetBelow (.bool true) w)) := Lib.hid (by have := few_any v rs 12 (by decide) w h; rw [hl] at this; exact this)
  have CC := Lib.hid (fun W (hb : Below w.heap.size w W) => refgerr_any v rs W (h.on hb) hw)
  generalize gErr rs = e at CC he
  have q2 : (e != (0 : Int)) = true := by rw [bne, beq_eq_false_iff_ne.2 he]; rfl
  clear h hl CP hw
  go_enter Tryz.func3, Tryz.ntmps3
  go_wp2_with (first
    | (go_at_call 5; ((with_reducible refine CF.out.mono ?_); rintro E w1 ⟨rfl, hb⟩; have B1 := Lib.hid hb; have C1 := Lib.hid (CC.out w1 hb); clear hb))
    | (go_at_call 6; ((with_reducible refine C1.out.mono ?_); rintro E w2 ⟨rfl, hb⟩; have B2 := Lib.hid (B1.out.trans (hb.mono B1.out.size)); clear hb))
    | (go_at_call 7; ((with_reducible refine (HP.out _).mono ?_); rintro E w3 ⟨rfl, hb⟩; have B3 := Lib.hid (B2.out.trans (hb.mono B2.out.size)); clear hb)))
  go_ret
  exact ⟨rfl, B3.out⟩
set_option maxRecDepth 100000 in
set_option maxHeartbeats 16000000 in
theorem corder_ok {G : Nat → Nat → List Rcd → World → Prop} (HG : Graphs G) (RG : Canon G) (CP : ∀ w, Calls Tryz.prog 7 #[] w (RetBelow (.bool true) w)) (v : Value) (rs : List Rcd) (w : World) (h : layG.Row w v rs) (hw : ∀ x ∈ rs, wfG x) (hl : fewG rs 12 = true) (he : gErr rs = 0) : Calls Tryz.prog 3 #[v] w (RetBelow (.bool true) w) := by
  obtain ⟨hd, hr⟩ := low_few hl
  have HP := Lib.hid CP
  have CF : Hid (Calls Tryz.prog 5 #[v, .int .i64 12] w (RetBelow (.bool true) w)) := Lib.hid (by have := few_any v rs 12 (by decide) w h; rw [hl] at this; exact this)
  have CC := Lib.hid (fun W (hb : Below w.heap.size w W) => refgerr_any v rs W (h.on hb) hw)
  rw [he] at CC
  have CN := Lib.hid (fun W (hb : Below w.heap.size w W) => cnew_ok HG (h.on hb) (clot_few hw hl (by omega)) he)
  have HK := Lib.hid HG
  have HR := Lib.hid RG
  have RO := Lib.hid (fun W (hb : Below w.heap.size w W) => reforder_any v rs W (h.on hb) (by omega) (by omega))
  have HOL : Hid ((orderG rs).length ≤ 12) := Lib.hid (by rw [order_len]; have := of_count rs; omega)
  have HOW : Hid (∀ c ∈ orderG rs, ∀ z ∈ c, wfId z) := Lib.hid fun c hc => comp_wf hw (order_in hc)
  have HOF : Hid (∀ i, ((orderG rs).take i).flatten.length ≤ 1000000) := Lib.hid fun i => by
    have h1 := flat_few hr (l := (orderG rs).take i) fun c hc => order_in (List.mem_of_mem_take hc)
    have h2 : ((orderG rs).take i).length ≤ 12 := by rw [List.length_take]; have := HOL.out; omega
    have h3 := Nat.mul_le_mul_right 12 h2
    omega
  have HRT : Hid (∀ i, rightG rs ((orderG rs).take i) = true) := Lib.hid fun i => order_begin rs i
  clear h hw hl he hd hr CP
  go_enter Tryz.func3, Tryz.ntmps3
  go_wp2_with (first
    | (go_at_call 5; ((with_reducible refine CF.out.mono ?_); rintro E w1 ⟨rfl, hb⟩; have B1 := Lib.hid hb; have C1 := Lib.hid (CC.out w1 hb); clear hb))
    | (go_at_call 6; ((with_reducible refine C1.out.mono ?_); rintro E w2 ⟨rfl, hb⟩; have B2 := Lib.hid (B1.out.trans (hb.mono B1.out.size)); have N2 := Lib.hid (CN.out w2 B2.out); clear hb))
    | (go_at_call 8; ((with_reducible refine N2.out.mono ?_); rintro E w3 ⟨g, rfl, hg, hb⟩; have B3 := Lib.hid (B2.out.trans (hb.mono B2.out.size)); have G3 := Lib.hid hg; have K3 := Lib.hid (HR.out.order hg); clear hb hg))
    | (go_at_call 9; ((with_reducible refine K3.out.mono ?_); rintro E w4 ⟨c, rfl, hr, hb⟩; have B4 := Lib.hid (B3.out.trans (hb.mono B3.out.size)); have G4 := Lib.hid (HK.out.on G3.out hb); have R4 := Lib.hid hr; have F4 := Lib.hid (RO.out w4 B4.out); clear hb hr K3))
    | (go_at_call 11; ((with_reducible refine F4.out.mono ?_); rintro E w5 ⟨d, rfl, hr, hb⟩; have hb' := hb.mono (HK.out.le G4.out); have G5 := Lib.hid (HK.out.on G4.out hb'); have R5 := Lib.hid (R4.out.on hb); have B5 := Lib.hid (B4.out.trans (hb.mono B4.out.size)); have S5 := Lib.hid (refsamell_any _ _ _ _ _ (R4.out.on hb) hr (Nat.le_trans HOL.out (by decide))); rw [decide_eq_true rfl] at S5; clear hb hb' hr))
    | (go_at_call 10; ((with_reducible refine S5.out.mono ?_); rintro E w6 ⟨rfl, hb⟩; have hb' := hb.mono (HK.out.le G5.out); have G6 := Lib.hid (HK.out.on G5.out hb'); have R6 := Lib.hid (R5.out.on hb); have B6 := Lib.hid (B5.out.trans (hb.mono B5.out.size)); clear hb hb' S5)))
  obtain ⟨p, cap, rfl, hq1, hcq⟩ := R6.out.parts
  obtain ⟨L, hL⟩ : ∃ L, L = orderG rs := ⟨_, rfl⟩
  rw [← hL] at R6 HOL HOW HOF HRT hq1 hcq ⊢
  obtain ⟨q, hq⟩ : ∃ q, q = L.length := ⟨_, rfl⟩
  have HQ := Lib.hid hq
  rw [← hq] at R6 hq1 hcq ⊢
  have hqc : q ≤ cap := by
    obtain ⟨p', c', e, g1, g2, -⟩ := R6.out
    injection e with e1 e2 e3
    omega
  have hcapb : cap ≤ 9223372036854775807 := by
    obtain ⟨p', c', e, g1, g2, -⟩ := R6.out
    injection e with e1 e2 e3
    omega
  have hq12 : q ≤ 12 := by rw [hq]; exact HOL.out
  clear hL hq hcq RO CC CN C1 N2 F4 R4 R5
  go_loopw [6] (fun i W => ∃ k : Nat, k ≤ q + 1 ∧ i = .int .i64 k ∧ Hid (Below w6.heap.size w6 W)) (fun i _ => q + 1 - (intOf i).toNat)
  case atStart => exact ⟨0, Nat.zero_le _, rfl, Lib.hid (Below.refl _ _)⟩
  case round =>
    obtain ⟨k, hk, rfl, hb⟩ := hrel
    have k0 : (0 : Int) ≤ k := by omega
    have HWR := Lib.hid (B6.out.trans (hb.out.mono B6.out.size))
    by_cases hkq : k ≤ q
    · have kq : (k : Int) ≤ q := by omega
      have hkl : k ≤ L.length := by rw [← HQ.out]; exact hkq
      have hcut := fun W => cut_wide wtSl p q cap k (by omega) W
      have HRw := Lib.hid (row_first (R6.out.on hb.out) k hkl)
      have CR : Hid (Calls Tryz.prog 12 #[gptr g, .slice (cutw p cap) k cap] wr (RetBelow (.bool true) wr)) := Lib.hid (by
        have := HR.out.right (HK.out.on G6.out (hb.out.mono (HK.out.le G6.out))) _ _ HRw.out (by rw [List.length_take]; have := HOL.out; omega) (HOF.out k) (fun c hc => HOW.out c (List.mem_of_mem_take hc))
        rwa [HRT.out k] at this)
      clear hkl HRw
      go_wp2_with (go_at_call 12; ((with_reducible refine CR.out.mono ?_); rintro E w7 ⟨rfl, hb7⟩; have B7 := Lib.hid (hb.out.trans (hb7.mono hb.out.size)); clear hb7))
      go_roundw
      case rel => exact ⟨k + 1, by omega, by go_num, B7⟩
      case measure => simp [intOf]; omega
    · have kq : ¬ (k : Int) ≤ q := by omega
      go_wp2_with (first
        | (go_at_call 9; ((with_reducible refine (HR.out.norder _).mono ?_); rintro E w8 ⟨c8, rfl, hr, hb8⟩; obtain ⟨p8, k8, rfl⟩ := row_zeroL hr; have B8 := Lib.hid (HWR.out.trans (hb8.mono HWR.out.size)); clear hb8 hr))
        | (go_at_call 7; ((with_reducible refine (HP.out _).mono ?_); rintro E w9 ⟨rfl, hb9⟩; have B9 := Lib.hid (B8.out.trans (hb9.mono B8.out.size)); clear hb9)))
      go_ret
      exact ⟨rfl, B9.out⟩
theorem corders_any {G : Nat → Nat → List Rcd → World → Prop} (HG : Graphs G) (RG : Canon G) (CP : ∀ w, Calls Tryz.prog 7 #[] w (RetBelow (.bool true) w)) (v : Value) (rs : List Rcd) (w : World) (h : layG.Row w v rs) (hw : ∀ x ∈ rs, wfG x) : Calls Tryz.prog 3 #[v] w (RetBelow (.bool true) w) := by
  cases hl : fewG rs 12 with
  | false => exact corder_few CP v rs w h hl
  | true =>
    by_cases he : gErr rs = 0
    · exact corder_ok HG RG CP v rs w h hw hl he
    · exact corder_bad CP v rs w h hw hl he
end Go.Proofs.YtjokejcokgeeiaaGreat.Can

/- The statement's function CanonRight of layer 18 (canon): it returns true, whatever way graphs are kept (under Graphs and Canon), where the play returns true and the lists have not more than 1000000 ids. Conditions: the records and the lists of ids lie in memory as their cells say; numbers' words of 64 bits; texts of a length that Go reads. -/
namespace Go.Proofs.YtjokejcokgeeiaaGreat.Can
open Go.RowKit Cmd Bat Ids Rec Wid Gra Rea Cps
set_option linter.unusedVariables false
set_option linter.unusedSimpArgs false

theorem len_flat {c : List Idn} : ∀ {l : List (List Idn)}, c ∈ l → c.length ≤ l.flatten.length
  | [], h => by cases h
  | d :: l, h => by
    rw [List.flatten_cons, List.length_append]
    rcases List.mem_cons.1 h with rfl | h
    · omega
    · have := len_flat h; omega
set_option maxRecDepth 100000 in
theorem cright_few (CP : ∀ w, Calls Tryz.prog 7 #[] w (RetBelow (.bool true) w)) (v : Value) (px : Option Addr) (mx cx : Nat) (rs : List Rcd) (w : World) (h : layG.Row w v rs) (hl : fewG rs 12 = false) : Calls Tryz.prog 4 #[v, .slice px mx cx] w (RetBelow (.bool true) w) := by
  have HP := Lib.hid CP
  have CF : Hid (Calls Tryz.prog 5 #[v, .int .i64 12] w (RetBelow (.bool false) w)) := Lib.hid (by have := few_any v rs 12 (by decide) w h; rw [hl] at this; exact this)
  clear h hl CP
  go_enter Tryz.func4, Tryz.ntmps4
  go_wp2_with (first
    | (go_at_call 5; ((with_reducible refine CF.out.mono ?_); rintro E w1 ⟨rfl, hb⟩; have B1 := Lib.hid hb; clear hb))
    | (go_at_call 7; ((with_reducible refine (HP.out _).mono ?_); rintro E w2 ⟨rfl, hb⟩; have B2 := Lib.hid (B1.out.trans (hb.mono B1.out.size)); clear hb)))
  go_ret
  exact ⟨rfl, B2.out⟩
set_option maxRecDepth 100000 in
theorem cright_long (CP : ∀ w, Calls Tryz.prog 7 #[] w (RetBelow (.bool true) w)) (v : Value) (px : Option Addr) (mx cx : Nat) (rs : List Rcd) (w : World) (h : layG.Row w v rs) (hl : fewG rs 12 = true) (hm : 12 < mx) : Calls Tryz.prog 4 #[v, .slice px mx cx] w (RetBelow (.bool true) w) := by
  have HP := Lib.hid CP
  have CF : Hid (Calls Tryz.prog 5 #[v, .int .i64 12] w (RetBelow (.bool true) w)) := Lib.hid (by have := few_any v rs 12 (by decide) w h; rw [hl] at this; exact this)
  have q1 : decide ((12 : Int) < mx) = true := decide_eq_true (by omega)
  clear h hl CP
  go_enter Tryz.func4, Tryz.ntmps4
  go_wp2_with (first
    | (go_at_call 5; ((with_reducible refine CF.out.mono ?_); rintro E w1 ⟨rfl, hb⟩; have B1 := Lib.hid hb; clear hb))
    | (go_at_call 7; ((with_reducible refine (HP.out _).mono ?_); rintro E w2 ⟨rfl, hb⟩; have B2 := Lib.hid (B1.out.trans (hb.mono B1.out.size)); clear hb)))
  go_ret
  exact ⟨rfl, B2.out⟩
set_option maxRecDepth 100000 in
theorem cright_bad (CP : ∀ w, Calls Tryz.prog 7 #[] w (RetBelow (.bool true) w)) (v : Value) (px : Option Addr) (mx cx : Nat) (rs : List Rcd) (w : World) (h : layG.Row w v rs) (hw : ∀ x ∈ rs, wfG x) (hl : fewG rs 12 = true) (hm : ¬ 12 < mx) (he : gErr rs ≠ 0) : Calls Tryz.prog 4 #[v, .slice px mx cx] w (RetBelow (.bool true) w) := by
  have HP := Lib.hid CP
  have CF : Hid (Calls Tryz.prog 5 #[v, .int .i64 12] w (RetBelow (.bool true) w)) := Lib.hid (by have := few_any v rs 12 (by decide) w h; rw [hl] at this; exact this)
  have CC := Lib.hid (fun W (hb : Below w.heap.size w W) => refgerr_any v rs W (h.on hb) hw)
  have q1 : decide ((12 : Int) < mx) = false := decide_eq_false (by omega)
  generalize gErr rs = e at CC he
  have q2 : (e != (0 : Int)) = true := by rw [bne, beq_eq_false_iff_ne.2 he]; rfl
  clear h hl CP hw
  go_enter Tryz.func4, Tryz.ntmps4
  go_wp2_with (first
    | (go_at_call 5; ((with_reducible refine CF.out.mono ?_); rintro E w1 ⟨rfl, hb⟩; have B1 := Lib.hid hb; have C1 := Lib.hid (CC.out w1 hb); clear hb))
    | (go_at_call 6; ((with_reducible refine C1.out.mono ?_); rintro E w2 ⟨rfl, hb⟩; have B2 := Lib.hid (B1.out.trans (hb.mono B1.out.size)); clear hb))
    | (go_at_call 7; ((with_reducible refine (HP.out _).mono ?_); rintro E w3 ⟨rfl, hb⟩; have B3 := Lib.hid (B2.out.trans (hb.mono B2.out.size)); clear hb)))
  go_ret
  exact ⟨rfl, B3.out⟩
set_option maxRecDepth 100000 in
set_option maxHeartbeats 16000000 in
theorem cright_ok {G : Nat → Nat → List Rcd → World → Prop} (HG : Graphs G) (RG : Canon G) (CP : ∀ w, Calls Tryz.prog 7 #[] w (RetBelow (.bool true) w)) (v : Value) (px : Option Addr) (mx cx : Nat) (rs : List Rcd) (w : World) (h : layG.Row w v rs) (xs : List (List Idn)) (hw : ∀ x ∈ rs, wfG x) (hx : layLL.Row w (.slice px mx cx) xs) (hxw : ∀ c ∈ xs, ∀ z ∈ c, wfId z) (hfl : xs.flatten.length ≤ 1000000) (hl : fewG rs 12 = true) (hm : ¬ 12 < mx) (he : gErr rs = 0) : Calls Tryz.prog 4 #[v, .slice px mx cx] w (RetBelow (.bool true) w) := by
  obtain ⟨hd, hr⟩ := low_few hl
  have HP := Lib.hid CP
  have CF : Hid (Calls Tryz.prog 5 #[v, .int .i64 12] w (RetBelow (.bool true) w)) := Lib.hid (by have := few_any v rs 12 (by decide) w h; rw [hl] at this; exact this)
  have CC := Lib.hid (fun W (hb : Below w.heap.size w W) => refgerr_any v rs W (h.on hb) hw)
  rw [he] at CC
  have CN := Lib.hid (fun W (hb : Below w.heap.size w W) => cnew_ok HG (h.on hb) (clot_few hw hl (by omega)) he)
  have HK := Lib.hid HG
  have HR := Lib.hid RG
  obtain ⟨p', c', e', hx1, hxd⟩ := hx.parts
  have emx : mx = xs.length := by injection e'
  have epx : px = p' := by injection e'
  subst epx
  have HXL : Hid (mx = xs.length) := Lib.hid emx
  have HX12 : mx ≤ 12 := by omega
  have HXR := Lib.hid hx
  have HXW := Lib.hid hxw
  have HFL := Lib.hid hfl
  have RR := Lib.hid (fun W (hb : Below w.heap.size w W) => refright_any v (.slice px mx cx) rs xs W (h.on hb) (hx.on hb) (by omega) (by omega) (by omega))
  have RF := Lib.hid (fun W (hb : Below w.heap.size w W) => refflat_any (.slice px mx cx) xs W (hx.on hb) hfl)
  have CF' := Lib.hid (fun W (hb : Below w.heap.size w W) => RG.flat W (.slice px mx cx) xs (hx.on hb) (by omega) hfl hxw)
  have RL := Lib.hid (fun W (hb : Below w.heap.size w W) u x a b (ha : RowAt W u a) (hb' : RowAt W x b) => refleads_any v u x rs a b W (h.on hb) ha hb')
  have SP : Hid (mx = 0 ∨ ∃ B off, px = some ⟨B, off, none⟩ ∧ Hid (layLL.In w B off xs)) := Lib.hid (by rw [emx]; exact hxd)
  have q1 : decide ((12 : Int) < mx) = false := decide_eq_false (by omega)
  clear h hw hl he hd hr CP e' hx1 hxd emx hx hxw hfl
  go_enter Tryz.func4, Tryz.ntmps4
  go_wp2_with (first
    | (go_at_call 5; ((with_reducible refine CF.out.mono ?_); rintro E w1 ⟨rfl, hb⟩; have B1 := Lib.hid hb; have C1 := Lib.hid (CC.out w1 hb); clear hb))
    | (go_at_call 6; ((with_reducible refine C1.out.mono ?_); rintro E w2 ⟨rfl, hb⟩; have B2 := Lib.hid (B1.out.trans (hb.mono B1.out.size)); have N2 := Lib.hid (CN.out w2 B2.out); clear hb))
    | (go_at_call 8; ((with_reducible refine N2.out.mono ?_); rintro E w3 ⟨g, rfl, hg, hb⟩; have B3 := Lib.hid (B2.out.trans (hb.mono B2.out.size)); have G3 := Lib.hid hg; have K3 := Lib.hid (HR.out.right hg (.slice px mx cx) xs (HXR.out.on B3.out) (by have := HXL.out; omega) HFL.out HXW.out); clear hb hg))
    | (go_at_call 12; ((with_reducible refine K3.out.mono ?_); rintro E w4 ⟨rfl, hb⟩; have G4 := Lib.hid (HK.out.on G3.out hb); have B4 := Lib.hid (B3.out.trans (hb.mono B3.out.size)); have F4 := Lib.hid (RR.out w4 B4.out); clear hb K3))
    | (go_at_call 13; ((with_reducible refine F4.out.mono ?_); rintro E w5 ⟨rfl, hb⟩; have hb' := hb.mono (HK.out.le G4.out); have G5 := Lib.hid (HK.out.on G4.out hb'); have B5 := Lib.hid (B4.out.trans (hb.mono B4.out.size)); have F5 := Lib.hid (CF'.out w5 B5.out); clear hb hb'))
    | (go_at_call 15; ((with_reducible refine F5.out.mono ?_); rintro E w6 ⟨c6, rfl, hr, hb⟩; have hb' := hb.mono (HK.out.le G5.out); have G6 := Lib.hid (HK.out.on G5.out hb'); have R6 := Lib.hid hr; have B6 := Lib.hid (B5.out.trans (hb.mono B5.out.size)); have F6 := Lib.hid (RF.out w6 B6.out); clear hb hb' hr))
    | (go_at_call 16; ((with_reducible refine F6.out.mono ?_); rintro E w7 ⟨c7, rfl, hr, hb⟩; have hb' := hb.mono (HK.out.le G6.out); have G7 := Lib.hid (HK.out.on G6.out hb'); have B7 := Lib.hid (B6.out.trans (hb.mono B6.out.size)); have S7 := Lib.hid (Ids.same_any _ _ _ _ _ (R6.out.on hb) hr.row); rw [decide_eq_true rfl] at S7; clear hb hb' hr))
    | (go_at_call 14; ((with_reducible refine S7.out.mono ?_); rintro E w8 ⟨rfl, hb⟩; have hb' := hb.mono (HK.out.le G7.out); have G8 := Lib.hid (HK.out.on G7.out hb'); have B8 := Lib.hid (B7.out.trans (hb.mono B7.out.size)); clear hb hb' S7)))
  go_loopw [7] (fun i W => ∃ j : Nat, j ≤ mx ∧ i = .int .i64 ((j : Int) + 1) ∧ Hid (Below w8.heap.size w8 W)) (fun i _ => mx + 1 - (intOf i).toNat)
  case atStart => exact ⟨0, Nat.zero_le _, rfl, Lib.hid (Below.refl _ _)⟩
  case round =>
    obtain ⟨j, hj, rfl, hbb⟩ := hrel
    have j0 : (0 : Int) ≤ j := by omega
    have j1 : (0 : Int) ≤ (j : Int) + 1 := by omega
    have HWR := Lib.hid (B8.out.trans (hbb.out.mono B8.out.size))
    by_cases hjm : j + 1 < mx
    · have jm : (j : Int) + 1 < mx := by omega
      have jm0 : (j : Int) < mx := by omega
      have hjl : j < xs.length := by rw [← HXL.out]; omega
      have hjl1 : j + 1 < xs.length := by rw [← HXL.out]; exact hjm
      obtain ⟨B, off, rfl, HC⟩ := SP.out.resolve_left (by omega)
      obtain ⟨p0, c0, e0, r0⟩ := llAt (HC.out.on HWR.out) hjl
      obtain ⟨p1, c1, e1, r1⟩ := llAt (HC.out.on HWR.out) hjl1
      have L0 : (nthL xs j).length ≤ 1000000 := Nat.le_trans (len_flat (nthL_in hjl)) HFL.out
      have L1 : (nthL xs (j + 1)).length ≤ 1000000 := Nat.le_trans (len_flat (nthL_in hjl1)) HFL.out
      have W0 := HXW.out _ (nthL_in hjl)
      have W1 := HXW.out _ (nthL_in hjl1)
      obtain ⟨n0, hn0⟩ : ∃ n, n = (nthL xs j).length := ⟨_, rfl⟩
      obtain ⟨n1, hn1⟩ : ∃ n, n = (nthL xs (j + 1)).length := ⟨_, rfl⟩
      have hlt := HC.out.lt
      have CA1 := Lib.hid (fun W (hw : Below wr.heap.size wr W) => HR.out.leads (HK.out.on G8.out ((hbb.out.trans (hw.mono hbb.out.size)).mono (HK.out.le G8.out))) _ _ _ _ (r1.on hw) (r0.on hw) L1 L0 W1 W0)
      have CA2 := Lib.hid (fun W (hw : Below wr.heap.size wr W) => RL.out W (HWR.out.trans (hw.mono HWR.out.size)) _ _ _ _ (r1.on hw) (r0.on hw))
      have CA3 := Lib.hid (fun W (hw : Below wr.heap.size wr W) => HR.out.leads (HK.out.on G8.out ((hbb.out.trans (hw.mono hbb.out.size)).mono (HK.out.le G8.out))) _ _ _ _ (r0.on hw) (r1.on hw) L0 L1 W0 W1)
      have CA4 := Lib.hid (fun W (hw : Below wr.heap.size wr W) => RL.out W (HWR.out.trans (hw.mono HWR.out.size)) _ _ _ _ (r0.on hw) (r1.on hw))
      rw [← hn0] at e0
      rw [← hn1] at e1
      rw [← hn0, ← hn1] at CA1 CA2 CA3 CA4
      have HX : Hid (∀ w', Below wr.heap.size wr w' → w'.cell? ⟨B, off + (j + 1), none⟩ = some (.slice p1 n1 c1) ∧ w'.cell? ⟨B, off + j, none⟩ = some (.slice p0 n0 c0)) := Lib.hid (fun W hw => ⟨(hw.cell (p := ⟨B, off + (j + 1), none⟩) (Nat.lt_of_lt_of_le hlt HWR.out.size)).trans e1, (hw.cell (p := ⟨B, off + j, none⟩) (Nat.lt_of_lt_of_le hlt HWR.out.size)).trans e0⟩)
      have E0 := Lib.hid (Below.refl wr.heap.size wr)
      have hj9 : (j : Int) ≤ 9223372036854775807 := by omega
      have hwr2 : IntKind.i64.wrap (j : Int) = (j : Int) := IntWalk.i64_in _ (by omega)
      have hwr1 : IntKind.i64.wrap ((j : Int) + 1 - 1) = (j : Int) := by rw [show (j : Int) + 1 - 1 = j by omega]; exact hwr2
      generalize leadsG rs (nthL xs (j + 1)) (nthL xs j) = m1 at CA1 CA2
      generalize leadsG rs (nthL xs j) (nthL xs (j + 1)) = m2 at CA3 CA4
      clear hn0 hn1 e0 e1 r0 r1 L0 L1 W0 W1 hjl hjl1 hlt
      go_wp2_with fail
      go_region_held3 (fun w' => w'.cell? ⟨B, off + (j + 1), none⟩ = some (.slice p1 n1 c1) ∧ w'.cell? ⟨B, off + j, none⟩ = some (.slice p0 n0 c0))
        (first
          | exact HX.out _ E4.out
          | exact HX.out _ E3.out
          | exact HX.out _ E2.out
          | exact HX.out _ E1.out
          | exact HX.out _ E0.out
          | exact HX.out _ E0.out.drew)
        (first
          | (go_at_call 17; (with_reducible refine (CA1.out _ E0.out.drew).mono ?_); rintro e z1 ⟨rfl, hb1⟩; have E1 := Lib.hid (E0.out.drew.trans (hb1.mono E0.out.drew.size)); clear hb1)
          | (go_at_call 18; (with_reducible refine (CA2.out _ E1.out).mono ?_); rintro e z2 ⟨rfl, hb2⟩; have E2 := Lib.hid (E1.out.trans (hb2.mono E1.out.size)); clear hb2)
          | (go_at_call 17; (with_reducible refine (CA3.out _ E2.out).mono ?_); rintro e z3 ⟨rfl, hb3⟩; have E3 := Lib.hid (E2.out.trans (hb3.mono E2.out.size)); clear hb3)
          | (go_at_call 18; (with_reducible refine (CA4.out _ E3.out).mono ?_); rintro e z4 ⟨rfl, hb4⟩; have E4 := Lib.hid (E3.out.trans (hb4.mono E3.out.size)); clear hb4))
      go_wp2
      go_roundw
      case rel => exact ⟨j + 1, by omega, by go_num, Lib.hid (hbb.out.trans (E4.out.mono hbb.out.size))⟩
      case measure => simp [intOf]; omega
    · have jm : ¬ (j : Int) + 1 < mx := by omega
      go_wp2_with (go_at_call 7; ((with_reducible refine (HP.out _).mono ?_); rintro E w9 ⟨rfl, hb9⟩; have B9 := Lib.hid (HWR.out.trans (hb9.mono HWR.out.size)); clear hb9))
      go_ret
      exact ⟨rfl, B9.out⟩
theorem crights_any {G : Nat → Nat → List Rcd → World → Prop} (HG : Graphs G) (RG : Canon G) (CP : ∀ w, Calls Tryz.prog 7 #[] w (RetBelow (.bool true) w)) (v : Value) (px : Option Addr) (mx cx : Nat) (rs : List Rcd) (w : World) (h : layG.Row w v rs) (xs : List (List Idn)) (hw : ∀ x ∈ rs, wfG x) (hx : layLL.Row w (.slice px mx cx) xs) (hxw : ∀ c ∈ xs, ∀ z ∈ c, wfId z) (hfl : xs.flatten.length ≤ 1000000) : Calls Tryz.prog 4 #[v, .slice px mx cx] w (RetBelow (.bool true) w) := by
  cases hl : fewG rs 12 with
  | false => exact cright_few CP v px mx cx rs w h hl
  | true =>
    by_cases hm : 12 < mx
    · exact cright_long CP v px mx cx rs w h hl hm
    · by_cases he : gErr rs = 0
      · exact cright_ok HG RG CP v px mx cx rs w h xs hw hx hxw hfl hl hm he
      · exact cright_bad CP v px mx cx rs w h hw hl hm he
end Go.Proofs.YtjokejcokgeeiaaGreat.Can
