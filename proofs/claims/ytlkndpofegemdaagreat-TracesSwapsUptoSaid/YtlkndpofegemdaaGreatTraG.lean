/- The statement's function TracesSwaps of layer 19 (traces): it returns true, whatever way graphs are kept (under Graphs and Traces) and where the play returns true. Conditions: the records and the list of lists lie in memory as their cells say; numbers' words of 64 bits; texts of a length that Go reads; Z of the lists (what Swap may be asked). -/
import Derived.Test.YtlkndpofegemdaaGreatTraF
import Derived.Test.YtlkndpofegemdaaGreatSls
import Derived.Test.YtlkndpofegemdaaGreatOpen0
import Derived.Laws.OwnMore
namespace Go.Proofs.YtlkndpofegemdaaGreat.Tra
open Go.RowKit Cmd Bat Ids Rec Wid Gra Rea Cps
set_option linter.unusedVariables false
set_option linter.unusedSimpArgs false

/-! ### Rows of slices: one of the call's own, stores into it -/
theorem flatSl : ∀ xs : List Slc, wdSl.flat xs = xs.map sliceOf
  | [] => rfl
  | x :: l => by show [_] ++ wdSl.flat l = _; rw [flatSl l]; rfl
section
variable {W : World} {base g n cap : Nat} {qs : List Slc}
theorem sl_parts (h : wdSl.Own 36 W base (.slice (some ⟨g, 0, none⟩) n cap) qs) : n = qs.length ∧ base ≤ g ∧ g < W.heap.size ∧ qs.length ≤ cap ∧ cap ≤ 9223372036854775807 := by
  have hlt := World.ownsRow.lt h
  rcases h.2 with ⟨e1, h0⟩ | ⟨g, c', cur, e1, hb, hg, hn, hm, hs, ht⟩
  · cases e1
  · injection e1 with e1 e2 e3
    injection e1 with e1
    injection e1 with e1
    subst e1; subst e2; subst e3
    exact ⟨rfl, hb, (hlt _ rfl).2, hn, by unfold maxLen at hm; omega⟩
theorem sl_own (h : wdSl.Own 36 W base (.slice (some ⟨g, 0, none⟩) n cap) qs) : W.ownsRow base 36 1 (.slice (some ⟨g, 0, none⟩) qs.length cap) qs.length (qs.map sliceOf) := by
  have h2 := (sl_parts h).1
  subst h2
  unfold Wd.Own at h
  rw [flatSl] at h; exact h
theorem sl_cell (h : wdSl.Own 36 W base (.slice (some ⟨g, 0, none⟩) n cap) qs) {k : Nat} (hk : k < qs.length) : W.cell? ⟨g, k, none⟩ = some (sliceOf (qs.getD k (none, 0, 0))) ∧ W.frozen? ⟨g, k, none⟩ = false := by
  have h' := sl_own h
  refine ⟨?_, h'.frozenAt k⟩
  rw [h'.cellAt k (by omega), List.getElem?_map, List.getElem?_eq_getElem hk, List.getD_eq_getElem?_getD, List.getElem?_eq_getElem hk]; rfl
theorem sl_store (h : wdSl.Own 36 W base (.slice (some ⟨g, 0, none⟩) n cap) qs) (k : Nat) (x : Slc) : wdSl.Own 36 (W.setCell ⟨g, k, none⟩ (sliceOf x)) base (.slice (some ⟨g, 0, none⟩) n cap) (qs.set k x) ∧ W.grownBy (W.setCell ⟨g, k, none⟩ (sliceOf x)) (some g) := by
  have h2 := (sl_parts h).1
  obtain ⟨r1, r2⟩ := (sl_own h).stored k (sliceOf x)
  refine ⟨?_, r2⟩
  unfold Wd.Own
  rw [flatSl, List.map_set, List.length_set, h2]; exact r1
end
theorem hdr_swap {qs : List Slc} {i : Nat} (h : i + 1 < qs.length) (j : Nat) : ((qs.set i (qs.getD (i + 1) (none, 0, 0))).set (i + 1) (qs.getD i (none, 0, 0))).getD j (none, 0, 0) = qs.getD (sw i j) (none, 0, 0) := by
  unfold sw
  simp only [List.getD_eq_getElem?_getD, List.getElem?_set, List.length_set]
  by_cases e : j = i
  · subst e
    rw [if_neg (by omega), if_pos rfl, if_pos (by omega), if_pos rfl]
    rfl
  · by_cases e' : j = i + 1
    · subst e'
      rw [if_pos rfl, if_pos (by omega), if_neg (by omega), if_pos rfl]
      rfl
    · rw [if_neg (Ne.symm e'), if_neg (Ne.symm e), if_neg e, if_neg e']
theorem ll_hdrs {W : World} {v : Value} {L : List (List Idn)} (h : layLL.Row W v L) : ∃ qs : List Slc, qs.length = L.length ∧ wdSl.L.Row W v qs ∧ ∀ j, j < L.length → RowAt W (sliceOf (qs.getD j (none, 0, 0))) (nthL L j) := by
  obtain ⟨p, cap, rfl, h1, h2, h3⟩ := h
  by_cases hz : L = []
  · subst hz
    exact ⟨[], rfl, ⟨p, cap, rfl, h1, h2, fun h => absurd rfl h⟩, fun j hj => absurd hj (Nat.not_lt_zero _)⟩
  · obtain ⟨B, off, rfl, hi⟩ := h3 hz
    obtain ⟨qs, hl, hq⟩ := choose_list ((none, 0, 0) : Slc) L.length (fun i q => W.cell? ⟨B, off + i, none⟩ = some (sliceOf q) ∧ RowAt W (sliceOf q) (nthL L i)) fun i hlt => by
      obtain ⟨q, c, e1, e2⟩ := llAt hi hlt
      exact ⟨(q, _, c), e1, e2⟩
    refine ⟨qs, hl, ⟨_, cap, by rw [hl], by rw [hl]; exact h1, h2, fun _ => ⟨B, off, rfl, hi.lt, fun j hj => ?_⟩⟩, fun j hj => (hq j hj).2⟩
    rw [hl] at hj
    exact (hq j hj).1
theorem ll_of {W : World} {v : Value} {qs : List Slc} {L : List (List Idn)} (hl : qs.length = L.length) (h : wdSl.L.Row W v qs) (hr : ∀ j, j < L.length → RowAt W (sliceOf (qs.getD j (none, 0, 0))) (nthL L j)) : layLL.Row W v L := by
  obtain ⟨p, cap, rfl, h1, h2, h3⟩ := h
  refine ⟨p, cap, by rw [hl], by rw [← hl]; exact h1, h2, fun hx => ?_⟩
  obtain ⟨B, off, rfl, hi⟩ := h3 (by rintro rfl; exact hx (List.length_eq_zero_iff.1 hl.symm))
  exact ⟨B, off, rfl, hi.lt, fun j hj => ⟨_, hi.cell j (by rw [hl]; exact hj), hr j hj⟩⟩

theorem grown_belowS {w w' : World} {r B : Nat} (h : w.grownBy w' (some r)) (h1 : B ≤ r) (h2 : B ≤ w.heap.size) : Below B w w' := ⟨h.os, h.tape, h.output, h.size, fun k hk => h.block k (by omega) (fun e => by injection e with e; omega)⟩
theorem grown_thenS {a b c : World} {r : Nat} (h : a.grownBy b (some r)) (k : b.grownBy c (some r)) : a.grownBy c (some r) := h.andThen k (fun _ hk => .inr hk)
theorem swap_in {a : List (List Idn)} {i : Nat} (h : i + 1 < a.length) {c : List Idn} (hc : c ∈ swapG a i) : c ∈ a := by
  obtain ⟨j, hj, e⟩ := in_nthL hc
  rw [swap_at h] at e
  rw [swap_len] at hj
  rw [← e]; exact nthL_in (sw_lt h hj)
set_option maxRecDepth 100000 in
theorem tswap_few (CP : ∀ w, Calls Tryz.prog 7 #[] w (RetBelow (.bool true) w)) (v : Value) (px : Option Addr) (mx cx : Nat) (i : Int) (rs : List Rcd) (w : World) (h : layG.Row w v rs) (hl : fewG rs 14 = false) : Calls Tryz.prog 4 #[v, .slice px mx cx, .int .i64 i] w (RetBelow (.bool true) w) := by
  have HP := Lib.hid CP
  have CF : Hid (Calls Tryz.prog 5 #[v, .int .i64 14] w (RetBelow (.bool false) w)) := Lib.hid (by have := few_any v rs 14 (by decide) w h; rw [hl] at this; exact this)
  clear h hl CP
  go_enter Tryz.func4, Tryz.ntmps4
  go_wp2_with (first
    | (go_at_call 5; ((with_reducible refine CF.out.mono ?_); rintro E w1 ⟨rfl, hb⟩; have B1 := Lib.hid hb; clear hb))
    | (go_at_call 7; ((with_reducible refine (HP.out _).mono ?_); rintro E w2 ⟨rfl, hb⟩; have B2 := Lib.hid (B1.out.trans (hb.mono B1.out.size)); clear hb)))
  go_ret
  exact ⟨rfl, B2.out⟩
set_option maxRecDepth 100000 in
theorem tswap_long (CP : ∀ w, Calls Tryz.prog 7 #[] w (RetBelow (.bool true) w)) (v : Value) (px : Option Addr) (mx cx : Nat) (i : Int) (rs : List Rcd) (w : World) (h : layG.Row w v rs) (hl : fewG rs 14 = true) (hm : 14 < mx) : Calls Tryz.prog 4 #[v, .slice px mx cx, .int .i64 i] w (RetBelow (.bool true) w) := by
  have HP := Lib.hid CP
  have CF : Hid (Calls Tryz.prog 5 #[v, .int .i64 14] w (RetBelow (.bool true) w)) := Lib.hid (by have := few_any v rs 14 (by decide) w h; rw [hl] at this; exact this)
  have q1 : decide ((14 : Int) < mx) = true := decide_eq_true (by omega)
  clear h hl CP
  go_enter Tryz.func4, Tryz.ntmps4
  go_wp2_with (first
    | (go_at_call 5; ((with_reducible refine CF.out.mono ?_); rintro E w1 ⟨rfl, hb⟩; have B1 := Lib.hid hb; clear hb))
    | (go_at_call 7; ((with_reducible refine (HP.out _).mono ?_); rintro E w2 ⟨rfl, hb⟩; have B2 := Lib.hid (B1.out.trans (hb.mono B1.out.size)); clear hb)))
  go_ret
  exact ⟨rfl, B2.out⟩
set_option maxRecDepth 100000 in
theorem tswap_bad (CP : ∀ w, Calls Tryz.prog 7 #[] w (RetBelow (.bool true) w)) (v : Value) (px : Option Addr) (mx cx : Nat) (i : Int) (rs : List Rcd) (w : World) (h : layG.Row w v rs) (hw : ∀ x ∈ rs, wfG x) (hl : fewG rs 14 = true) (hm : ¬ 14 < mx) (he : gErr rs ≠ 0) : Calls Tryz.prog 4 #[v, .slice px mx cx, .int .i64 i] w (RetBelow (.bool true) w) := by
  have HP := Lib.hid CP
  have CF : Hid (Calls Tryz.prog 5 #[v, .int .i64 14] w (RetBelow (.bool true) w)) := Lib.hid (by have := few_any v rs 14 (by decide) w h; rw [hl] at this; exact this)
  have CC := Lib.hid (fun W (hb : Below w.heap.size w W) => refgerr_any v rs W (h.on hb) hw)
  have q1 : decide ((14 : Int) < mx) = false := decide_eq_false (by omega)
  generalize gErr rs = e at CC he
  have q2 : (e != (0 : Int)) = true := by rw [bne, beq_eq_false_iff_ne.2 he]; rfl
  clear h hl CP hw
  go_enter Tryz.func4, Tryz.ntmps4
  go_wp2_with (first
    | (go_at_call 5; ((with_reducible refine CF.out.mono ?_); rintro E w1 ⟨rfl, hb⟩; have B1 := Lib.hid hb; have C1 := Lib.hid (CC.out w1 hb); clear hb))
    | (go_at_call 6; ((with_reducible refine C1.out.mono ?_); rintro E w2 ⟨rfl, hb⟩; have B2 := Lib.hid (B1.out.trans (hb.mono B1.out.size)); clear hb))
    | (go_at_call 7; ((with_reducible refine (HP.out _).mono ?_); rintro E w3 ⟨rfl, hb⟩; have B3 := Lib.hid (B2.out.trans (hb.mono B2.out.size)); clear hb)))
  go_ret
  exact ⟨rfl, B3.out⟩
set_option maxRecDepth 100000 in
set_option maxHeartbeats 16000000 in
theorem tswap_neg {G : Nat → Nat → List Rcd → World → Prop} {Z : List (List Idn) → Prop} (HG : Graphs G) (TG : Traces G Z) (CP : ∀ w, Calls Tryz.prog 7 #[] w (RetBelow (.bool true) w)) (v : Value) (px : Option Addr) (mx cx : Nat) (i : Int) (rs : List Rcd) (w : World) (h : layG.Row w v rs) (xs : List (List Idn)) (hi1 : -9223372036854775808 ≤ i) (hi2 : i ≤ 9223372036854775807) (hw : ∀ x ∈ rs, wfG x) (hx : layLL.Row w (.slice px mx cx) xs) (hxw : ∀ c ∈ xs, ∀ z ∈ c, wfId z) (hZ : Z xs) (hl : fewG rs 14 = true) (hm : ¬ 14 < mx) (he : gErr rs = 0) (hneg : i < 0) : Calls Tryz.prog 4 #[v, .slice px mx cx, .int .i64 i] w (RetBelow (.bool true) w) := by
  have HP := Lib.hid CP
  have CF : Hid (Calls Tryz.prog 5 #[v, .int .i64 14] w (RetBelow (.bool true) w)) := Lib.hid (by have := few_any v rs 14 (by decide) w h; rw [hl] at this; exact this)
  have CC := Lib.hid (fun W (hb : Below w.heap.size w W) => refgerr_any v rs W (h.on hb) hw)
  rw [he] at CC
  have CN := Lib.hid (fun W (hb : Below w.heap.size w W) => cnew_ok HG (h.on hb) (clot_few hw hl (by omega)) he)
  have HK := Lib.hid HG
  have HR := Lib.hid TG
  obtain ⟨p', c', e', hx1, hxd⟩ := hx.parts
  have emx : mx = xs.length := by injection e'
  have epx : px = p' := by injection e'
  subst epx
  have HXL : Hid (mx = xs.length) := Lib.hid emx
  have HX14 : mx ≤ 14 := by omega
  have LX : Hid (xs.length ≤ 1000) := Lib.hid (by omega)
  have HXR := Lib.hid hx
  have HXW := Lib.hid hxw
  have HZ := Lib.hid hZ
  have RC := Lib.hid (fun W (hb : Below w.heap.size w W) u x a b (ha : RowAt W u a) (hb' : RowAt W x b) => refconflict_any v u x rs a b W (h.on hb) ha hb' hw)
  have SP : Hid (mx = 0 ∨ ∃ B off, px = some ⟨B, off, none⟩ ∧ Hid (layLL.In w B off xs)) := Lib.hid (by rw [emx]; exact hxd)
  have q1 : decide ((14 : Int) < mx) = false := decide_eq_false (by omega)
  have HNP : Hid (¬ (0 ≤ i ∧ i + 1 < xs.length ∧ confG rs (nthL xs i.toNat) (nthL xs (i.toNat + 1)) = false)) := Lib.hid (by omega)
  have HI := Lib.hid (And.intro hi1 hi2)
  clear h hw hl he CP e' hx1 hxd emx hx hxw hZ
  go_enter Tryz.func4, Tryz.ntmps4
  go_wp2_with (first
    | (go_at_call 5; ((with_reducible refine CF.out.mono ?_); rintro E w1 ⟨rfl, hb⟩; have B1 := Lib.hid hb; have C1 := Lib.hid (CC.out w1 hb); clear hb))
    | (go_at_call 6; ((with_reducible refine C1.out.mono ?_); rintro E w2 ⟨rfl, hb⟩; have B2 := Lib.hid (B1.out.trans (hb.mono B1.out.size)); have N2 := Lib.hid (CN.out w2 B2.out); clear hb))
    | (go_at_call 8; ((with_reducible refine N2.out.mono ?_); rintro E w3 ⟨g, rfl, hg, hb⟩; have B3 := Lib.hid (B2.out.trans (hb.mono B2.out.size)); have G3 := Lib.hid hg; have K3 := Lib.hid (HR.out.swap hg (.slice px mx cx) xs i (HXR.out.on B3.out) LX.out HZ.out HXW.out HI.out.1 HI.out.2); clear hb hg))
    | (go_at_call 15; ((with_reducible refine K3.out.mono ?_); rintro E w4 ⟨o, ok, rfl, hb, -, hno⟩; obtain ⟨rfl, hr⟩ := hno HNP.out; obtain ⟨p8, k8, rfl⟩ := row_zeroL hr; have B4 := Lib.hid (B3.out.trans (hb.mono B3.out.size)); have G4 := Lib.hid (HK.out.on G3.out hb); clear hb hno hr K3))
    | fail)
  go_quiet (fail)
  go_wp2_with (first
    | (go_at_call 7; ((with_reducible refine (HP.out _).mono ?_); rintro E w9 ⟨rfl, hb9⟩; have B9 := Lib.hid ((Bat.below_drN B4.out _).trans (hb9.mono (Bat.below_drN B4.out _).size)); clear hb9)))
  go_ret
  exact ⟨rfl, B9.out⟩
set_option maxRecDepth 100000 in
set_option maxHeartbeats 16000000 in
theorem tswap_far {G : Nat → Nat → List Rcd → World → Prop} {Z : List (List Idn) → Prop} (HG : Graphs G) (TG : Traces G Z) (CP : ∀ w, Calls Tryz.prog 7 #[] w (RetBelow (.bool true) w)) (v : Value) (px : Option Addr) (mx cx : Nat) (i : Int) (rs : List Rcd) (w : World) (h : layG.Row w v rs) (xs : List (List Idn)) (hi1 : -9223372036854775808 ≤ i) (hi2 : i ≤ 9223372036854775807) (hw : ∀ x ∈ rs, wfG x) (hx : layLL.Row w (.slice px mx cx) xs) (hxw : ∀ c ∈ xs, ∀ z ∈ c, wfId z) (hZ : Z xs) (hl : fewG rs 14 = true) (hm : ¬ 14 < mx) (he : gErr rs = 0) (hneg : ¬ i < 0) (hfar : (mx : Int) - 1 ≤ i) : Calls Tryz.prog 4 #[v, .slice px mx cx, .int .i64 i] w (RetBelow (.bool true) w) := by
  have HP := Lib.hid CP
  have CF : Hid (Calls Tryz.prog 5 #[v, .int .i64 14] w (RetBelow (.bool true) w)) := Lib.hid (by have := few_any v rs 14 (by decide) w h; rw [hl] at this; exact this)
  have CC := Lib.hid (fun W (hb : Below w.heap.size w W) => refgerr_any v rs W (h.on hb) hw)
  rw [he] at CC
  have CN := Lib.hid (fun W (hb : Below w.heap.size w W) => cnew_ok HG (h.on hb) (clot_few hw hl (by omega)) he)
  have HK := Lib.hid HG
  have HR := Lib.hid TG
  obtain ⟨p', c', e', hx1, hxd⟩ := hx.parts
  have emx : mx = xs.length := by injection e'
  have epx : px = p' := by injection e'
  subst epx
  have HXL : Hid (mx = xs.length) := Lib.hid emx
  have HX14 : mx ≤ 14 := by omega
  have LX : Hid (xs.length ≤ 1000) := Lib.hid (by omega)
  have HXR := Lib.hid hx
  have HXW := Lib.hid hxw
  have HZ := Lib.hid hZ
  have RC := Lib.hid (fun W (hb : Below w.heap.size w W) u x a b (ha : RowAt W u a) (hb' : RowAt W x b) => refconflict_any v u x rs a b W (h.on hb) ha hb' hw)
  have SP : Hid (mx = 0 ∨ ∃ B off, px = some ⟨B, off, none⟩ ∧ Hid (layLL.In w B off xs)) := Lib.hid (by rw [emx]; exact hxd)
  have q1 : decide ((14 : Int) < mx) = false := decide_eq_false (by omega)
  have HNP : Hid (¬ (0 ≤ i ∧ i + 1 < xs.length ∧ confG rs (nthL xs i.toNat) (nthL xs (i.toNat + 1)) = false)) := Lib.hid (by omega)
  have HI := Lib.hid (And.intro hi1 hi2)
  have hwr : IntKind.i64.wrap ((mx : Int) - 1) = (mx : Int) - 1 := IntWalk.i64_in _ (by omega)
  have q4 : decide (i < (0 : Int)) = false := decide_eq_false hneg
  have q5 : decide ((mx : Int) - 1 ≤ i) = true := decide_eq_true hfar
  have q6 : decide (i < (mx : Int) - 1) = false := decide_eq_false (by omega)
  clear h hw hl he CP e' hx1 hxd emx hx hxw hZ
  go_enter Tryz.func4, Tryz.ntmps4
  go_wp2_with (first
    | (go_at_call 5; ((with_reducible refine CF.out.mono ?_); rintro E w1 ⟨rfl, hb⟩; have B1 := Lib.hid hb; have C1 := Lib.hid (CC.out w1 hb); clear hb))
    | (go_at_call 6; ((with_reducible refine C1.out.mono ?_); rintro E w2 ⟨rfl, hb⟩; have B2 := Lib.hid (B1.out.trans (hb.mono B1.out.size)); have N2 := Lib.hid (CN.out w2 B2.out); clear hb))
    | (go_at_call 8; ((with_reducible refine N2.out.mono ?_); rintro E w3 ⟨g, rfl, hg, hb⟩; have B3 := Lib.hid (B2.out.trans (hb.mono B2.out.size)); have G3 := Lib.hid hg; have K3 := Lib.hid (HR.out.swap hg (.slice px mx cx) xs i (HXR.out.on B3.out) LX.out HZ.out HXW.out HI.out.1 HI.out.2); clear hb hg))
    | (go_at_call 15; ((with_reducible refine K3.out.mono ?_); rintro E w4 ⟨o, ok, rfl, hb, -, hno⟩; obtain ⟨rfl, hr⟩ := hno HNP.out; obtain ⟨p8, k8, rfl⟩ := row_zeroL hr; have B4 := Lib.hid (B3.out.trans (hb.mono B3.out.size)); have G4 := Lib.hid (HK.out.on G3.out hb); clear hb hno hr K3))
    | fail)
  go_quiet (fail)
  go_wp2_with (first
    | (go_at_call 7; ((with_reducible refine (HP.out _).mono ?_); rintro E w9 ⟨rfl, hb9⟩; have B9 := Lib.hid ((Bat.below_drN B4.out _).trans (hb9.mono (Bat.below_drN B4.out _).size)); clear hb9)))
  go_ret
  exact ⟨rfl, B9.out⟩
set_option maxRecDepth 100000 in
set_option maxHeartbeats 16000000 in
theorem tswap_conf {G : Nat → Nat → List Rcd → World → Prop} {Z : List (List Idn) → Prop} (HG : Graphs G) (TG : Traces G Z) (CP : ∀ w, Calls Tryz.prog 7 #[] w (RetBelow (.bool true) w)) (v : Value) (px : Option Addr) (mx cx : Nat) (k : Nat) (rs : List Rcd) (w : World) (h : layG.Row w v rs) (xs : List (List Idn)) (hw : ∀ x ∈ rs, wfG x) (hx : layLL.Row w (.slice px mx cx) xs) (hxw : ∀ c ∈ xs, ∀ z ∈ c, wfId z) (hZ : Z xs) (hl : fewG rs 14 = true) (hm : ¬ 14 < mx) (he : gErr rs = 0) (hk : k + 1 < xs.length) (hc : confG rs (nthL xs k) (nthL xs (k + 1)) = true) : Calls Tryz.prog 4 #[v, .slice px mx cx, .int .i64 (k : Int)] w (RetBelow (.bool true) w) := by
  have HP := Lib.hid CP
  have CF : Hid (Calls Tryz.prog 5 #[v, .int .i64 14] w (RetBelow (.bool true) w)) := Lib.hid (by have := few_any v rs 14 (by decide) w h; rw [hl] at this; exact this)
  have CC := Lib.hid (fun W (hb : Below w.heap.size w W) => refgerr_any v rs W (h.on hb) hw)
  rw [he] at CC
  have CN := Lib.hid (fun W (hb : Below w.heap.size w W) => cnew_ok HG (h.on hb) (clot_few hw hl (by omega)) he)
  have HK := Lib.hid HG
  have HR := Lib.hid TG
  obtain ⟨p', c', e', hx1, hxd⟩ := hx.parts
  have emx : mx = xs.length := by injection e'
  have epx : px = p' := by injection e'
  subst epx
  have HXL : Hid (mx = xs.length) := Lib.hid emx
  have HX14 : mx ≤ 14 := by omega
  have LX : Hid (xs.length ≤ 1000) := Lib.hid (by omega)
  have HXR := Lib.hid hx
  have HXW := Lib.hid hxw
  have HZ := Lib.hid hZ
  have RC := Lib.hid (fun W (hb : Below w.heap.size w W) u x a b (ha : RowAt W u a) (hb' : RowAt W x b) => refconflict_any v u x rs a b W (h.on hb) ha hb' hw)
  have SP : Hid (mx = 0 ∨ ∃ B off, px = some ⟨B, off, none⟩ ∧ Hid (layLL.In w B off xs)) := Lib.hid (by rw [emx]; exact hxd)
  have q1 : decide ((14 : Int) < mx) = false := decide_eq_false (by omega)
  have k0 : (0 : Int) ≤ k := by omega
  have k1 : (0 : Int) ≤ (k : Int) + 1 := by omega
  have kx : (k : Int) < mx := by omega
  have kx1 : (k : Int) + 1 < mx := by omega
  have HI : Hid (-9223372036854775808 ≤ (k : Int) ∧ (k : Int) ≤ 9223372036854775807) := Lib.hid ⟨by omega, by omega⟩
  have hwr : IntKind.i64.wrap ((mx : Int) - 1) = (mx : Int) - 1 := IntWalk.i64_in _ (by omega)
  have hwr2 : IntKind.i64.wrap ((k : Int) + 1) = (k : Int) + 1 := IntWalk.i64_in _ (by omega)
  have q4 : decide ((k : Int) < (0 : Int)) = false := decide_eq_false (by omega)
  have q5 : decide ((mx : Int) - 1 ≤ (k : Int)) = false := decide_eq_false (by omega)
  have q6 : decide ((k : Int) < (mx : Int) - 1) = true := decide_eq_true (by omega)
  have HKL := Lib.hid hk
  have HCF := Lib.hid hc
  have HNP : Hid (¬ (0 ≤ (k : Int) ∧ (k : Int) + 1 < xs.length ∧ confG rs (nthL xs (k : Int).toNat) (nthL xs ((k : Int).toNat + 1)) = false)) := Lib.hid (by rintro ⟨-, -, h'⟩; exact absurd (hc.symm.trans h') (by decide))
  clear h hw hl he CP e' hx1 hxd emx hx hxw hZ hc hk
  go_enter Tryz.func4, Tryz.ntmps4
  go_wp2_with (first
    | (go_at_call 5; ((with_reducible refine CF.out.mono ?_); rintro E w1 ⟨rfl, hb⟩; have B1 := Lib.hid hb; have C1 := Lib.hid (CC.out w1 hb); clear hb))
    | (go_at_call 6; ((with_reducible refine C1.out.mono ?_); rintro E w2 ⟨rfl, hb⟩; have B2 := Lib.hid (B1.out.trans (hb.mono B1.out.size)); have N2 := Lib.hid (CN.out w2 B2.out); clear hb))
    | (go_at_call 8; ((with_reducible refine N2.out.mono ?_); rintro E w3 ⟨g, rfl, hg, hb⟩; have B3 := Lib.hid (B2.out.trans (hb.mono B2.out.size)); have G3 := Lib.hid hg; have K3 := Lib.hid (HR.out.swap hg (.slice px mx cx) xs (k : Int) (HXR.out.on B3.out) LX.out HZ.out HXW.out HI.out.1 HI.out.2); clear hb hg))
    | (go_at_call 15; ((with_reducible refine K3.out.mono ?_); rintro E w4 ⟨o, ok, rfl, hb, -, hno⟩; obtain ⟨rfl, hr⟩ := hno HNP.out; obtain ⟨p8, k8, rfl⟩ := row_zeroL hr; have B4 := Lib.hid (B3.out.trans (hb.mono B3.out.size)); have G4 := Lib.hid (HK.out.on G3.out hb); clear hb hno hr K3))
    | fail)
  obtain ⟨B, off, rfl, HC⟩ := SP.out.resolve_left (by omega)
  obtain ⟨p0, c0, e0, r0⟩ := llAt (HC.out.on B4.out) (k := k) (by have := HKL.out; omega)
  obtain ⟨p1, c1, e1, r1⟩ := llAt (HC.out.on B4.out) (k := k + 1) HKL.out
  obtain ⟨n0, hn0⟩ : ∃ n, n = (nthL xs k).length := ⟨_, rfl⟩
  obtain ⟨n1, hn1⟩ : ∃ n, n = (nthL xs (k + 1)).length := ⟨_, rfl⟩
  have hlt := HC.out.lt
  have CA1 := Lib.hid (fun W (hw : Below w4.heap.size w4 W) => RC.out W (B4.out.trans (hw.mono B4.out.size)) _ _ _ _ (r0.on hw) (r1.on hw))
  rw [← hn0] at e0
  rw [← hn1] at e1
  rw [← hn0, ← hn1] at CA1
  have HX : Hid (∀ w', Below w4.heap.size w4 w' → w'.cell? ⟨B, off + k, none⟩ = some (.slice p0 n0 c0) ∧ w'.cell? ⟨B, off + (k + 1), none⟩ = some (.slice p1 n1 c1)) := Lib.hid (fun W hw => ⟨(hw.cell (p := ⟨B, off + k, none⟩) (Nat.lt_of_lt_of_le hlt B4.out.size)).trans e0, (hw.cell (p := ⟨B, off + (k + 1), none⟩) (Nat.lt_of_lt_of_le hlt B4.out.size)).trans e1⟩)
  have E0 := Lib.hid (Below.refl w4.heap.size w4)
  have CA2 : Hid (∀ W, Below w4.heap.size w4 W → Calls Tryz.prog 14 #[v, .slice p0 n0 c0, .slice p1 n1 c1] W (RetBelow (.bool true) W)) := Lib.hid (fun W hw => by have := CA1.out W hw; rwa [show confG rs (nthL xs k) (nthL xs (k + 1)) = true from HCF.out] at this)
  clear hn0 hn1 e0 e1 r0 r1 hlt CA1
  go_region_held3 (fun w' => w'.cell? ⟨B, off + k, none⟩ = some (.slice p0 n0 c0) ∧ w'.cell? ⟨B, off + (k + 1), none⟩ = some (.slice p1 n1 c1))
    (first
      | exact HX.out _ E1.out
      | exact HX.out _ E0.out
      | exact HX.out _ E0.out.drew)
    (first
      | (go_at_call 14; (with_reducible refine (CA2.out _ E0.out.drew).mono ?_); rintro e z1 ⟨rfl, hb1⟩; have E1 := Lib.hid (E0.out.drew.trans (hb1.mono E0.out.drew.size)); clear hb1))
  go_wp2_with (first
    | (go_at_call 7; ((with_reducible refine (HP.out _).mono ?_); rintro E w9 ⟨rfl, hb9⟩; have B8 := B4.out.trans (E1.out.mono B4.out.size); have B9 := Lib.hid (B8.trans (hb9.mono B8.size)); clear hb9 B8)))
  go_ret
  exact ⟨rfl, B9.out⟩
set_option maxRecDepth 100000 in
set_option maxHeartbeats 16000000 in
theorem tswap_ok {G : Nat → Nat → List Rcd → World → Prop} {Z : List (List Idn) → Prop} (HG : Graphs G) (TG : Traces G Z) (CP : ∀ w, Calls Tryz.prog 7 #[] w (RetBelow (.bool true) w)) (v : Value) (px : Option Addr) (mx cx : Nat) (k : Nat) (rs : List Rcd) (w : World) (h : layG.Row w v rs) (xs : List (List Idn)) (hw : ∀ x ∈ rs, wfG x) (hx : layLL.Row w (.slice px mx cx) xs) (hxw : ∀ c ∈ xs, ∀ z ∈ c, wfId z) (hZ : Z xs) (hS : Shrt xs) (hl : fewG rs 14 = true) (hm : ¬ 14 < mx) (he : gErr rs = 0) (hk : k + 1 < xs.length) (hc : confG rs (nthL xs k) (nthL xs (k + 1)) = false) : Calls Tryz.prog 4 #[v, .slice px mx cx, .int .i64 (k : Int)] w (RetBelow (.bool true) w) := by
  have HP := Lib.hid CP
  have CF : Hid (Calls Tryz.prog 5 #[v, .int .i64 14] w (RetBelow (.bool true) w)) := Lib.hid (by have := few_any v rs 14 (by decide) w h; rw [hl] at this; exact this)
  have CC := Lib.hid (fun W (hb : Below w.heap.size w W) => refgerr_any v rs W (h.on hb) hw)
  rw [he] at CC
  have CN := Lib.hid (fun W (hb : Below w.heap.size w W) => cnew_ok HG (h.on hb) (clot_few hw hl (by omega)) he)
  have HK := Lib.hid HG
  have HR := Lib.hid TG
  obtain ⟨p', c', e', hx1, hxd⟩ := hx.parts
  have emx : mx = xs.length := by injection e'
  have epx : px = p' := by injection e'
  subst epx
  have HXL : Hid (mx = xs.length) := Lib.hid emx
  have HX14 : mx ≤ 14 := by omega
  have LX : Hid (xs.length ≤ 1000) := Lib.hid (by omega)
  have HXR := Lib.hid hx
  have HXW := Lib.hid hxw
  have HZ := Lib.hid hZ
  have HSX := Lib.hid hS
  have RC := Lib.hid (fun W (hb : Below w.heap.size w W) u x a b (ha : RowAt W u a) (hb' : RowAt W x b) => refconflict_any v u x rs a b W (h.on hb) ha hb' hw)
  have SP : Hid (mx = 0 ∨ ∃ B off, px = some ⟨B, off, none⟩ ∧ Hid (layLL.In w B off xs)) := Lib.hid (by rw [emx]; exact hxd)
  have q1 : decide ((14 : Int) < mx) = false := decide_eq_false (by omega)
  have k0 : (0 : Int) ≤ k := by omega
  have k1 : (0 : Int) ≤ (k : Int) + 1 := by omega
  have kx : (k : Int) < mx := by omega
  have kx1 : (k : Int) + 1 < mx := by omega
  have HI : Hid (-9223372036854775808 ≤ (k : Int) ∧ (k : Int) ≤ 9223372036854775807) := Lib.hid ⟨by omega, by omega⟩
  have hwr : IntKind.i64.wrap ((mx : Int) - 1) = (mx : Int) - 1 := IntWalk.i64_in _ (by omega)
  have hwr2 : IntKind.i64.wrap ((k : Int) + 1) = (k : Int) + 1 := IntWalk.i64_in _ (by omega)
  have q4 : decide ((k : Int) < (0 : Int)) = false := decide_eq_false (by omega)
  have q5 : decide ((mx : Int) - 1 ≤ (k : Int)) = false := decide_eq_false (by omega)
  have q6 : decide ((k : Int) < (mx : Int) - 1) = true := decide_eq_true (by omega)
  have HKL := Lib.hid hk
  have HCF := Lib.hid hc
  have HYP : Hid (0 ≤ (k : Int) ∧ (k : Int) + 1 < xs.length ∧ confG rs (nthL xs (k : Int).toNat) (nthL xs ((k : Int).toNat + 1)) = false) := Lib.hid ⟨k0, by omega, hc⟩
  obtain ⟨qs, hql, hqr, hqe⟩ := ll_hdrs hx
  have HQL := Lib.hid hql
  have HQR := Lib.hid hqr
  have HQE := Lib.hid hqe
  have HS1 := Lib.hid (same_swap hk hc)
  have HS2 := Lib.hid (same_swap' hk hc)
  clear h hw hl he CP e' hx1 hxd emx hx hxw hZ hS hc hk hql hqr hqe
  go_enter Tryz.func4, Tryz.ntmps4
  go_wp2_with (first
    | (go_at_call 5; ((with_reducible refine CF.out.mono ?_); rintro E w1 ⟨rfl, hb⟩; have B1 := Lib.hid hb; have C1 := Lib.hid (CC.out w1 hb); clear hb))
    | (go_at_call 6; ((with_reducible refine C1.out.mono ?_); rintro E w2 ⟨rfl, hb⟩; have B2 := Lib.hid (B1.out.trans (hb.mono B1.out.size)); have N2 := Lib.hid (CN.out w2 B2.out); clear hb))
    | (go_at_call 8; ((with_reducible refine N2.out.mono ?_); rintro E w3 ⟨g, rfl, hg, hb⟩; have B3 := Lib.hid (B2.out.trans (hb.mono B2.out.size)); have G3 := Lib.hid hg; have K3 := Lib.hid (HR.out.swap hg (.slice px mx cx) xs (k : Int) (HXR.out.on B3.out) LX.out HZ.out HXW.out HI.out.1 HI.out.2); clear hb hg))
    | (go_at_call 15; ((with_reducible refine K3.out.mono ?_); rintro E w4 ⟨o, ok, rfl, hb, hno, -⟩; obtain ⟨rfl, hr⟩ := hno HYP.out; have R4 := Lib.hid hr; have B4 := Lib.hid (B3.out.trans (hb.mono B3.out.size)); have G4 := Lib.hid (HK.out.on G3.out hb); clear hb hno hr K3))
    | fail)
  obtain ⟨B, off, rfl, HC⟩ := SP.out.resolve_left (by omega)
  obtain ⟨p0, c0, e0, r0⟩ := llAt (HC.out.on B4.out) (k := k) (by have := HKL.out; omega)
  obtain ⟨p1, c1, e1, r1⟩ := llAt (HC.out.on B4.out) (k := k + 1) HKL.out
  obtain ⟨n0, hn0⟩ : ∃ n, n = (nthL xs k).length := ⟨_, rfl⟩
  obtain ⟨n1, hn1⟩ : ∃ n, n = (nthL xs (k + 1)).length := ⟨_, rfl⟩
  have hlt := HC.out.lt
  have CA1 := Lib.hid (fun W (hw : Below w4.heap.size w4 W) => RC.out W (B4.out.trans (hw.mono B4.out.size)) _ _ _ _ (r0.on hw) (r1.on hw))
  rw [← hn0] at e0
  rw [← hn1] at e1
  rw [← hn0, ← hn1] at CA1
  have HX : Hid (∀ w', Below w4.heap.size w4 w' → w'.cell? ⟨B, off + k, none⟩ = some (.slice p0 n0 c0) ∧ w'.cell? ⟨B, off + (k + 1), none⟩ = some (.slice p1 n1 c1)) := Lib.hid (fun W hw => ⟨(hw.cell (p := ⟨B, off + k, none⟩) (Nat.lt_of_lt_of_le hlt B4.out.size)).trans e0, (hw.cell (p := ⟨B, off + (k + 1), none⟩) (Nat.lt_of_lt_of_le hlt B4.out.size)).trans e1⟩)
  have E0 := Lib.hid (Below.refl w4.heap.size w4)
  have CA2 : Hid (∀ W, Below w4.heap.size w4 W → Calls Tryz.prog 14 #[v, .slice p0 n0 c0, .slice p1 n1 c1] W (RetBelow (.bool false) W)) := Lib.hid (fun W hw => by have := CA1.out W hw; rwa [show confG rs (nthL xs k) (nthL xs (k + 1)) = false from HCF.out] at this)
  clear hn0 hn1 e0 e1 r0 r1 hlt CA1
  go_region_held3 (fun w' => w'.cell? ⟨B, off + k, none⟩ = some (.slice p0 n0 c0) ∧ w'.cell? ⟨B, off + (k + 1), none⟩ = some (.slice p1 n1 c1))
    (first
      | exact HX.out _ E1.out
      | exact HX.out _ E0.out
      | exact HX.out _ E0.out.drew)
    (first
      | (go_at_call 14; (with_reducible refine (CA2.out _ E0.out.drew).mono ?_); rintro e z1 ⟨rfl, hb1⟩; have E1 := Lib.hid (E0.out.drew.trans (hb1.mono E0.out.drew.size)); clear hb1))
  have D1 := Lib.hid (B4.out.trans (E1.out.mono B4.out.size))
  have hb5 := Cmd.below_one z1 (.cells #[] 36)
  have HO1 := Lib.hid (Wd.Own.made (D := wdSl) 36 z1 (Nat.le_refl _))
  have HB1 : Hid (z1.heap.size ≤ (z1.alloc (.cells #[] 36)).heap.size) := Lib.hid hb5.size
  have HRa := Lib.hid (HQR.out.on (D1.out.trans (hb5.mono D1.out.size)))
  have HLen : Hid (([] : List Slc).length + qs.length ≤ 1000000) := Lib.hid (by have := HQL.out; have := LX.out; simp; omega)
  have HB5 := Lib.hid hb5
  clear hb5
  go_wp2_with (first
    | (at_builtin; refine wp_wide wtSl rfl _ _ rfl z1.heap.size _ [] rfl HO1.out HB1.out _ qs rfl HRa.out HLen.out ?_; intro v4 X00 o1 o2 o3; have HO6 := Lib.hid o1.out; have HB6 := Lib.hid (HB5.out.trans o2.out); clear o1 o2 o3))
  have HO7 := HO6.out
  rw [List.nil_append] at HO7
  obtain ⟨p9, c9, rfl, -, -⟩ := Wd.Own.row HO7
  have hkq : k < qs.length := by have := HQL.out; have := HKL.out; omega
  have hkq1 : k + 1 < qs.length := by have := HQL.out; have := HKL.out; omega
  obtain ⟨g4, rfl, -⟩ := own_nth HO7 hkq
  have HP7 := Lib.hid (sl_parts HO7)
  obtain ⟨⟨a0, a1, a2⟩, ha⟩ : ∃ q, qs.getD k (none, 0, 0) = q := ⟨_, rfl⟩
  obtain ⟨⟨b0, b1, b2⟩, hb⟩ : ∃ q, qs.getD (k + 1) (none, 0, 0) = q := ⟨_, rfl⟩
  have t0 : X00.cell? ⟨g4, k, none⟩ = some (.slice a0 a1 a2) := by have := (sl_cell HO7 hkq).1; rwa [ha] at this
  have t1 : X00.cell? ⟨g4, k + 1, none⟩ = some (.slice b0 b1 b2) := by have := (sl_cell HO7 hkq1).1; rwa [hb] at this
  have f0 := (sl_cell HO7 hkq).2
  have f1 := (sl_cell HO7 hkq1).2
  obtain ⟨s1, s2⟩ := sl_store HO7 k (b0, b1, b2)
  obtain ⟨s3, s4⟩ := sl_store s1 (k + 1) (a0, a1, a2)
  have hkq2 : k + 1 < (qs.set k (b0, b1, b2)).length := by rw [List.length_set]; exact hkq1
  obtain ⟨⟨y0, y1, y2⟩, hy⟩ : ∃ q, (qs.set k (b0, b1, b2)).getD (k + 1) (none, 0, 0) = q := ⟨_, rfl⟩
  have t2 : (X00.setCell ⟨g4, k, none⟩ (.slice b0 b1 b2)).cell? ⟨g4, k + 1, none⟩ = some (.slice y0 y1 y2) := by have := (sl_cell s1 hkq2).1; rwa [hy] at this
  have f2 : (X00.setCell ⟨g4, k, none⟩ (.slice b0 b1 b2)).frozen? ⟨g4, k + 1, none⟩ = false := (sl_cell s1 hkq2).2
  have HF := Lib.hid (And.intro s3 (grown_thenS s2 s4))
  have HA := Lib.hid ha
  have HBb := Lib.hid hb
  obtain ⟨m9, hm9⟩ : ∃ m9, m9 = qs.length := ⟨_, rfl⟩
  have HM9 := Lib.hid hm9
  rw [← hm9] at HF hkq hkq1 ⊢
  have j1 : (k : Int) < m9 := by omega
  have j2 : (k : Int) + 1 < m9 := by omega
  clear HO7 ha hb hy s1 s2 s3 s4 hkq hkq1 hkq2 hm9 HO6 HO1 HB1 HRa HLen HB5 CA2 HX E0 CF CC CN C1 N2
  go_region
  have HW1 := Lib.hid (Wd.Own.below HF.out.1 (Below.refl _ _).drew)
  have D2 := Lib.hid (HB6.out.trans (grown_belowS HF.out.2 HP7.out.2.1 HB6.out.size).drew)
  have HW := Lib.hid (show wdSl.Own 36 ((X00.setCell ⟨g4, k, none⟩ (.slice b0 b1 b2)).setCell ⟨g4, k + 1, none⟩ (.slice a0 a1 a2)).drew z1.heap.size (Value.slice (some ⟨g4, 0, none⟩) m9 c9) ((qs.set k (b0, b1, b2)).set (k + 1) (a0, a1, a2)) from HW1.out)
  have D2' := Lib.hid (show Below z1.heap.size z1 ((X00.setCell ⟨g4, k, none⟩ (.slice b0 b1 b2)).setCell ⟨g4, k + 1, none⟩ (.slice a0 a1 a2)).drew from D2.out)
  clear HW1 D2 HF t0 t1 t2 f0 f1 f2 HP7 HB6
  generalize ((X00.setCell ⟨g4, k, none⟩ (.slice b0 b1 b2)).setCell ⟨g4, k + 1, none⟩ (.slice a0 a1 a2)).drew = wf at HW D2' ⊢
  have D3 := Lib.hid (D1.out.trans (D2'.out.mono D1.out.size))
  have D4 := Lib.hid (E1.out.trans (D2'.out.mono E1.out.size))
  have G5 := Lib.hid (HK.out.on G4.out (D4.out.mono (HK.out.le G4.out)))
  have R5 : Hid (layLL.Row wf o (swapG xs k)) := Lib.hid (R4.out.on D4.out)
  have RW : Hid (layLL.Row wf (Value.slice (some ⟨g4, 0, none⟩) m9 c9) (swapG xs k)) := Lib.hid (by
    have hq' : (qs.set k (b0, b1, b2)).set (k + 1) (a0, a1, a2) = (qs.set k (qs.getD (k + 1) (none, 0, 0))).set (k + 1) (qs.getD k (none, 0, 0)) := by rw [HA.out, HBb.out]
    refine ll_of (by rw [List.length_set, List.length_set, swap_len]; exact HQL.out) (Wd.Own.row HW.out) fun j hj => ?_
    rw [swap_len] at hj
    rw [hq', hdr_swap (by rw [HQL.out]; exact HKL.out), swap_at HKL.out]
    exact (HQE.out _ (sw_lt HKL.out hj)).on D3.out)
  have HXS : Hid (∀ c ∈ swapG xs k, ∀ z ∈ c, wfId z) := Lib.hid fun c hc => HXW.out c (swap_in HKL.out hc)
  have HSS : Hid (Shrt (swapG xs k)) := Lib.hid fun c hc => HSX.out c (swap_in HKL.out hc)
  have LS : Hid ((swapG xs k).length ≤ 1000) := Lib.hid (by rw [swap_len]; exact LX.out)
  have S5 := Lib.hid (refsamell_any _ _ (swapG xs k) (swapG xs k) wf R5.out RW.out (Nat.le_trans LS.out (by decide)))
  rw [decide_eq_true rfl] at S5
  clear HW D2' HA HBb HM9 RW HQE HQR
  go_wp2_with (first
    | (go_at_call 16; ((with_reducible refine S5.out.mono ?_); rintro E w6 ⟨rfl, hb⟩; have B6 := Lib.hid (D3.out.trans (hb.mono D3.out.size)); have G6 := Lib.hid (HK.out.on G5.out (hb.mono (HK.out.le G5.out))); have R6 := Lib.hid (R5.out.on hb); have K6 := Lib.hid (HR.out.same G6.out (.slice (some ⟨B, off, none⟩) mx cx) o xs (swapG xs k) (HXR.out.on B6.out) R6.out LX.out LS.out HXW.out HXS.out HSX.out HSS.out); rw [HS1.out] at K6; clear hb S5))
    | (go_at_call 9; ((with_reducible refine K6.out.mono ?_); rintro E w7 ⟨rfl, hb⟩; have B7 := Lib.hid (B6.out.trans (hb.mono B6.out.size)); have G7 := Lib.hid (HK.out.on G6.out (hb.mono (HK.out.le G6.out))); have R7 := Lib.hid (R6.out.on hb); have K7 := Lib.hid (HR.out.same G7.out o (.slice (some ⟨B, off, none⟩) mx cx) (swapG xs k) xs R7.out (HXR.out.on B7.out) LS.out LX.out HXS.out HXW.out HSS.out HSX.out); rw [HS2.out] at K7; clear hb K6))
    | (go_at_call 9; ((with_reducible refine K7.out.mono ?_); rintro E w8 ⟨rfl, hb⟩; have B8 := Lib.hid (B7.out.trans (hb.mono B7.out.size)); clear hb K7))
    | (go_at_call 7; ((with_reducible refine (HP.out _).mono ?_); rintro E w9 ⟨rfl, hb9⟩; have B9 := Lib.hid (B8.out.trans (hb9.mono B8.out.size)); clear hb9)))
  go_ret
  exact ⟨rfl, B9.out⟩
theorem tswaps_any {G : Nat → Nat → List Rcd → World → Prop} {Z : List (List Idn) → Prop} (HG : Graphs G) (TG : Traces G Z) (CP : ∀ w, Calls Tryz.prog 7 #[] w (RetBelow (.bool true) w)) (v : Value) (px : Option Addr) (mx cx : Nat) (i : Int) (rs : List Rcd) (w : World) (h : layG.Row w v rs) (xs : List (List Idn)) (hi1 : -9223372036854775808 ≤ i) (hi2 : i ≤ 9223372036854775807) (hw : ∀ x ∈ rs, wfG x) (hx : layLL.Row w (.slice px mx cx) xs) (hxw : ∀ c ∈ xs, ∀ z ∈ c, wfId z) (hZ : Z xs) (hS : Shrt xs) : Calls Tryz.prog 4 #[v, .slice px mx cx, .int .i64 i] w (RetBelow (.bool true) w) := by
  cases hl : fewG rs 14 with
  | false => exact tswap_few CP v px mx cx i rs w h hl
  | true =>
    by_cases hm : 14 < mx
    · exact tswap_long CP v px mx cx i rs w h hl hm
    · by_cases he : gErr rs = 0
      · by_cases hneg : i < 0
        · exact tswap_neg HG TG CP v px mx cx i rs w h xs hi1 hi2 hw hx hxw hZ hl hm he hneg
        · by_cases hfar : (mx : Int) - 1 ≤ i
          · exact tswap_far HG TG CP v px mx cx i rs w h xs hi1 hi2 hw hx hxw hZ hl hm he hneg hfar
          · obtain ⟨k, rfl⟩ := Int.eq_ofNat_of_zero_le (show 0 ≤ i by omega)
            obtain ⟨p', c', e', -, -⟩ := hx.parts
            have emx : mx = xs.length := by injection e'
            have hk : k + 1 < xs.length := by omega
            cases hc : confG rs (nthL xs k) (nthL xs (k + 1)) with
            | true => exact tswap_conf HG TG CP v px mx cx k rs w h xs hw hx hxw hZ hl hm he hk hc
            | false => exact tswap_ok HG TG CP v px mx cx k rs w h xs hw hx hxw hZ hS hl hm he hk hc
      · exact tswap_bad CP v px mx cx i rs w h hw hl hm he
end Go.Proofs.YtlkndpofegemdaaGreat.Tra
