/- What the document's Right gives (layer 18, canon). Conditions: the records and the lists lie in memory as their cells say; not more than 1000 records, not more than 25000 Deps, not more than 900 lists. (Written by tools/gen_cand.py.) -/
import Derived.Test.YtjokejcokgeeiaaGreatReg
import Derived.Test.YtjokejcokgeeiaaGreatCanA
namespace Go.Proofs.YtjokejcokgeeiaaGreat.Can
open Go.RowKit Cmd Bat Ids Rec Wid Gra Rea Cps
set_option linter.unusedVariables false
set_option linter.unusedSimpArgs false

/-- The i-th list may stand there. -/
def OkAt (rs : List Rcd) (x : List (List Idn)) (i : Nat) : Prop := nthL x i ∈ ofG rs ∧ nthL x i ≠ [] ∧ nth (nthL x i) 0 ∉ (x.take i).flatten ∧ ∀ y ∈ nthL x i, ∀ d ∈ dpG rs y, d ∈ (x.take i).flatten ∨ d ∈ nthL x i
theorem right_all {rs : List Rcd} {x : List (List Idn)} (h : ∀ i, i < x.length → OkAt rs x i) : rightG rs x = true := right_iff.2 h
theorem right_bad {rs : List Rcd} {x : List (List Idn)} {i : Nat} (hi : i < x.length) (h : ¬ OkAt rs x i) : rightG rs x = false := right_no fun k => h (k i hi)
noncomputable def isIn (rs : List Rcd) (x : List (List Idn)) (k t : Nat) : Bool := (List.range t).any fun q => decide (nthL (ofG rs) q = nthL x k)
theorem isIn_succ (rs : List Rcd) (x : List (List Idn)) (k t : Nat) : isIn rs x k (t + 1) = (isIn rs x k t || decide (nthL (ofG rs) t = nthL x k)) := by
  unfold isIn
  rw [List.range_succ, List.any_append]
  simp
theorem isIn_all {rs : List Rcd} {x : List (List Idn)} {k : Nat} : isIn rs x k (ofG rs).length = true ↔ nthL x k ∈ ofG rs := by
  unfold isIn
  rw [List.any_eq_true]
  constructor
  · rintro ⟨q, hq, e⟩
    rw [← of_decide_eq_true e]; exact nthL_in (List.mem_range.1 hq)
  · intro h
    obtain ⟨q, hq, e⟩ := in_nthL h
    exact ⟨q, List.mem_range.2 hq, decide_eq_true e⟩
theorem comp_len {rs : List Rcd} {c : List Idn} (hc : c ∈ ofG rs) : c.length ≤ rs.length := by
  have h1 := nodup_lenI ((of_parts rs).nd c hc) (b := allR rs) fun z hz => all_mem.2 (comp_mut hc hz hz).2
  exact Nat.le_trans h1 (allR_len rs)
theorem flat_few {rs : List Rcd} {N : Nat} (hN : rs.length ≤ N) : ∀ {l : List (List Idn)}, (∀ c ∈ l, c ∈ ofG rs) → l.flatten.length ≤ l.length * N
  | [], _ => by simp
  | c :: l, h => by
    have h1 := comp_len (h c List.mem_cons_self)
    have h2 := flat_few hN (l := l) fun e he => h e (List.mem_cons_of_mem _ he)
    rw [List.flatten_cons, List.length_append, List.length_cons, Nat.succ_mul]; omega
set_option maxRecDepth 100000 in
set_option maxHeartbeats 16000000 in
theorem refright_any (v u : Value) (rs : List Rcd) (x : List (List Idn)) (w : World) (h : layG.Row w v rs) (g : layLL.Row w u x) (hl : (depsG rs).length ≤ 25000) (hl' : rs.length ≤ 1000) (hx : x.length ≤ 900) :
    Calls Tryz.prog 13 #[v, u] w (RetBelow (.bool (rightG rs x)) w) := by
  obtain ⟨pv, capv, rfl, h1v, hdv⟩ := h.parts
  have HV := Lib.hid h
  have HN := Lib.hid (And.intro hl' hx)
  have HOf := Lib.hid (refof_any _ rs w h hl (by omega))
  obtain ⟨nv, hnv⟩ : ∃ nv, nv = rs.length := ⟨_, rfl⟩
  have HNv := Lib.hid hnv
  rw [← hnv] at h1v hdv HV HOf ⊢
  obtain ⟨px, cx, rfl, hc1, hc2, g3⟩ := g
  have HX := Lib.hid (show layLL.Row w (.slice px x.length cx) x from ⟨px, cx, rfl, hc1, hc2, g3⟩)
  obtain ⟨n, hn⟩ : ∃ n, n = x.length := ⟨_, rfl⟩
  have HLn := Lib.hid hn
  rw [← hn] at hc1 HX ⊢
  have HG3 := Lib.hid g3
  clear h hl hl' hx hn g3 hnv
  go_enter Tryz.func13, Tryz.ntmps13
  go_wp2_with (first
    | (go_at_call 28; ((with_reducible refine HOf.out.mono ?_); rintro e W1 ⟨uo, rfl, hr, hb⟩; have HR1 := Lib.hid hr; have HB1 := Lib.hid hb; clear hr hb)))
  obtain ⟨po, co, rfl, h1o, hdo⟩ := HR1.out.parts
  obtain ⟨no, hno⟩ : ∃ no, no = (ofG rs).length := ⟨_, rfl⟩
  have HNo := Lib.hid hno
  rw [← hno] at h1o hdo HR1 ⊢
  clear hno
  go_loopw [6] (fun i wr => ∃ k : Nat, k ≤ n ∧ i = .int .i64 k ∧ Hid (Below W1.heap.size W1 wr) ∧ Hid (∀ j, j < k → OkAt rs x j)) (fun i _ => n - (intOf i).toNat)
  case atStart => exact ⟨0, Nat.zero_le _, rfl, Lib.hid (Below.refl _ _), Lib.hid fun j hj => absurd hj (Nat.not_lt_zero _)⟩
  case round =>
    obtain ⟨k, hk, rfl, HBw, HOk⟩ := hrel
    have k0 : (0 : Int) ≤ k := by omega
    by_cases hkn : k < n
    · have kn : (k : Int) < n := by omega
      have hkx : k < x.length := by rw [← HLn.out]; exact hkn
      obtain ⟨Bx, offx, rfl, HIx⟩ := HG3.out (fun e => by rw [e] at hkx; simp at hkx)
      have HIx := Lib.hid HIx
      obtain ⟨qx, mx, hcx, hrx⟩ := llAt (HIx.out.on HB1.out) hkx
      have HXk : Hid (∀ X, Below W1.heap.size W1 X → X.cell? ⟨Bx, offx + k, none⟩ = some (.slice qx (nthL x k).length mx) ∧ RowAt X (.slice qx (nthL x k).length mx) (nthL x k)) := Lib.hid fun X hb => ⟨(hb.cell (p := ⟨Bx, offx + k, none⟩) (Nat.lt_of_lt_of_le HIx.out.lt HB1.out.size)).trans hcx, hrx.on hb⟩
      obtain ⟨cn, hcn⟩ : ∃ cn, cn = (nthL x k).length := ⟨_, rfl⟩
      have HCn := Lib.hid hcn
      have hcnb : cn ≤ 9223372036854775807 := by
        obtain ⟨_, _, _, hb, _⟩ := Rec.RowAt.parts hrx
        rw [hcn]; exact hb
      rw [← hcn] at HXk
      clear hcx hrx hcn
      go_wp2
      obtain ⟨wO, hwO⟩ : ∃ wO, wO = wr := ⟨_, rfl⟩
      rw [← hwO] at HBw ⊢
      clear hwO
      go_loopw [7, 8] (fun b i wr => ∃ t : Nat, t ≤ no ∧ i = .int .i64 t ∧ b = .bool (isIn rs x k t) ∧ Hid (Below wO.heap.size wO wr)) (fun _ i _ => no - (intOf i).toNat)
      case atStart => exact ⟨0, Nat.zero_le _, rfl, rfl, Lib.hid (Below.refl _ _)⟩
      case round =>
        obtain ⟨t, ht, rfl, rfl, HBt⟩ := hrel
        have t0 : (0 : Int) ≤ t := by omega
        have HBs := Lib.hid (HBw.out.trans (HBt.out.mono HBw.out.size))
        by_cases htn : t < no
        · have tn : (t : Int) < no := by omega
          obtain ⟨ib, hib⟩ : ∃ ib, ib = isIn rs x k t := ⟨_, rfl⟩
          have HIb := Lib.hid hib
          rw [← hib]
          clear hib
          cases ib
          · obtain ⟨Bo, offo, rfl, HIo⟩ := hdo.resolve_left (by omega)
            have hto : t < (ofG rs).length := by rw [← HNo.out]; exact htn
            obtain ⟨p1, c1, hc1', hr1⟩ := llAt HIo.out hto
            obtain ⟨n1, hn1⟩ : ∃ n1, n1 = (nthL (ofG rs) t).length := ⟨_, rfl⟩
            have hc1'' : W1.cell? ⟨Bo, offo + t, none⟩ = some (.slice p1 n1 c1) := by rw [hn1]; exact hc1'
            have hr1' : RowAt W1 (.slice p1 n1 c1) (nthL (ofG rs) t) := by rw [hn1]; exact hr1
            have HS : Hid (∀ w', Below wr.heap.size wr w' → w'.cell? ⟨Bo, offo + t, none⟩ = some (.slice p1 n1 c1) ∧ w'.cell? ⟨Bx, offx + k, none⟩ = some (.slice qx cn mx)) := Lib.hid fun w' hb => by
              have hbb := HBs.out.trans (hb.mono HBs.out.size)
              exact ⟨(hbb.cell (p := ⟨Bo, offo + t, none⟩) HIo.out.lt).trans hc1'', (HXk.out w' hbb).1⟩
            have HSm := Lib.hid (fun X (hb : Below wr.heap.size wr X) => Ids.same_any (.slice p1 n1 c1) (.slice qx cn mx) _ _ X (hr1'.on (HBs.out.trans (hb.mono HBs.out.size))) (HXk.out X (HBs.out.trans (hb.mono HBs.out.size))).2)
            obtain ⟨lb, hlb⟩ : ∃ lb, lb = decide (nthL (ofG rs) t = nthL x k) := ⟨_, rfl⟩
            have HLb := Lib.hid hlb
            rw [← hlb] at HSm
            have D0 : Hid (Below wr.heap.size wr wr.drew) := Lib.hid (Below.refl _ _).drew
            clear hlb hn1 hc1' hr1 hto hdo hc1'' hr1'
            go_upto_region 9 with fail
            refine wp_region_held_drew (S := (fun w' => w'.cell? ⟨Bo, offo + t, none⟩ = some (.slice p1 n1 c1) ∧ w'.cell? ⟨Bx, offx + k, none⟩ = some (.slice qx cn mx))) (by kernel_rfl) (HS.out _ D0.out) (fun hHeld => ?_)
            generalize wr.drew = Y0 at D0 hHeld ⊢
            refine ty (v := ?_) 0 (fun w hSw => ?_) ?_
            rotate_left
            · (try dsimp only at hSw); go_simp; (try with_reducible rfl)
            try simp only [List.getElem_toArray, List.getElem_cons_succ, List.getElem_cons_zero, Act.put, List.setIfInBounds_toArray, List.set_cons_zero, List.set_cons_succ]
            refine ty (v := ?_) 1 (fun w hSw => ?_) ?_
            rotate_left
            · (try dsimp only at hSw); go_simp; (try with_reducible rfl)
            try simp only [List.getElem_toArray, List.getElem_cons_succ, List.getElem_cons_zero, Act.put, List.setIfInBounds_toArray, List.set_cons_zero, List.set_cons_succ]
            refine ty (v := ?_) 2 (fun w hSw => ?_) ?_
            rotate_left
            · (try dsimp only at hSw); go_simp; (try with_reducible rfl)
            try simp only [List.getElem_toArray, List.getElem_cons_succ, List.getElem_cons_zero, Act.put, List.setIfInBounds_toArray, List.set_cons_zero, List.set_cons_succ]
            refine ty (v := ?_) 3 (fun w hSw => ?_) ?_
            rotate_left
            · (try dsimp only at hSw); go_simp; (try with_reducible rfl)
            try simp only [List.getElem_toArray, List.getElem_cons_succ, List.getElem_cons_zero, Act.put, List.setIfInBounds_toArray, List.set_cons_zero, List.set_cons_succ]
            refine ty (v := ?_) 4 (fun w hSw => ?_) ?_
            rotate_left
            · (try dsimp only at hSw); go_simp; (try with_reducible rfl)
            try simp only [List.getElem_toArray, List.getElem_cons_succ, List.getElem_cons_zero, Act.put, List.setIfInBounds_toArray, List.set_cons_zero, List.set_cons_succ]
            refine ty (v := ?_) 5 (fun w hSw => ?_) ?_
            rotate_left
            · (try dsimp only at hSw); go_simp; (try with_reducible rfl)
            try simp only [List.getElem_toArray, List.getElem_cons_succ, List.getElem_cons_zero, Act.put, List.setIfInBounds_toArray, List.set_cons_zero, List.set_cons_succ]
            refine ty (v := ?_) 6 (fun w hSw => ?_) ?_
            rotate_left
            · (try dsimp only at hSw); go_simp; (try with_reducible rfl)
            try simp only [List.getElem_toArray, List.getElem_cons_succ, List.getElem_cons_zero, Act.put, List.setIfInBounds_toArray, List.set_cons_zero, List.set_cons_succ]
            refine ty (v := ?_) 7 (fun w hSw => ?_) ?_
            rotate_left
            · (try dsimp only at hSw); go_simp; (try with_reducible rfl)
            try simp only [List.getElem_toArray, List.getElem_cons_succ, List.getElem_cons_zero, Act.put, List.setIfInBounds_toArray, List.set_cons_zero, List.set_cons_succ]
            refine ty (v := ?_) 8 (fun w hSw => ?_) ?_
            rotate_left
            · (try dsimp only at hSw); go_simp; (try with_reducible rfl)
            try simp only [List.getElem_toArray, List.getElem_cons_succ, List.getElem_cons_zero, Act.put, List.setIfInBounds_toArray, List.set_cons_zero, List.set_cons_succ]
            refine ty (v := ?_) 9 (fun w hSw => ?_) ?_
            rotate_left
            · (try dsimp only at hSw); go_simp; (try with_reducible rfl)
            try simp only [List.getElem_toArray, List.getElem_cons_succ, List.getElem_cons_zero, Act.put, List.setIfInBounds_toArray, List.set_cons_zero, List.set_cons_succ]
            refine tr 10 (fun K hK => ?_)
            go_simp
            (go_at_call 14; ((with_reducible refine (HSm.out _ D0.out).mono ?_); rintro e w1 ⟨rfl, hb⟩; have D1 := Lib.hid (D0.out.trans (hb.mono D0.out.size)); clear hb))
            refine hK.out _ _ ?_ (fun hHeld => ?_)
            · exact HS.out _ D1.out
            clear hK K
            try simp only [List.getElem_toArray, List.getElem_cons_succ, List.getElem_cons_zero, Act.put, List.setIfInBounds_toArray, List.set_cons_zero, List.set_cons_succ]
            refine ty (v := ?_) 11 (fun w hSw => ?_) ?_
            rotate_left
            · (try dsimp only at hSw); go_simp; (try with_reducible rfl)
            try simp only [List.getElem_toArray, List.getElem_cons_succ, List.getElem_cons_zero, Act.put, List.setIfInBounds_toArray, List.set_cons_zero, List.set_cons_succ]
            refine ty (v := ?_) 12 (fun w hSw => ?_) ?_
            rotate_left
            · (try dsimp only at hSw); go_simp; (try with_reducible rfl)
            try simp only [List.getElem_toArray, List.getElem_cons_succ, List.getElem_cons_zero, Act.put, List.setIfInBounds_toArray, List.set_cons_zero, List.set_cons_succ]
            refine wpAnyH_done (by kernel_rfl) ?_ _
            go_wp2
            go_roundw
            case rel => exact ⟨t + 1, by omega, by go_num, by rw [isIn_succ, ← HIb.out, ← HLb.out]; rfl, Lib.hid (HBt.out.trans (D1.out.mono HBt.out.size))⟩
            case measure => simp [intOf]; omega
          · go_wp2
            go_quiet (fail)
            go_wp2
            go_roundw
            case rel => exact ⟨t + 1, by omega, by go_num, by rw [isIn_succ, ← HIb.out]; rfl, Lib.hid (HBt.out.trans ((Ids.below_draws _ _).mono HBt.out.size))⟩
            case measure => simp [intOf]; omega
        · have tn : ¬ (t : Int) < no := by omega
          obtain ⟨ib, hib⟩ : ∃ ib, ib = isIn rs x k t := ⟨_, rfl⟩
          have HIb : Hid (ib = true ↔ nthL x k ∈ ofG rs) := Lib.hid (by rw [hib, show t = (ofG rs).length by rw [← HNo.out]; omega]; exact isIn_all)
          rw [← hib]
          clear hib
          cases ib
          · have HE : Hid (rightG rs x = false) := Lib.hid (right_bad hkx fun h => by have := HIb.out.2 h.1; cases this)
            clear hdo hkx
            go_wp2
            go_ret
            exact ⟨ret_bool HE.out.symm, HB1.out.trans (HBs.out.mono HB1.out.size)⟩
          · have hof := HIb.out.1 rfl
            have hne := comp_some hof
            have hcp : 0 < cn := by rw [HCn.out]; exact List.length_pos_iff.2 hne
            have hcq : ((cn : Int) == 0) = false := beq_eq_false_iff_ne.2 (by omega)
            have hci : (0 : Int) < cn := by omega
            obtain ⟨hcell, hrowx⟩ := HXk.out wr HBs.out
            have hkc : k ≤ cx := by omega
            have HRowT : Hid (layLL.Row wr (.slice (some ⟨Bx, offx, none⟩) k cx) (x.take k)) := Lib.hid (by
              have := row_first ((HX.out.on HB1.out).on HBs.out) k (by rw [← HLn.out]; omega)
              rwa [cutw_some] at this)
            have HFl := Lib.hid (refflat_any _ (x.take k) wr HRowT.out (by
              have h1 := flat_few HN.out.1 (l := x.take k) (fun c hc => by
                obtain ⟨j, hj, e⟩ := in_nthL hc
                rw [List.length_take] at hj
                rw [← e, nthL_take (by omega)]
                exact (HOk.out j (by omega)).1)
              have h2 : (x.take k).length ≤ 900 := by rw [List.length_take]; have := HN.out.2; omega
              have h3 := Nat.mul_le_mul_right 1000 h2
              omega))
            obtain ⟨B1, off1, hqx, HI1⟩ : ∃ B off, qx = some ⟨B, off, none⟩ ∧ Hid (Row2 wr B off (nthL x k)) := by
              obtain ⟨q, c, e, -, hh⟩ := Rec.RowAt.parts hrowx
              injection e with e1 e2 e3
              subst e1
              exact hh.resolve_left (by rw [← HCn.out]; omega)
            subst hqx
            obtain ⟨⟨y1, y2⟩, hy⟩ : ∃ q, nth (nthL x k) 0 = q := ⟨_, rfl⟩
            have d0 := HI1.out.fst 0 (by rw [← HCn.out]; exact hcp)
            have d1 := HI1.out.snd 0 (by rw [← HCn.out]; exact hcp)
            rw [hy] at d0 d1
            rw [Nat.zero_mul, Nat.add_zero] at d0 d1
            have HD01 := Lib.hid (And.intro d0 d1)
            have HHas := Lib.hid (fun X a (hb : Below wr.heap.size wr X) (ha : RowAt X a (x.take k).flatten) => refhas_any a _ y1 y2 X ha)
            have HKc := Lib.hid (fun X (hb : Below wr.heap.size wr X) => And.intro (HXk.out X (HBs.out.trans (hb.mono HBs.out.size))).1 (And.intro ((hb.cell (p := ⟨B1, off1, none⟩) HI1.out.lt).trans d0) ((hb.cell (p := ⟨B1, off1 + 1, none⟩) HI1.out.lt).trans d1)))
            have HY := Lib.hid (And.intro hof (And.intro hne hy))
            by_cases hin : (y1, y2) ∈ (x.take k).flatten
            · rw [decide_eq_true hin] at HHas
              have HE : Hid (rightG rs x = false) := Lib.hid (right_bad hkx fun h => h.2.2.1 (by rw [hy]; exact hin))
              clear hdo hkx hof hne hin hy hrowx d0 d1
              go_wp2_with (first
                | (go_at_call 16; ((with_reducible refine HFl.out.mono ?_); rintro e w3 ⟨ua, rfl, ho, hb⟩; obtain ⟨q3, q4, q5⟩ := HKc.out w3 hb; have HH3 := Lib.hid (HHas.out w3 ua hb ho.row); have B3 := Lib.hid hb; clear hb ho))
                | (go_at_call 34; ((with_reducible refine HH3.out.mono ?_); rintro e w4 ⟨rfl, hb⟩; have B4 := Lib.hid (B3.out.trans (hb.mono B3.out.size)); clear hb)))
              go_ret
              exact ⟨ret_bool HE.out.symm, HB1.out.trans ((HBs.out.trans (B4.out.mono HBs.out.size)).mono HB1.out.size)⟩
            · rw [decide_eq_false hin] at HHas
              have HNin := Lib.hid hin
              clear hof hne hin hy hrowx d0 d1
              go_wp2_with (first
                | (go_at_call 16; ((with_reducible refine HFl.out.mono ?_); rintro e w3 ⟨ua, rfl, ho, hb⟩; obtain ⟨q3, q4, q5⟩ := HKc.out w3 hb; have HH3 := Lib.hid (HHas.out w3 ua hb ho.row); have B3 := Lib.hid hb; have HA3 := Lib.hid ho.row; clear hb ho))
                | (go_at_call 34; ((with_reducible refine HH3.out.mono ?_); rintro e w4 ⟨rfl, hb⟩; have B4 := Lib.hid (HBs.out.trans ((B3.out.trans (hb.mono B3.out.size)).mono HBs.out.size)); have HA4 := Lib.hid (HA3.out.on hb); clear hb)))
              clear q3 q4 q5 hcell
              -- each id of the list
              go_loopw [10] (fun i wr => ∃ s : Nat, s ≤ cn ∧ i = .int .i64 s ∧ Hid (Below w4.heap.size w4 wr) ∧ Hid (∀ y ∈ (nthL x k).take s, ∀ d ∈ dpG rs y, d ∈ (x.take k).flatten ∨ d ∈ nthL x k)) (fun i _ => cn - (intOf i).toNat)
              case atStart => exact ⟨0, Nat.zero_le _, rfl, Lib.hid (Below.refl _ _), Lib.hid (fun y hy => by simp at hy)⟩
              case round =>
                obtain ⟨s, hs, rfl, HBy, HDs⟩ := hrel
                have s0 : (0 : Int) ≤ s := by omega
                have HBz := Lib.hid (B4.out.trans (HBy.out.mono B4.out.size))
                obtain ⟨hcell, hrowx⟩ := HXk.out wr HBz.out
                by_cases hsn : s < cn
                · have sn : (s : Int) < cn := by omega
                  have hsx : s < (nthL x k).length := by rw [← HCn.out]; exact hsn
                  obtain ⟨⟨z1, z2⟩, hz⟩ : ∃ q, nth (nthL x k) s = q := ⟨_, rfl⟩
                  obtain ⟨q, c, e, -, hh⟩ := Rec.RowAt.parts hrowx
                  injection e with e1 e2 e3
                  clear e2 e3
                  subst e1
                  obtain ⟨B2, off2, e4, HI2⟩ := hh.resolve_left (by omega)
                  injection e4 with e4
                  injection e4 with e5 e6
                  subst e5; subst e6
                  have f0 := HI2.out.fst s hsx
                  have f1 := HI2.out.snd s hsx
                  rw [hz] at f0 f1
                  have hzm : (z1, z2) ∈ nthL x k := by rw [← hz]; exact nth_in hsx
                  have hTs : (nthL x k).take (s + 1) = (nthL x k).take s ++ [(z1, z2)] := by rw [take_nth hsx, hz]
                  have hzid : (z1, z2) ∈ idsG rs := closed_mem.1 (comp_mut HY.out.1 hzm hzm).2 _ (.here _)
                  have HF := Lib.hid (find_any _ rs z1 z2 wr ((HV.out.on HB1.out).on HBz.out))
                  rcases find_cases rs (z1, z2) with ⟨j, hj, hje, hjn, hf, hjm⟩ | ⟨hf, hjm⟩
                  rotate_left
                  · exact absurd hzid hjm
                  obtain ⟨B', off', rfl, HCR⟩ : ∃ B' off', pv = some ⟨B', off', none⟩ ∧ Hid (layG.In w B' off' rs) := hdv.resolve_left (by rw [HNv.out]; omega)
                  obtain ⟨⟨⟨x', y'⟩, q', ds, cs⟩, hx⟩ : ∃ t, layG.at rs j = t := ⟨_, rfl⟩
                  have hdp : dpG rs (z1, z2) = ds := by rw [dp_at hj hje hjn, hx]
                  obtain ⟨p1, k1, p2, k2, hr, hd1, -⟩ := rcdAt HCR.out hj hx
                  have HR := Lib.hid (hr.on HB1.out)
                  have HRD : Hid (ds.length = 0 ∨ ∃ B off, p1 = some ⟨B, off, none⟩ ∧ Hid (Row2 W1 B off ds)) := Lib.hid (by
                    obtain ⟨p3, k3, e3, -, h3⟩ := Rec.RowAt.parts (hr.on HB1.out).rd
                    cases e3; exact h3)
                  obtain ⟨nd, hnd⟩ : ∃ nd, nd = ds.length := ⟨_, rfl⟩
                  rw [← hnd] at HR HRD hd1
                  have HDN := Lib.hid hnd
                  have HZ := Lib.hid (And.intro hzm (And.intro hdp hTs))
                  rw [hf] at HF
                  have jn : (j : Int) < nv := by rw [HNv.out]; omega
                  have j0 : (0 : Int) ≤ j := by omega
                  have HRc := Lib.hid (fun X (hb : Below wr.heap.size wr X) => (HR.out.on (HBz.out.trans (hb.mono HBz.out.size))).c3)
                  clear hz hf hjm hx hje hjn hr hdp hnd hj hzm hTs hzid hrowx hh
                  go_wp2_with (first
                    | (go_at_call 20; ((with_reducible refine HF.out.mono ?_); rintro e w5 ⟨rfl, hb⟩; have q3 := HRc.out w5 hb; have q3' : w5.cell? ⟨B', off' + j * 5 + 2 + 1, none⟩ = some (.slice p1 nd k1) := q3; have B5 := Lib.hid (HBz.out.trans (hb.mono HBz.out.size)); have B5' := Lib.hid (HBy.out.trans (hb.mono HBy.out.size)); clear hb q3)))
                  clear q3' hcell f0 f1
                  go_loopw [12] (fun i wr => ∃ r : Nat, r ≤ nd ∧ i = .int .i64 r ∧ Hid (Below w4.heap.size w4 wr) ∧ Hid (∀ d ∈ ds.take r, d ∈ (x.take k).flatten ∨ d ∈ nthL x k)) (fun i _ => nd - (intOf i).toNat)
                  case atStart => exact ⟨0, Nat.zero_le _, rfl, B5', Lib.hid (fun d hd => by simp at hd)⟩
                  case round =>
                    obtain ⟨r, hr, rfl, HBr, HDr⟩ := hrel
                    have r0 : (0 : Int) ≤ r := by omega
                    by_cases hrn : r < nd
                    · have rn : (r : Int) < nd := by omega
                      obtain ⟨BD, offD, rfl, HCD⟩ := HRD.out.resolve_left (by omega)
                      have hrl : r < ds.length := by rw [← HDN.out]; exact hrn
                      obtain ⟨⟨e1, e2⟩, hde⟩ : ∃ q, nth ds r = q := ⟨_, rfl⟩
                      have HBq := Lib.hid (B4.out.trans (HBr.out.mono B4.out.size))
                      have HS : Hid (∀ w', Below wr.heap.size wr w' → w'.cell? ⟨BD, offD + r * 2, none⟩ = some (.int .i64 e1) ∧ w'.cell? ⟨BD, offD + r * 2 + 1, none⟩ = some (.int .i64 e2) ∧ w'.cell? ⟨Bx, offx + k, none⟩ = some (.slice (some ⟨B1, off1, none⟩) cn mx)) := Lib.hid fun w' hb => by
                        have hbb := HBq.out.trans (hb.mono HBq.out.size)
                        have g0 := (HCD.out.on hbb).fst r hrl
                        have g1 := (HCD.out.on hbb).snd r hrl
                        rw [hde] at g0 g1
                        exact ⟨g0, g1, (HXk.out w' hbb).1⟩
                      have HHa := Lib.hid (fun X (hb : Below wr.heap.size wr X) => refhas_any ua (x.take k).flatten e1 e2 X (HA4.out.on (HBr.out.trans (hb.mono HBr.out.size))))
                      have HHx := Lib.hid (fun X (hb : Below wr.heap.size wr X) => refhas_any _ (nthL x k) e1 e2 X (HXk.out X (HBq.out.trans (hb.mono HBq.out.size))).2)
                      have D0 : Hid (Below wr.heap.size wr wr.drew) := Lib.hid (Below.refl _ _).drew
                      have hdm : (e1, e2) ∈ ds := by rw [← hde]; exact nth_in hrl
                      have hTr : ds.take (r + 1) = ds.take r ++ [(e1, e2)] := by rw [take_nth hrl, hde]
                      by_cases hia : (e1, e2) ∈ (x.take k).flatten
                      · rw [decide_eq_true hia] at HHa
                        have HDr2 : Hid (∀ d ∈ ds.take (r + 1), d ∈ (x.take k).flatten ∨ d ∈ nthL x k) := Lib.hid fun d hd => by
                          rw [hTr] at hd
                          rcases List.mem_append.1 hd with hd | hd
                          · exact HDr.out d hd
                          · rw [List.mem_singleton.1 hd]; exact .inl hia
                        clear hrl hde hdm hTr hia
                        go_upto_region 22 with fail
                        refine wp_region_held_drew (S := (fun w' => w'.cell? ⟨BD, offD + r * 2, none⟩ = some (.int .i64 e1) ∧ w'.cell? ⟨BD, offD + r * 2 + 1, none⟩ = some (.int .i64 e2) ∧ w'.cell? ⟨Bx, offx + k, none⟩ = some (.slice (some ⟨B1, off1, none⟩) cn mx))) (by kernel_rfl) (HS.out _ D0.out) (fun hHeld => ?_)
                        generalize wr.drew = Y0 at D0 hHeld ⊢
                        refine ty (v := ?_) 0 (fun w hSw => ?_) ?_
                        rotate_left
                        · (try dsimp only at hSw); go_simp; (try with_reducible rfl)
                        try simp only [List.getElem_toArray, List.getElem_cons_succ, List.getElem_cons_zero, Act.put, List.setIfInBounds_toArray, List.set_cons_zero, List.set_cons_succ]
                        refine ty (v := ?_) 1 (fun w hSw => ?_) ?_
                        rotate_left
                        · (try dsimp only at hSw); go_simp; (try with_reducible rfl)
                        try simp only [List.getElem_toArray, List.getElem_cons_succ, List.getElem_cons_zero, Act.put, List.setIfInBounds_toArray, List.set_cons_zero, List.set_cons_succ]
                        refine ty (v := ?_) 2 (fun w hSw => ?_) ?_
                        rotate_left
                        · (try dsimp only at hSw); go_simp; (try with_reducible rfl)
                        try simp only [List.getElem_toArray, List.getElem_cons_succ, List.getElem_cons_zero, Act.put, List.setIfInBounds_toArray, List.set_cons_zero, List.set_cons_succ]
                        refine ty (v := ?_) 3 (fun w hSw => ?_) ?_
                        rotate_left
                        · (try dsimp only at hSw); go_simp; (try with_reducible rfl)
                        try simp only [List.getElem_toArray, List.getElem_cons_succ, List.getElem_cons_zero, Act.put, List.setIfInBounds_toArray, List.set_cons_zero, List.set_cons_succ]
                        refine ty (v := ?_) 4 (fun w hSw => ?_) ?_
                        rotate_left
                        · (try dsimp only at hSw); go_simp; (try with_reducible rfl)
                        try simp only [List.getElem_toArray, List.getElem_cons_succ, List.getElem_cons_zero, Act.put, List.setIfInBounds_toArray, List.set_cons_zero, List.set_cons_succ]
                        refine tr 5 (fun K hK => ?_)
                        go_simp
                        (go_at_call 34; ((with_reducible refine (HHa.out _ D0.out).mono ?_); rintro e w6 ⟨rfl, hb⟩; have D1 := Lib.hid (D0.out.trans (hb.mono D0.out.size)); clear hb))
                        refine hK.out _ _ ?_ (fun hHeld => ?_)
                        · exact HS.out _ D1.out
                        clear hK K
                        try simp only [List.getElem_toArray, List.getElem_cons_succ, List.getElem_cons_zero, Act.put, List.setIfInBounds_toArray, List.set_cons_zero, List.set_cons_succ]
                        refine ty (v := ?_) 6 (fun w hSw => ?_) ?_
                        rotate_left
                        · (try dsimp only at hSw); go_simp; (try with_reducible rfl)
                        try simp only [List.getElem_toArray, List.getElem_cons_succ, List.getElem_cons_zero, Act.put, List.setIfInBounds_toArray, List.set_cons_zero, List.set_cons_succ]
                        refine ty (v := ?_) 7 (fun w hSw => ?_) ?_
                        rotate_left
                        · (try dsimp only at hSw); go_simp; (try with_reducible rfl)
                        try simp only [List.getElem_toArray, List.getElem_cons_succ, List.getElem_cons_zero, Act.put, List.setIfInBounds_toArray, List.set_cons_zero, List.set_cons_succ]
                        refine ts 8 ?_
                        try simp only [List.getElem_toArray, List.getElem_cons_succ, List.getElem_cons_zero, Act.put, List.setIfInBounds_toArray, List.set_cons_zero, List.set_cons_succ]
                        refine ts 9 ?_
                        try simp only [List.getElem_toArray, List.getElem_cons_succ, List.getElem_cons_zero, Act.put, List.setIfInBounds_toArray, List.set_cons_zero, List.set_cons_succ]
                        refine ts 10 ?_
                        try simp only [List.getElem_toArray, List.getElem_cons_succ, List.getElem_cons_zero, Act.put, List.setIfInBounds_toArray, List.set_cons_zero, List.set_cons_succ]
                        refine ts 11 ?_
                        try simp only [List.getElem_toArray, List.getElem_cons_succ, List.getElem_cons_zero, Act.put, List.setIfInBounds_toArray, List.set_cons_zero, List.set_cons_succ]
                        refine ts 12 ?_
                        try simp only [List.getElem_toArray, List.getElem_cons_succ, List.getElem_cons_zero, Act.put, List.setIfInBounds_toArray, List.set_cons_zero, List.set_cons_succ]
                        refine ts 13 ?_
                        try simp only [List.getElem_toArray, List.getElem_cons_succ, List.getElem_cons_zero, Act.put, List.setIfInBounds_toArray, List.set_cons_zero, List.set_cons_succ]
                        refine ts 14 ?_
                        try simp only [List.getElem_toArray, List.getElem_cons_succ, List.getElem_cons_zero, Act.put, List.setIfInBounds_toArray, List.set_cons_zero, List.set_cons_succ]
                        refine ts 15 ?_
                        try simp only [List.getElem_toArray, List.getElem_cons_succ, List.getElem_cons_zero, Act.put, List.setIfInBounds_toArray, List.set_cons_zero, List.set_cons_succ]
                        refine ts 16 ?_
                        try simp only [List.getElem_toArray, List.getElem_cons_succ, List.getElem_cons_zero, Act.put, List.setIfInBounds_toArray, List.set_cons_zero, List.set_cons_succ]
                        refine ts 17 ?_
                        try simp only [List.getElem_toArray, List.getElem_cons_succ, List.getElem_cons_zero, Act.put, List.setIfInBounds_toArray, List.set_cons_zero, List.set_cons_succ]
                        refine ty (v := ?_) 18 (fun w hSw => ?_) ?_
                        rotate_left
                        · (try dsimp only at hSw); go_simp; (try with_reducible rfl)
                        try simp only [List.getElem_toArray, List.getElem_cons_succ, List.getElem_cons_zero, Act.put, List.setIfInBounds_toArray, List.set_cons_zero, List.set_cons_succ]
                        refine wpAnyH_done (by kernel_rfl) ?_ _
                        go_wp2
                        go_roundw
                        case rel => exact ⟨r + 1, by omega, by go_num, Lib.hid (HBr.out.trans (D1.out.mono HBr.out.size)), HDr2⟩
                        case measure => simp [intOf]; omega
                      · rw [decide_eq_false hia] at HHa
                        by_cases hix : (e1, e2) ∈ nthL x k
                        · rw [decide_eq_true hix] at HHx
                          have HDr2 : Hid (∀ d ∈ ds.take (r + 1), d ∈ (x.take k).flatten ∨ d ∈ nthL x k) := Lib.hid fun d hd => by
                            rw [hTr] at hd
                            rcases List.mem_append.1 hd with hd | hd
                            · exact HDr.out d hd
                            · rw [List.mem_singleton.1 hd]; exact .inr hix
                          clear hrl hde hdm hTr hia hix
                          go_upto_region 22 with fail
                          refine wp_region_held_drew (S := (fun w' => w'.cell? ⟨BD, offD + r * 2, none⟩ = some (.int .i64 e1) ∧ w'.cell? ⟨BD, offD + r * 2 + 1, none⟩ = some (.int .i64 e2) ∧ w'.cell? ⟨Bx, offx + k, none⟩ = some (.slice (some ⟨B1, off1, none⟩) cn mx))) (by kernel_rfl) (HS.out _ D0.out) (fun hHeld => ?_)
                          generalize wr.drew = Y0 at D0 hHeld ⊢
                          refine ty (v := ?_) 0 (fun w hSw => ?_) ?_
                          rotate_left
                          · (try dsimp only at hSw); go_simp; (try with_reducible rfl)
                          try simp only [List.getElem_toArray, List.getElem_cons_succ, List.getElem_cons_zero, Act.put, List.setIfInBounds_toArray, List.set_cons_zero, List.set_cons_succ]
                          refine ty (v := ?_) 1 (fun w hSw => ?_) ?_
                          rotate_left
                          · (try dsimp only at hSw); go_simp; (try with_reducible rfl)
                          try simp only [List.getElem_toArray, List.getElem_cons_succ, List.getElem_cons_zero, Act.put, List.setIfInBounds_toArray, List.set_cons_zero, List.set_cons_succ]
                          refine ty (v := ?_) 2 (fun w hSw => ?_) ?_
                          rotate_left
                          · (try dsimp only at hSw); go_simp; (try with_reducible rfl)
                          try simp only [List.getElem_toArray, List.getElem_cons_succ, List.getElem_cons_zero, Act.put, List.setIfInBounds_toArray, List.set_cons_zero, List.set_cons_succ]
                          refine ty (v := ?_) 3 (fun w hSw => ?_) ?_
                          rotate_left
                          · (try dsimp only at hSw); go_simp; (try with_reducible rfl)
                          try simp only [List.getElem_toArray, List.getElem_cons_succ, List.getElem_cons_zero, Act.put, List.setIfInBounds_toArray, List.set_cons_zero, List.set_cons_succ]
                          refine ty (v := ?_) 4 (fun w hSw => ?_) ?_
                          rotate_left
                          · (try dsimp only at hSw); go_simp; (try with_reducible rfl)
                          try simp only [List.getElem_toArray, List.getElem_cons_succ, List.getElem_cons_zero, Act.put, List.setIfInBounds_toArray, List.set_cons_zero, List.set_cons_succ]
                          refine tr 5 (fun K hK => ?_)
                          go_simp
                          (go_at_call 34; ((with_reducible refine (HHa.out _ D0.out).mono ?_); rintro e w6 ⟨rfl, hb⟩; have D1 := Lib.hid (D0.out.trans (hb.mono D0.out.size)); clear hb))
                          refine hK.out _ _ ?_ (fun hHeld => ?_)
                          · exact HS.out _ D1.out
                          clear hK K
                          try simp only [List.getElem_toArray, List.getElem_cons_succ, List.getElem_cons_zero, Act.put, List.setIfInBounds_toArray, List.set_cons_zero, List.set_cons_succ]
                          refine ty (v := ?_) 6 (fun w hSw => ?_) ?_
                          rotate_left
                          · (try dsimp only at hSw); go_simp; (try with_reducible rfl)
                          try simp only [List.getElem_toArray, List.getElem_cons_succ, List.getElem_cons_zero, Act.put, List.setIfInBounds_toArray, List.set_cons_zero, List.set_cons_succ]
                          refine ty (v := ?_) 7 (fun w hSw => ?_) ?_
                          rotate_left
                          · (try dsimp only at hSw); go_simp; (try with_reducible rfl)
                          try simp only [List.getElem_toArray, List.getElem_cons_succ, List.getElem_cons_zero, Act.put, List.setIfInBounds_toArray, List.set_cons_zero, List.set_cons_succ]
                          refine ty (v := ?_) 8 (fun w hSw => ?_) ?_
                          rotate_left
                          · (try dsimp only at hSw); go_simp; (try with_reducible rfl)
                          try simp only [List.getElem_toArray, List.getElem_cons_succ, List.getElem_cons_zero, Act.put, List.setIfInBounds_toArray, List.set_cons_zero, List.set_cons_succ]
                          refine ty (v := ?_) 9 (fun w hSw => ?_) ?_
                          rotate_left
                          · (try dsimp only at hSw); go_simp; (try with_reducible rfl)
                          try simp only [List.getElem_toArray, List.getElem_cons_succ, List.getElem_cons_zero, Act.put, List.setIfInBounds_toArray, List.set_cons_zero, List.set_cons_succ]
                          refine ty (v := ?_) 10 (fun w hSw => ?_) ?_
                          rotate_left
                          · (try dsimp only at hSw); go_simp; (try with_reducible rfl)
                          try simp only [List.getElem_toArray, List.getElem_cons_succ, List.getElem_cons_zero, Act.put, List.setIfInBounds_toArray, List.set_cons_zero, List.set_cons_succ]
                          refine ty (v := ?_) 11 (fun w hSw => ?_) ?_
                          rotate_left
                          · (try dsimp only at hSw); go_simp; (try with_reducible rfl)
                          try simp only [List.getElem_toArray, List.getElem_cons_succ, List.getElem_cons_zero, Act.put, List.setIfInBounds_toArray, List.set_cons_zero, List.set_cons_succ]
                          refine ty (v := ?_) 12 (fun w hSw => ?_) ?_
                          rotate_left
                          · (try dsimp only at hSw); go_simp; (try with_reducible rfl)
                          try simp only [List.getElem_toArray, List.getElem_cons_succ, List.getElem_cons_zero, Act.put, List.setIfInBounds_toArray, List.set_cons_zero, List.set_cons_succ]
                          refine ty (v := ?_) 13 (fun w hSw => ?_) ?_
                          rotate_left
                          · (try dsimp only at hSw); go_simp; (try with_reducible rfl)
                          try simp only [List.getElem_toArray, List.getElem_cons_succ, List.getElem_cons_zero, Act.put, List.setIfInBounds_toArray, List.set_cons_zero, List.set_cons_succ]
                          refine ty (v := ?_) 14 (fun w hSw => ?_) ?_
                          rotate_left
                          · (try dsimp only at hSw); go_simp; (try with_reducible rfl)
                          try simp only [List.getElem_toArray, List.getElem_cons_succ, List.getElem_cons_zero, Act.put, List.setIfInBounds_toArray, List.set_cons_zero, List.set_cons_succ]
                          refine ty (v := ?_) 15 (fun w hSw => ?_) ?_
                          rotate_left
                          · (try dsimp only at hSw); go_simp; (try with_reducible rfl)
                          try simp only [List.getElem_toArray, List.getElem_cons_succ, List.getElem_cons_zero, Act.put, List.setIfInBounds_toArray, List.set_cons_zero, List.set_cons_succ]
                          refine tr 16 (fun K hK => ?_)
                          go_simp
                          (go_at_call 34; ((with_reducible refine (HHx.out _ D1.out).mono ?_); rintro e w7 ⟨rfl, hb⟩; have D2 := Lib.hid (D1.out.trans (hb.mono D1.out.size)); clear hb))
                          refine hK.out _ _ ?_ (fun hHeld => ?_)
                          · exact HS.out _ D2.out
                          clear hK K
                          try simp only [List.getElem_toArray, List.getElem_cons_succ, List.getElem_cons_zero, Act.put, List.setIfInBounds_toArray, List.set_cons_zero, List.set_cons_succ]
                          refine ty (v := ?_) 17 (fun w hSw => ?_) ?_
                          rotate_left
                          · (try dsimp only at hSw); go_simp; (try with_reducible rfl)
                          try simp only [List.getElem_toArray, List.getElem_cons_succ, List.getElem_cons_zero, Act.put, List.setIfInBounds_toArray, List.set_cons_zero, List.set_cons_succ]
                          refine ty (v := ?_) 18 (fun w hSw => ?_) ?_
                          rotate_left
                          · (try dsimp only at hSw); go_simp; (try with_reducible rfl)
                          try simp only [List.getElem_toArray, List.getElem_cons_succ, List.getElem_cons_zero, Act.put, List.setIfInBounds_toArray, List.set_cons_zero, List.set_cons_succ]
                          refine wpAnyH_done (by kernel_rfl) ?_ _
                          go_wp2
                          go_roundw
                          case rel => exact ⟨r + 1, by omega, by go_num, Lib.hid (HBr.out.trans (D2.out.mono HBr.out.size)), HDr2⟩
                          case measure => simp [intOf]; omega
                        · rw [decide_eq_false hix] at HHx
                          have HE : Hid (rightG rs x = false) := Lib.hid (right_bad hkx fun h => by
                            rcases h.2.2.2 (z1, z2) HZ.out.1 (e1, e2) (by rw [HZ.out.2.1]; exact hdm) with h | h
                            · exact hia h
                            · exact hix h)
                          clear hrl hde hdm hTr hia hix
                          go_upto_region 22 with fail
                          refine wp_region_held_drew (S := (fun w' => w'.cell? ⟨BD, offD + r * 2, none⟩ = some (.int .i64 e1) ∧ w'.cell? ⟨BD, offD + r * 2 + 1, none⟩ = some (.int .i64 e2) ∧ w'.cell? ⟨Bx, offx + k, none⟩ = some (.slice (some ⟨B1, off1, none⟩) cn mx))) (by kernel_rfl) (HS.out _ D0.out) (fun hHeld => ?_)
                          generalize wr.drew = Y0 at D0 hHeld ⊢
                          refine ty (v := ?_) 0 (fun w hSw => ?_) ?_
                          rotate_left
                          · (try dsimp only at hSw); go_simp; (try with_reducible rfl)
                          try simp only [List.getElem_toArray, List.getElem_cons_succ, List.getElem_cons_zero, Act.put, List.setIfInBounds_toArray, List.set_cons_zero, List.set_cons_succ]
                          refine ty (v := ?_) 1 (fun w hSw => ?_) ?_
                          rotate_left
                          · (try dsimp only at hSw); go_simp; (try with_reducible rfl)
                          try simp only [List.getElem_toArray, List.getElem_cons_succ, List.getElem_cons_zero, Act.put, List.setIfInBounds_toArray, List.set_cons_zero, List.set_cons_succ]
                          refine ty (v := ?_) 2 (fun w hSw => ?_) ?_
                          rotate_left
                          · (try dsimp only at hSw); go_simp; (try with_reducible rfl)
                          try simp only [List.getElem_toArray, List.getElem_cons_succ, List.getElem_cons_zero, Act.put, List.setIfInBounds_toArray, List.set_cons_zero, List.set_cons_succ]
                          refine ty (v := ?_) 3 (fun w hSw => ?_) ?_
                          rotate_left
                          · (try dsimp only at hSw); go_simp; (try with_reducible rfl)
                          try simp only [List.getElem_toArray, List.getElem_cons_succ, List.getElem_cons_zero, Act.put, List.setIfInBounds_toArray, List.set_cons_zero, List.set_cons_succ]
                          refine ty (v := ?_) 4 (fun w hSw => ?_) ?_
                          rotate_left
                          · (try dsimp only at hSw); go_simp; (try with_reducible rfl)
                          try simp only [List.getElem_toArray, List.getElem_cons_succ, List.getElem_cons_zero, Act.put, List.setIfInBounds_toArray, List.set_cons_zero, List.set_cons_succ]
                          refine tr 5 (fun K hK => ?_)
                          go_simp
                          (go_at_call 34; ((with_reducible refine (HHa.out _ D0.out).mono ?_); rintro e w6 ⟨rfl, hb⟩; have D1 := Lib.hid (D0.out.trans (hb.mono D0.out.size)); clear hb))
                          refine hK.out _ _ ?_ (fun hHeld => ?_)
                          · exact HS.out _ D1.out
                          clear hK K
                          try simp only [List.getElem_toArray, List.getElem_cons_succ, List.getElem_cons_zero, Act.put, List.setIfInBounds_toArray, List.set_cons_zero, List.set_cons_succ]
                          refine ty (v := ?_) 6 (fun w hSw => ?_) ?_
                          rotate_left
                          · (try dsimp only at hSw); go_simp; (try with_reducible rfl)
                          try simp only [List.getElem_toArray, List.getElem_cons_succ, List.getElem_cons_zero, Act.put, List.setIfInBounds_toArray, List.set_cons_zero, List.set_cons_succ]
                          refine ty (v := ?_) 7 (fun w hSw => ?_) ?_
                          rotate_left
                          · (try dsimp only at hSw); go_simp; (try with_reducible rfl)
                          try simp only [List.getElem_toArray, List.getElem_cons_succ, List.getElem_cons_zero, Act.put, List.setIfInBounds_toArray, List.set_cons_zero, List.set_cons_succ]
                          refine ty (v := ?_) 8 (fun w hSw => ?_) ?_
                          rotate_left
                          · (try dsimp only at hSw); go_simp; (try with_reducible rfl)
                          try simp only [List.getElem_toArray, List.getElem_cons_succ, List.getElem_cons_zero, Act.put, List.setIfInBounds_toArray, List.set_cons_zero, List.set_cons_succ]
                          refine ty (v := ?_) 9 (fun w hSw => ?_) ?_
                          rotate_left
                          · (try dsimp only at hSw); go_simp; (try with_reducible rfl)
                          try simp only [List.getElem_toArray, List.getElem_cons_succ, List.getElem_cons_zero, Act.put, List.setIfInBounds_toArray, List.set_cons_zero, List.set_cons_succ]
                          refine ty (v := ?_) 10 (fun w hSw => ?_) ?_
                          rotate_left
                          · (try dsimp only at hSw); go_simp; (try with_reducible rfl)
                          try simp only [List.getElem_toArray, List.getElem_cons_succ, List.getElem_cons_zero, Act.put, List.setIfInBounds_toArray, List.set_cons_zero, List.set_cons_succ]
                          refine ty (v := ?_) 11 (fun w hSw => ?_) ?_
                          rotate_left
                          · (try dsimp only at hSw); go_simp; (try with_reducible rfl)
                          try simp only [List.getElem_toArray, List.getElem_cons_succ, List.getElem_cons_zero, Act.put, List.setIfInBounds_toArray, List.set_cons_zero, List.set_cons_succ]
                          refine ty (v := ?_) 12 (fun w hSw => ?_) ?_
                          rotate_left
                          · (try dsimp only at hSw); go_simp; (try with_reducible rfl)
                          try simp only [List.getElem_toArray, List.getElem_cons_succ, List.getElem_cons_zero, Act.put, List.setIfInBounds_toArray, List.set_cons_zero, List.set_cons_succ]
                          refine ty (v := ?_) 13 (fun w hSw => ?_) ?_
                          rotate_left
                          · (try dsimp only at hSw); go_simp; (try with_reducible rfl)
                          try simp only [List.getElem_toArray, List.getElem_cons_succ, List.getElem_cons_zero, Act.put, List.setIfInBounds_toArray, List.set_cons_zero, List.set_cons_succ]
                          refine ty (v := ?_) 14 (fun w hSw => ?_) ?_
                          rotate_left
                          · (try dsimp only at hSw); go_simp; (try with_reducible rfl)
                          try simp only [List.getElem_toArray, List.getElem_cons_succ, List.getElem_cons_zero, Act.put, List.setIfInBounds_toArray, List.set_cons_zero, List.set_cons_succ]
                          refine ty (v := ?_) 15 (fun w hSw => ?_) ?_
                          rotate_left
                          · (try dsimp only at hSw); go_simp; (try with_reducible rfl)
                          try simp only [List.getElem_toArray, List.getElem_cons_succ, List.getElem_cons_zero, Act.put, List.setIfInBounds_toArray, List.set_cons_zero, List.set_cons_succ]
                          refine tr 16 (fun K hK => ?_)
                          go_simp
                          (go_at_call 34; ((with_reducible refine (HHx.out _ D1.out).mono ?_); rintro e w7 ⟨rfl, hb⟩; have D2 := Lib.hid (D1.out.trans (hb.mono D1.out.size)); clear hb))
                          refine hK.out _ _ ?_ (fun hHeld => ?_)
                          · exact HS.out _ D2.out
                          clear hK K
                          try simp only [List.getElem_toArray, List.getElem_cons_succ, List.getElem_cons_zero, Act.put, List.setIfInBounds_toArray, List.set_cons_zero, List.set_cons_succ]
                          refine ty (v := ?_) 17 (fun w hSw => ?_) ?_
                          rotate_left
                          · (try dsimp only at hSw); go_simp; (try with_reducible rfl)
                          try simp only [List.getElem_toArray, List.getElem_cons_succ, List.getElem_cons_zero, Act.put, List.setIfInBounds_toArray, List.set_cons_zero, List.set_cons_succ]
                          refine ty (v := ?_) 18 (fun w hSw => ?_) ?_
                          rotate_left
                          · (try dsimp only at hSw); go_simp; (try with_reducible rfl)
                          try simp only [List.getElem_toArray, List.getElem_cons_succ, List.getElem_cons_zero, Act.put, List.setIfInBounds_toArray, List.set_cons_zero, List.set_cons_succ]
                          refine wpAnyH_done (by kernel_rfl) ?_ _
                          go_wp2
                          go_ret
                          exact ⟨ret_bool HE.out.symm, HB1.out.trans ((HBq.out.trans (D2.out.mono HBq.out.size)).mono HB1.out.size)⟩
                    · have rn : ¬ (r : Int) < nd := by omega
                      have HDs2 : Hid (∀ y ∈ (nthL x k).take (s + 1), ∀ d ∈ dpG rs y, d ∈ (x.take k).flatten ∨ d ∈ nthL x k) := Lib.hid fun y hy d hd => by
                        rw [HZ.out.2.2] at hy
                        rcases List.mem_append.1 hy with hy | hy
                        · exact HDs.out y hy d hd
                        · rw [List.mem_singleton.1 hy, HZ.out.2.1] at hd
                          exact HDr.out d (by rw [List.take_of_length_le (by rw [← HDN.out]; omega)]; exact hd)
                      go_wp2
                      go_roundw
                      case rel => exact ⟨s + 1, by omega, by go_num, HBr, HDs2⟩
                      case measure => simp [intOf]; omega
                · have sn : ¬ (s : Int) < cn := by omega
                  have HOk2 : Hid (∀ j, j < k + 1 → OkAt rs x j) := Lib.hid fun j hj => by
                    by_cases e : j = k
                    · rw [e]
                      refine ⟨HY.out.1, HY.out.2.1, by rw [HY.out.2.2]; exact HNin.out, fun y hy => HDs.out y ?_⟩
                      rw [List.take_of_length_le (by rw [← HCn.out]; omega)]; exact hy
                    · exact HOk.out j (by omega)
                  go_wp2
                  go_roundw
                  case rel => exact ⟨k + 1, by omega, by go_num, HBz, HOk2⟩
                  case measure => simp [intOf]; omega
    · have kn : ¬ (k : Int) < n := by omega
      have HE : Hid (rightG rs x = true) := Lib.hid (right_all fun i hi => HOk.out i (by rw [← HLn.out] at hi; omega))
      go_wp2
      go_ret
      exact ⟨ret_bool HE.out.symm, HB1.out.trans (HBw.out.mono HB1.out.size)⟩
end Go.Proofs.YtjokejcokgeeiaaGreat.Can
