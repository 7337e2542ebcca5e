/- What the program's Conflict and copied give (layer 19, traces). Conditions: those in each statement; copied: at most 1000 lists of at most 1000000 ids in all. -/
import Derived.Test.YtlkndpofegemdaaGreatTraK
import Derived.Test.YtlkndpofegemdaaGreatTraO
import Derived.Test.YtlkndpofegemdaaGreatTraG
import Derived.Test.YtlkndpofegemdaaGreatCat
import Derived.Test.YtlkndpofegemdaaGreatReg
import Derived.Test.YtlkndpofegemdaaGreatTraF
import Derived.Test.YtlkndpofegemdaaGreatGraN
import Derived.Test.YtlkndpofegemdaaGreatTraR
namespace Go.Proofs.YtlkndpofegemdaaGreat.Tra
open Go.RowKit Cmd Bat Ids Rec Wid Gra Rea Cps
set_option linter.unusedVariables false
set_option linter.unusedSimpArgs false

set_option maxRecDepth 100000 in
theorem conflict_any {G : Nat → Nat → List Rcd → World → Prop} (HG : Graphs G) {N g : Nat} {rs : List Rcd} {W : World} (hG : G N g rs W) (v u : Value) (a b : List Idn) (ha : RowAt W v a) (hb : RowAt W u b) (haw : ∀ x ∈ a, wfId x) (hbw : ∀ x ∈ b, wfId x) : Calls Tryz.prog 13 #[gptr g, v, u] W (RetBelow (.bool (confG rs a b)) W) := by
  have C1 := Lib.hid (uses_any HG hG v a ha haw)
  have C2 := Lib.hid (fun X (hX : Below W.heap.size W X) => uses_any HG (HG.on hG (hX.mono (HG.le hG))) u b (hb.on hX) hbw)
  have HC := Lib.hid (conf_uses (a := a) (b := b) (cs_right (HG.lot hG).2))
  clear ha hb haw hbw hG
  go_enter Tryz.func13, Tryz.ntmps13
  go_wp2_with (first
    | (go_at_call 22; ((with_reducible refine C1.out.mono ?_); rintro E w1 ⟨o1, rfl, ho1, hb1⟩; have D2 := Lib.hid (C2.out _ hb1); have R1 := Lib.hid ho1; have B1 := Lib.hid hb1; clear C1 C2 ho1 hb1))
    | (go_at_call 22; ((with_reducible refine D2.out.mono ?_); rintro E w2 ⟨o2, rfl, ho2, hb2⟩; have CC := Lib.hid (clash_any _ _ _ _ w2 (Wd.Own.row (R1.out.below hb2)) (Wd.Own.row ho2)); rw [← HC.out] at CC; have B2 := Lib.hid (B1.out.trans (hb2.mono B1.out.size)); clear D2 ho2 hb2))
    | (go_at_call 24; ((with_reducible refine CC.out.mono ?_); rintro E w3 ⟨rfl, hb3⟩; have B3 := Lib.hid (B2.out.trans (hb3.mono B2.out.size)); clear hb3)))
  go_ret
  exact ⟨rfl, B3.out⟩

/-! ### Rows cut out of one -/
theorem cut3 (p : Option Addr) (n cap l h : Nat) (hl : l ≤ h) (hh : h ≤ cap) (w : World) : (Instr.slice 36 (.slice p n cap) (some (.int .i64 l)) (some (.int .i64 h)) (some (.int .i64 h))).run Tryz.prog w = .ok (.slice (if h = l then p else p.map (·.add (l * 2))) (h - l) (h - l)) w := by
  rw [run_slice_lhm w _ _ _ _ (by rw [wtId.und, wtId.el]) _ _ _ _ _ _ (by omega) (by omega) (by omega) (by omega), size_wide wtId]
  show Result.ok (sliced p (Int.toNat l) (Int.toNat h) (Int.toNat h) 2) w = _
  simp [sliced]
theorem rowat_cut {W : World} {p : Option Addr} {n cap : Nat} {zs : List Idn} (h : RowAt W (.slice p n cap) zs) {l k : Nat} (hl : l ≤ k) (hk : k ≤ zs.length) : RowAt W (.slice (if k = l then p else p.map (·.add (l * 2))) (k - l) (k - l)) ((zs.drop l).take (k - l)) := by
  obtain ⟨p', c', e, h1, h2, h3, h4⟩ := h
  injection e with e1 e2 e3
  subst e1; subst e2; subst e3
  have hlen : ((zs.drop l).take (k - l)).length = k - l := by rw [List.length_take, List.length_drop]; omega
  by_cases hkl : k = l
  · subst hkl
    rw [if_pos rfl]
    refine ⟨_, _, by rw [hlen], by rw [hlen]; exact Nat.le_refl _, by omega, fun _ => Nat.sub_self _, fun hz => ?_⟩
    exact absurd (List.eq_nil_of_length_eq_zero (by rw [hlen, Nat.sub_self])) hz
  · rw [if_neg hkl]
    obtain ⟨b, off, rfl, hlt, hc⟩ := h4 (by rintro rfl; simp at hk; omega)
    refine ⟨some ⟨b, off + l * 2, none⟩, k - l, by rw [hlen]; simp [Addr.add_lit], by rw [hlen]; exact Nat.le_refl _, by omega, (fun e => by cases e), fun _ => ⟨b, off + l * 2, rfl, hlt, fun j hj => ?_⟩⟩
    rw [hlen] at hj
    have := hc (l + j) (by omega)
    have e1 : nth ((zs.drop l).take (k - l)) j = nth zs (l + j) := by
      unfold nth
      rw [List.getD_eq_getElem?_getD, List.getD_eq_getElem?_getD, List.getElem?_take_of_lt hj, List.getElem?_drop]
    rw [e1, show off + l * 2 + j * 2 = off + (l + j) * 2 by omega]
    exact this
theorem rowat_block {X X' : World} {v : Value} {zs : List Idn} (h : RowAt X v zs) (hs : X.heap.size ≤ X'.heap.size) (hk : ∀ g off n c, v = .slice (some ⟨g, off, none⟩) n c → X'.heap[g]? = X.heap[g]?) : RowAt X' v zs := by
  obtain ⟨p, c, rfl, h1, h2, h3, h4⟩ := h
  exact ⟨p, c, rfl, h1, h2, h3, fun hz => by
    obtain ⟨b, off, rfl, hlt, hc⟩ := h4 hz
    have e := hk b off _ c rfl
    exact ⟨b, off, rfl, Nat.lt_of_lt_of_le hlt hs, fun j hj => ⟨(World.cell?_of_block (w := X) (a := ⟨b, off + j * 2, none⟩) e).trans (hc j hj).1, (World.cell?_of_block (w := X) (a := ⟨b, off + j * 2 + 1, none⟩) e).trans (hc j hj).2⟩⟩⟩
theorem flat_cut {l : List (List Idn)} {k : Nat} (h : k < l.length) : (l.flatten.drop (l.take k).flatten.length).take ((l.take (k + 1)).flatten.length - (l.take k).flatten.length) = nthL l k := by
  have e : l.flatten = (l.take k).flatten ++ (nthL l k ++ (l.drop (k + 1)).flatten) := by
    rw [← List.append_assoc, ← flat_step h, ← List.flatten_append, List.take_append_drop]
  rw [flat_step h, List.length_append, Nat.add_sub_cancel_left]
  conv => lhs; rw [e, List.drop_left, List.take_left]
end Go.Proofs.YtlkndpofegemdaaGreat.Tra

/- What the program's copied and Swap give, and so all four calls of traces over the developers' graphs (layer 19). Conditions: those in each statement; Swap: at most 1000000 ids in all. -/
namespace Go.Proofs.YtlkndpofegemdaaGreat.Tra
open Go.RowKit Cmd Bat Ids Rec Wid Gra Rea Cps
set_option linter.unusedVariables false
set_option linter.unusedSimpArgs false

abbrev slN (qs : List Slc) (j : Nat) : Value := sliceOf (qs.getD j (none, 0, 0))
structure CpS (W : World) (l : List (List Idn)) (ab n k : Nat) (qs : List Slc) (X : World) : Prop where
  below : Below W.heap.size W X
  own : wdSl.Own 36 X W.heap.size (.slice (some ⟨ab, 0, none⟩) n n) qs
  len : qs.length = n
  rows : ∀ j, j < k → RowAt X (slN qs j) (nthL l j) ∧ ∀ g off m c, slN qs j = .slice (some ⟨g, off, none⟩) m c → g < ab
theorem CpS.store {W : World} {l : List (List Idn)} {ab n k : Nat} {qs : List Slc} {X : World} (h : CpS W l ab n k qs X) (hk : k < n) (x : Slc) (hr : RowAt X (sliceOf x) (nthL l k)) (hf : ∀ g off m c, sliceOf x = .slice (some ⟨g, off, none⟩) m c → g < ab) : CpS W l ab n (k + 1) (qs.set k x) (X.setCell ⟨ab, k, none⟩ (sliceOf x)) := by
  obtain ⟨ho, hg⟩ := sl_store h.own k x
  have hab : W.heap.size ≤ ab := (World.ownsRow.lt h.own ab rfl).1
  have keep : ∀ {v : Value} {zs : List Idn}, RowAt X v zs → (∀ g off m c, v = .slice (some ⟨g, off, none⟩) m c → g < ab) → RowAt (X.setCell ⟨ab, k, none⟩ (sliceOf x)) v zs := fun {v zs} hv hf => rowat_block hv hg.size fun g off m c e => Below.heap_setCell _ _ _ _ (Nat.ne_of_lt (hf g off m c e))
  have hl := h.len
  refine ⟨h.below.setCell (p := ⟨ab, k, none⟩) hab _, ho, by rw [List.length_set]; exact h.len, fun j hj => ?_⟩
  have hget : ∀ j, (qs.set k x).getD j (none, 0, 0) = if j = k then x else qs.getD j (none, 0, 0) := fun j => by
    rw [List.getD_eq_getElem?_getD, List.getElem?_set, List.getD_eq_getElem?_getD]
    by_cases e : k = j
    · rw [if_pos e, if_pos (by omega), if_pos e.symm]; rfl
    · rw [if_neg e, if_neg (fun e' => e e'.symm)]
  unfold slN
  rw [hget j]
  by_cases e : j = k
  · rw [if_pos e, e]; exact ⟨keep hr hf, hf⟩
  · rw [if_neg e]
    obtain ⟨h1, h2⟩ := h.rows j (by omega)
    exact ⟨keep h1 h2, h2⟩
def GivesCp (l : List (List Idn)) (W : World) (E : Ending) (W' : World) : Prop := ∃ ab qs, E = .returned (.slice (some ⟨ab, 0, none⟩) l.length l.length) ∧ CpS W l ab l.length l.length qs W'
set_option maxRecDepth 100000 in
set_option maxHeartbeats 8000000 in
theorem copied_any (v : Value) (l : List (List Idn)) (W : World) (h : layLL.Row W v l) (hl : l.flatten.length ≤ 1000000) (hl2 : l.length ≤ 1000) : Calls Tryz.prog 27 #[v] W (GivesCp l W) := by
  have HC := Lib.hid (concatL_any v l W h hl (by omega))
  obtain ⟨p, cap, rfl, h1, hd⟩ := h.parts
  have HFL := Lib.hid hl
  obtain ⟨n, hn⟩ : ∃ n, n = l.length := ⟨_, rfl⟩
  rw [← hn] at h1 hd hl2 HC ⊢
  have HN := Lib.hid hn
  have hmk := mk_row (t := 23) (e := 36) (z := .slice none 0 0) (bytes := 24) Tryz.underlying23 (by kernel_rfl) (by kernel_rfl) (by decide) n (by omega)
  obtain ⟨MC, hMC⟩ : ∃ MC, MC = madeCells #[Value.slice none 0 0] n := ⟨_, rfl⟩
  have HMade : Hid (∀ (W : World) (base : Nat), base ≤ W.heap.size → wdSl.Own 36 (W.alloc (.cells MC 36)) base (.slice (some ⟨W.heap.size, 0, none⟩) n n) (List.replicate n (none, 0, 0))) := Lib.hid fun W base hb => by
    have := mk_own (e := 36) (z := .slice none 0 0) n (by omega) hb
    rw [hMC]
    unfold Wd.Own
    rw [List.length_replicate, flatSl, List.map_replicate]
    exact this
  simp only [← hMC] at hmk
  clear h hl hn hMC
  go_enter Tryz.func27, Tryz.ntmps27
  go_wp2_with (go_at_call 45; ((with_reducible refine HC.out.mono ?_); rintro E W1 ⟨v1, rfl, ho, hb⟩; obtain ⟨pr, nr, cr, rfl⟩ := own_is ho; have HO := Lib.hid ho; have HB := Lib.hid hb; clear ho hb))
  have hrow := HO.out.row
  have hnr : nr = l.flatten.length := by obtain ⟨p', c', e, -⟩ := hrow; injection e
  have hcr : nr ≤ cr := by obtain ⟨p', c', e, h1, -⟩ := hrow; injection e with e1 e2 e3; rw [e3, hnr]; exact h1
  have HRow := Lib.hid hrow
  have HNR := Lib.hid hnr
  have HPR : Hid (pr = none ∨ ∃ g, pr = some ⟨g, 0, none⟩ ∧ g < W1.heap.size) := Lib.hid (by
    rcases HO.out.2 with ⟨e1, -⟩ | ⟨g', c', cur, e1, -, hg, -⟩
    · injection e1 with e1 _ _; exact .inl e1
    · injection e1 with e1 _ _; exact .inr ⟨g', e1, (Array.getElem?_eq_some_iff.1 hg).1⟩)
  have hbA := Cmd.below_one W1 (.cells MC 36)
  have HBA := Lib.hid hbA
  have C0 : Hid (CpS W l W1.heap.size n 0 (List.replicate n (none, 0, 0)) (W1.alloc (.cells MC 36))) := Lib.hid ⟨HB.out.trans (hbA.mono HB.out.size), HMade.out W1 W.heap.size HB.out.size, List.length_replicate, fun j hj => absurd hj (Nat.not_lt_zero _)⟩
  have L0 : Hid (Below W1.heap.size W1 (W1.alloc (.cells MC 36))) := Lib.hid hbA
  clear hmk HMade HC hrow hnr hbA HO
  go_loopw [4, 16] (fun e i X => ∃ (k : Nat) (qs : List Slc), i = .int .i64 k ∧ k ≤ n ∧ e = .int .i64 ((l.take k).flatten.length : Int) ∧ Hid (CpS W l W1.heap.size n k qs X) ∧ Hid (Below W1.heap.size W1 X)) (fun _ i _ => n - (intOf i).toNat)
  case atStart => exact ⟨0, _, rfl, Nat.zero_le _, by simp, C0, L0⟩
  case round =>
    clear C0 L0
    obtain ⟨k, qs, rfl, hk, rfl, HCp, HL⟩ := hrel
    have k0 : (0 : Int) ≤ k := by omega
    by_cases hkn : k < n
    · have kn : (k : Int) < n := by omega
      obtain ⟨B, off, rfl, HI⟩ := hd.resolve_left (by omega)
      have hkl : k < l.length := by rw [← HN.out]; exact hkn
      obtain ⟨p0, c0, e00, -⟩ := llAt (HI.out.on HCp.out.below) hkl
      have e0 : wr.cell? ⟨B, off + k, none⟩ = some (.slice p0 (nthL l k).length c0) := e00
      clear e00
      have hst : (l.take (k + 1)).flatten.length = (l.take k).flatten.length + (nthL l k).length := by rw [flat_step hkl, List.length_append]
      have hle := flat_len l (k + 1)
      have hcutL := flat_cut hkl
      have hrc := rowat_cut (HRow.out.on HL.out) (l := (l.take k).flatten.length) (k := (l.take (k + 1)).flatten.length) (by omega) hle
      rw [hcutL] at hrc
      have hfl := HFL.out
      have hnr := HNR.out
      have hc3 := fun w => cut3 pr nr cr (l.take k).flatten.length (l.take (k + 1)).flatten.length (by omega) (by omega) w
      have HST := Lib.hid hst
      rw [hst, Nat.add_sub_cancel_left] at hrc hc3
      obtain ⟨s, hs⟩ : ∃ s, s = (l.take k).flatten.length := ⟨_, rfl⟩
      obtain ⟨z, hz⟩ : ∃ z, z = (nthL l k).length := ⟨_, rfl⟩
      have hs1 : s ≤ 1000000 := by omega
      have hz1 : s + z ≤ 1000000 := by omega
      rw [← hs, ← hz] at hrc hc3
      rw [← hz] at e0
      have HSS := Lib.hid hs
      have HZZ := Lib.hid hz
      rw [← hs]
      obtain ⟨px, hpx⟩ : ∃ px : Option Addr, px = (if s + z = s then pr else pr.map (fun (x : Addr) => x.add (s * 2))) := ⟨_, rfl⟩
      rw [← hpx] at hrc
      have hfar : ∀ g off' m c, sliceOf (px, z, z) = .slice (some ⟨g, off', none⟩) m c → g < W1.heap.size := fun g off' m c e => by
        have e : Value.slice px z z = .slice (some ⟨g, off', none⟩) m c := e
        injection e with e _ _
        rw [hpx] at e
        have hlt : g < W1.heap.size := by
          rcases HPR.out with hp | ⟨g', hp, hg'⟩
          · rw [hp] at e
            split at e <;> cases e
          · rw [hp] at e
            by_cases h : s + z = s
            · rw [if_pos h] at e
              injection e with e; injection e with e1 _ _; rw [← e1]; exact hg'
            · rw [if_neg h] at e
              simp only [Option.map_some, Addr.add_lit] at e
              injection e with e; injection e with e1 _ _; rw [← e1]; exact hg'
        omega
      have hcut : ∀ w, (Instr.slice 36 (.slice pr nr cr) (some (.int .i64 (s : Int))) (some (.int .i64 ((s : Int) + (z : Int)))) (some (.int .i64 ((s : Int) + (z : Int))))).run Tryz.prog w = .ok (.slice px z z) w := fun w => by
        have := hc3 w
        rw [Int.natCast_add, ← hpx] at this
        exact this
      have HCS := Lib.hid (HCp.out.store hkn (px, z, z) hrc hfar)
      have HG2 := Lib.hid (sl_store HCp.out.own k (px, z, z)).2
      have hql : k < qs.length := by rw [HCp.out.len]; exact hkn
      have d1 := (sl_cell HCp.out.own hql).1
      have d2 := (sl_cell HCp.out.own hql).2
      have d1 : wr.cell? ⟨W1.heap.size, k, none⟩ = some (sliceOf (qs.getD k (none, 0, 0))) := d1
      have hsi : IntKind.i64.wrap ((s : Int) + (z : Int)) = (s : Int) + z := IntWalk.i64_in _ (by omega)
      clear hst hle hcutL hrc hfl hnr hc3 hs hz hfar hkl hql hpx hd
      generalize sliceOf (qs.getD k (none, 0, 0)) = vk at d1
      go_wp2
      go_roundw
      case rel => exact ⟨k + 1, _, by go_num, by omega, by rw [HST.out, ← HSS.out, ← HZZ.out]; go_num, HCS, Lib.hid (HL.out.trans (grown_belowS HG2.out (Nat.le_refl _) HL.out.size))⟩
      case measure => simp [intOf]; omega
    · have kn : ¬ (k : Int) < n := by omega
      have hke : k = n := by omega
      go_wp2
      go_ret
      have h1 := HCp.out
      rw [hke] at h1
      exact ⟨W1.heap.size, qs, by rw [← HN.out]; rfl, by rw [← HN.out]; exact h1⟩

/-! ### Swap -/
theorem nil_rowLL (w : World) : layLL.Row w (.slice none 0 0) [] := ⟨none, 0, rfl, Nat.le_refl _, by omega, fun h => absurd rfl h⟩
set_option maxRecDepth 100000 in
set_option maxHeartbeats 4000000 in
theorem swap_far (g : Nat) {rs : List Rcd} {W : World} (v : Value) (a : List (List Idn)) (i : Int) (h : layLL.Row W v a) (hl : a.length ≤ 1000) (hn : ¬ (0 ≤ i ∧ i + 1 < a.length)) : Calls Tryz.prog 15 #[gptr g, v, .int .i64 i] W (GivesSwap rs a i W) := by
  obtain ⟨p, cap, rfl, h1, -⟩ := h.parts
  have HN := Lib.hid hn
  obtain ⟨m, hm⟩ : ∃ m, m = a.length := ⟨_, rfl⟩
  rw [← hm] at h1 hl hn ⊢
  clear h hm
  have hwr : IntKind.i64.wrap ((m : Int) - 1) = (m : Int) - 1 := IntWalk.i64_in _ (by omega)
  by_cases hi : i < 0
  · have q4 : decide (i < (0 : Int)) = true := decide_eq_true hi
    clear hn
    go_enter Tryz.func15, Tryz.ntmps15
    go_wp2_with fail
    go_quiet (fail)
    go_wp2
    go_ret2
    exact ⟨_, _, rfl, Bat.below_drN (Below.refl _ _) _, fun h => absurd ⟨h.1, h.2.1⟩ HN.out, fun _ => ⟨rfl, nil_rowLL _⟩⟩
  · have q4 : decide (i < (0 : Int)) = false := decide_eq_false hi
    have q5 : decide ((m : Int) - 1 ≤ i) = true := decide_eq_true (by omega)
    have hge : (m : Int) - 1 ≤ i := by omega
    clear hn
    go_enter Tryz.func15, Tryz.ntmps15
    go_wp2_with fail
    go_quiet (fail)
    go_wp2
    go_ret2
    exact ⟨_, _, rfl, Bat.below_drN (Below.refl _ _) _, fun h => absurd ⟨h.1, h.2.1⟩ HN.out, fun _ => ⟨rfl, nil_rowLL _⟩⟩
set_option maxRecDepth 100000 in
set_option maxHeartbeats 16000000 in
theorem swap_near {G : Nat → Nat → List Rcd → World → Prop} (HG : Graphs G) {N g : Nat} {rs : List Rcd} {W : World} (hG : G N g rs W) (v : Value) (a : List (List Idn)) (k : Nat) (h : layLL.Row W v a) (hl : a.length ≤ 1000) (hz : a.flatten.length ≤ 1000000) (haw : ∀ c ∈ a, ∀ x ∈ c, wfId x) (hk : k + 1 < a.length) : Calls Tryz.prog 15 #[gptr g, v, .int .i64 (k : Int)] W (GivesSwap rs a k W) := by
  have HC := Lib.hid (fun X (hX : Below W.heap.size W X) => copied_any v a X (h.on hX) hz hl)
  obtain ⟨p, cap, rfl, h1, hd⟩ := h.parts
  have HK := Lib.hid hk
  obtain ⟨m, hm⟩ : ∃ m, m = a.length := ⟨_, rfl⟩
  rw [← hm] at h1 hd hl hk HC ⊢
  have HM := Lib.hid hm
  obtain ⟨B, off, rfl, HI⟩ := hd.resolve_left (by omega)
  obtain ⟨p0, c0, e00, r0⟩ := llAt HI.out (k := k) (by have := HK.out; omega)
  obtain ⟨p1, c1, e11, r1⟩ := llAt HI.out (k := k + 1) HK.out
  have e0 : W.cell? ⟨B, off + k, none⟩ = some (.slice p0 (nthL a k).length c0) := e00
  have e1 : W.cell? ⟨B, off + (k + 1), none⟩ = some (.slice p1 (nthL a (k + 1)).length c1) := e11
  have CA := Lib.hid (fun X (hX : Below W.heap.size W X) => conflict_any HG (HG.on hG (hX.mono (HG.le hG))) _ _ _ _ (r0.on hX) (r1.on hX) (haw _ (nthL_in (by have := HK.out; omega))) (haw _ (nthL_in HK.out)))
  have CA : Hid (∀ X, Below W.heap.size W X → Calls Tryz.prog 13 #[gptr g, .slice p0 (nthL a k).length c0, .slice p1 (nthL a (k + 1)).length c1] X (RetBelow (.bool (confG rs (nthL a k) (nthL a (k + 1)))) X)) := CA
  obtain ⟨n0, hn0⟩ : ∃ n, n = (nthL a k).length := ⟨_, rfl⟩
  obtain ⟨n1, hn1⟩ : ∃ n, n = (nthL a (k + 1)).length := ⟨_, rfl⟩
  rw [← hn0] at e0
  rw [← hn1] at e1
  rw [← hn0, ← hn1] at CA
  have hlt := HI.out.lt
  have HX : Hid (∀ w', Below W.heap.size W w' → w'.cell? ⟨B, off + k, none⟩ = some (.slice p0 n0 c0) ∧ w'.cell? ⟨B, off + (k + 1), none⟩ = some (.slice p1 n1 c1)) := Lib.hid (fun X hw => ⟨(hw.cell (p := ⟨B, off + k, none⟩) hlt).trans e0, (hw.cell (p := ⟨B, off + (k + 1), none⟩) hlt).trans e1⟩)
  have E0 := Lib.hid (Below.refl W.heap.size W)
  have k0 : (0 : Int) ≤ k := by omega
  have k1 : (0 : Int) ≤ (k : Int) + 1 := by omega
  have kx : (k : Int) < m := by omega
  have kx1 : (k : Int) + 1 < m := by omega
  have hwr : IntKind.i64.wrap ((m : Int) - 1) = (m : Int) - 1 := IntWalk.i64_in _ (by omega)
  have hwr2 : IntKind.i64.wrap ((k : Int) + 1) = (k : Int) + 1 := IntWalk.i64_in _ (by omega)
  have q4 : decide ((k : Int) < (0 : Int)) = false := decide_eq_false (by omega)
  have q5 : decide ((m : Int) - 1 ≤ (k : Int)) = false := decide_eq_false (by omega)
  have q6 : decide ((k : Int) < (m : Int) - 1) = true := decide_eq_true (by omega)
  have HKI : Hid ((k : Int).toNat = k) := Lib.hid (Int.toNat_natCast k)
  clear h hm hd e00 e11 r0 r1 e0 e1 hn0 hn1 hlt hz haw HI hG HG
  by_cases hcf : confG rs (nthL a k) (nthL a (k + 1)) = true
  · have HCF := Lib.hid hcf
    rw [hcf] at CA
    clear hcf HC
    go_enter Tryz.func15, Tryz.ntmps15
    go_wp2_with fail
    go_region_held3 (fun w' => w'.cell? ⟨B, off + k, none⟩ = some (.slice p0 n0 c0) ∧ w'.cell? ⟨B, off + (k + 1), none⟩ = some (.slice p1 n1 c1))
      (first
        | exact HX.out _ E1.out
        | exact HX.out _ E0.out
        | exact HX.out _ E0.out.drew)
      (first
        | (go_at_call 13; (with_reducible refine (CA.out _ E0.out.drew).mono ?_); rintro e z1 ⟨rfl, hb1⟩; have E1 := Lib.hid (E0.out.drew.trans (hb1.mono E0.out.drew.size)); clear hb1))
    go_wp2
    go_ret2
    exact ⟨_, _, rfl, E1.out, fun h => absurd h.2.2 (by rw [HKI.out, HCF.out]; decide), fun _ => ⟨rfl, nil_rowLL _⟩⟩
  · have hcf' : confG rs (nthL a k) (nthL a (k + 1)) = false := by simpa using hcf
    have HCF := Lib.hid hcf'
    rw [hcf'] at CA
    clear hcf hcf'
    go_enter Tryz.func15, Tryz.ntmps15
    go_wp2_with fail
    go_region_held3 (fun w' => w'.cell? ⟨B, off + k, none⟩ = some (.slice p0 n0 c0) ∧ w'.cell? ⟨B, off + (k + 1), none⟩ = some (.slice p1 n1 c1))
      (first
        | exact HX.out _ E1.out
        | exact HX.out _ E0.out
        | exact HX.out _ E0.out.drew)
      (first
        | (go_at_call 13; (with_reducible refine (CA.out _ E0.out.drew).mono ?_); rintro e z1 ⟨rfl, hb1⟩; have E1 := Lib.hid (E0.out.drew.trans (hb1.mono E0.out.drew.size)); clear hb1))
    go_wp2_with (go_at_call 27; ((with_reducible refine (HC.out _ E1.out).mono ?_); rintro E w2 ⟨ab, qs, rfl, hcp⟩; rw [← HM.out] at hcp ⊢; have HCP := Lib.hid hcp; clear hcp))
    have hql : qs.length = m := HCP.out.len
    obtain ⟨pa, na, ca, hqa⟩ : ∃ pa na ca, qs.getD k (none, 0, 0) = (pa, na, ca) := ⟨_, _, _, rfl⟩
    obtain ⟨pb, nb, cb, hqb⟩ : ∃ pb nb cb, qs.getD (k + 1) (none, 0, 0) = (pb, nb, cb) := ⟨_, _, _, rfl⟩
    have hs1 := sl_store HCP.out.own k (pb, nb, cb)
    have hs2 := sl_store hs1.1 (k + 1) (pa, na, ca)
    have d1 : w2.drew.cell? ⟨ab, k, none⟩ = some (.slice pa na ca) := by have := (sl_cell HCP.out.own (k := k) (by omega)).1; rw [hqa] at this; exact this
    have d2 : w2.drew.cell? ⟨ab, k + 1, none⟩ = some (.slice pb nb cb) := by have := (sl_cell HCP.out.own (k := k + 1) (by omega)).1; rw [hqb] at this; exact this
    have f1 : w2.drew.frozen? ⟨ab, k, none⟩ = false := (sl_cell HCP.out.own (k := k) (by omega)).2
    have f2 : w2.drew.frozen? ⟨ab, k + 1, none⟩ = false := (sl_cell HCP.out.own (k := k + 1) (by omega)).2
    have hq1 : (qs.set k (pb, nb, cb)).getD (k + 1) (none, 0, 0) = (pb, nb, cb) := by
      rw [List.getD_eq_getElem?_getD, List.getElem?_set_ne (by omega), ← List.getD_eq_getElem?_getD]; exact hqb
    have d3 : (w2.setCell ⟨ab, k, none⟩ (.slice pb nb cb)).drew.cell? ⟨ab, k + 1, none⟩ = some (.slice pb nb cb) := by have := (sl_cell hs1.1 (k := k + 1) (by rw [List.length_set]; omega)).1; rw [hq1] at this; exact this
    have f3 : (w2.setCell ⟨ab, k, none⟩ (.slice pb nb cb)).drew.frozen? ⟨ab, k + 1, none⟩ = false := (sl_cell hs1.1 (k := k + 1) (by rw [List.length_set]; omega)).2
    have HBW := Lib.hid (E1.out.trans (HCP.out.below.mono E1.out.size))
    have hab : z1.heap.size ≤ ab := (World.ownsRow.lt HCP.out.own ab rfl).1
    have hablt : ab < w2.heap.size := (World.ownsRow.lt HCP.out.own ab rfl).2
    have HFin : Hid (∀ Z, Below ((w2.setCell ⟨ab, k, none⟩ (.slice pb nb cb)).setCell ⟨ab, k + 1, none⟩ (.slice pa na ca)).heap.size ((w2.setCell ⟨ab, k, none⟩ (.slice pb nb cb)).setCell ⟨ab, k + 1, none⟩ (.slice pa na ca)) Z → Below W.heap.size W Z ∧ layLL.Row Z (.slice (some ⟨ab, 0, none⟩) m m) (swapG a k)) := Lib.hid fun Z hZ => by
      have hg := grown_thenS hs1.2 hs2.2
      have hw1 := E1.out.size
      have hbz : Below W.heap.size w2 ((w2.setCell ⟨ab, k, none⟩ (.slice pb nb cb)).setCell ⟨ab, k + 1, none⟩ (.slice pa na ca)) := grown_belowS hg (by omega) HBW.out.size
      have hb3 := HBW.out.trans hbz
      refine ⟨hb3.trans (hZ.mono hb3.size), ?_⟩
      have hrow : layLL.Row ((w2.setCell ⟨ab, k, none⟩ (.slice pb nb cb)).setCell ⟨ab, k + 1, none⟩ (.slice pa na ca)) (.slice (some ⟨ab, 0, none⟩) m m) (swapG a k) := by
        refine ll_of (qs := (qs.set k (pb, nb, cb)).set (k + 1) (pa, na, ca)) (by rw [List.length_set, List.length_set, swap_len, hql, HM.out]) (Wd.Own.row hs2.1) fun j hj => ?_
        rw [swap_len] at hj
        have he := hdr_swap (qs := qs) (i := k) (by omega) j
        rw [hqa, hqb] at he
        rw [he, swap_at HK.out]
        obtain ⟨r1, r2⟩ := HCP.out.rows (sw k j) (by rw [HM.out]; exact sw_lt HK.out hj)
        exact rowat_block r1 hg.size fun g' off' m' c' e => hg.block g' (Nat.lt_trans (r2 g' off' m' c' e) hablt) (by intro e2; injection e2 with e2; exact Nat.ne_of_lt (r2 g' off' m' c' e) e2)
      exact hrow.on hZ
    clear hs1 hs2 hq1 hql hqa hqb hab hablt
    go_region
    all_goals go_wp2
    all_goals go_ret2
    all_goals exact ⟨_, _, rfl, (HFin.out _ (Below.refl _ _).drew).1, fun _ => ⟨rfl, by rw [HKI.out]; exact (HFin.out _ (Below.refl _ _).drew).2⟩, fun h => absurd ⟨k0, by rw [← HM.out]; exact kx1, by rw [HKI.out]; exact HCF.out⟩ h⟩
theorem swap_any {G : Nat → Nat → List Rcd → World → Prop} (HG : Graphs G) {N g : Nat} {rs : List Rcd} {W : World} (hG : G N g rs W) (v : Value) (a : List (List Idn)) (i : Int) (h : layLL.Row W v a) (hl : a.length ≤ 1000) (hz : a.flatten.length ≤ 1000000) (haw : ∀ c ∈ a, ∀ x ∈ c, wfId x) : Calls Tryz.prog 15 #[gptr g, v, .int .i64 i] W (GivesSwap rs a i W) := by
  by_cases hk : 0 ≤ i ∧ i + 1 < a.length
  · obtain ⟨k, rfl⟩ := Int.eq_ofNat_of_zero_le hk.1
    exact swap_near HG hG v a k h hl hz haw (by omega)
  · exact swap_far g v a i h hl hk
end Go.Proofs.YtlkndpofegemdaaGreat.Tra

/- The developers' calls of layer 19 (traces) over the developers' graphs: what TraF asks of them. Conditions: those in the structure Traces; Swap: at most 1000000 ids in all. -/
namespace Go.Proofs.YtlkndpofegemdaaGreat.Tra
open Go.RowKit Cmd Bat Ids Rec Wid Gra Rea Cps
set_option linter.unusedVariables false

/-- The fences of a whole call. -/
theorem wide_all {W : World} {fid : FuncId} {args : Array Value} {Q : Ending → World → Prop} (h : CallsIn Fence.wide 9 Tryz.prog fid args W Q) : Calls Tryz.prog fid args W Q := callsIn_wide.1 h
def ZFew (a : List (List Idn)) : Prop := a.flatten.length ≤ 1000000
theorem traces : Traces GrP ZFew where
  conflict := fun hG v u a b ha hb haw hbw => conflict_any graphs hG v u a b ha hb haw hbw
  same := fun {N g rs W} hG v u a b ha hb hal hbl haw hbw has hbs => by
    have := wide_all (same_in graphs hG Fence.wide rfl 9 (fun _ => trivial) rfl (by decide) v u a b ha hb hal hbl haw hbw has hbs)
    rwa [← same_sym] at this
  steps := fun {N g rs W} hG v u a b ha hb hal hbl haw hbw has hbs => by
    have := wide_all (steps_in Fence.wide rfl 9 (fun _ => trivial) rfl (by decide) g v u a b W ha hb hal hbl haw hbw has hbs)
    rwa [← steps_sym] at this
  swap := fun hG v a i h hl hz haw _ _ => swap_any graphs hG v a i h hl hz haw
end Go.Proofs.YtlkndpofegemdaaGreat.Tra
