/- What the developers' Holds gives (layer 20, premise), whatever way graphs are kept: the first two that lack an edge. Condition: a graph as layer 15 has it. -/
import Derived.Test.YtomidcbpnaajeaaGreatPreX
namespace Go.Proofs.YtomidcbpnaajeaaGreat.Pre
open Go.RowKit Cmd Bat Ids Rec Wid Gra Cps Vau
set_option linter.unusedVariables false
set_option linter.unusedSimpArgs false

/-! ### Uses of records -/
/-- A raw use is a record's. -/
structure UseIs (W : World) (q : Use) (x : Rcd) : Prop where
  id : q.1 = x.1
  seq : q.2.1 = x.2.1
  rd : Owns W 0 (sliceOf q.2.2.1) x.2.2.1
  ks : OwnS W 0 (sliceOf q.2.2.2.2.1) (kset (keys x.2.2.2))
  ws : OwnS W 0 (sliceOf q.2.2.2.2.2) (wrS x.2.2.2)
  ok : ∀ c ∈ x.2.2.2, right c = true
section
variable {W0 W X : World} {q : Use} {x : Rcd} {v v' : Value} {qs : List Use} {out : List Rcd} {base : Nat}
theorem UseIs.on (h : UseIs W q x) (hb : Below W.heap.size W X) : UseIs X q x := ⟨h.id, h.seq, own_below h.rd hb, own_below h.ks hb, own_below h.ws hb, h.ok⟩
theorem UseIs.grow (h : UseIs W q x) (ho : wdUse.Own 68 W base v qs) (hg : W.grownBy X v.ownBlock) : UseIs X q x :=
  ⟨h.id, h.seq, World.ownsRow.kept h.rd hg (two_rows (by decide) h.rd ho), World.ownsRow.kept h.ks hg (two_rows (by decide) h.ks ho), World.ownsRow.kept h.ws hg (two_rows (by decide) h.ws ho), h.ok⟩
theorem UseIs.useAt (h : UseIs W q x) : UseAt W (sliceOf q.2.2.1) (sliceOf q.2.2.2.2.1) (sliceOf q.2.2.2.2.2) x := ⟨Owns.row h.rd, rowS h.ks, rowS h.ws, h.ok⟩
/-- A row of uses of the call's own. -/
structure UsesS (W0 W : World) (v : Value) (qs : List Use) (out : List Rcd) : Prop where
  below : Below W0.heap.size W0 W
  own : wdUse.Own 68 W W0.heap.size v qs
  len : qs.length = out.length
  is : ∀ j, j < out.length → UseIs W (layUse.at qs j) (layG.at out j)
theorem UsesS.on (h : UsesS W0 W v qs out) (hb : Below W.heap.size W X) : UsesS W0 X v qs out := ⟨h.below.trans (hb.mono h.below.size), h.own.below hb, h.len, fun j hj => (h.is j hj).on hb⟩
theorem UsesS.void (hb : Below W0.heap.size W0 W) : UsesS W0 W (.slice none 0 0) [] [] := ⟨hb, Wd.Own.void _ _ _, rfl, fun j hj => absurd hj (Nat.not_lt_zero _)⟩
theorem UsesS.snoc (h : UsesS W0 W v qs out) (ho : wdUse.Own 68 X W0.heap.size v' (qs ++ [q])) (hg : W.grownBy X v.ownBlock) (hq : UseIs W q x) : UsesS W0 X v' (qs ++ [q]) (out ++ [x]) := by
  refine ⟨Below.grown h.below hg h.below.size (fun k hk => (World.ownsRow.lt h.own k hk).1), ho, by rw [List.length_append, List.length_append, h.len]; rfl, fun j hj => ?_⟩
  rw [at_snocL, at_snocL, h.len]
  by_cases e : j = out.length
  · rw [if_pos e, if_pos e]; exact hq.grow h.own hg
  · rw [if_neg e, if_neg e]
    rw [List.length_append, List.length_singleton] at hj
    exact (h.is j (by omega)).grow h.own hg
end
theorem at_rc {rs : List Rcd} {k : Nat} (h : k < (gIds rs).length) : layG.at ((gIds rs).map (rcG rs)) k = rcG rs (nth (gIds rs) k) := by
  rw [layG.at_get (by rw [List.length_map]; exact h), List.getElem_map]
  congr 1
  unfold nth
  rw [List.getD_eq_getElem?_getD, List.getElem?_eq_getElem h]; rfl
theorem take_rc {rs : List Rcd} {k : Nat} (h : k < (gIds rs).length) : ((gIds rs).take (k + 1)).map (rcG rs) = ((gIds rs).take k).map (rcG rs) ++ [rcG rs (nth (gIds rs) k)] := by
  rw [List.take_succ_eq_append_getElem h, List.map_append]
  congr 2
  unfold nth
  rw [List.getD_eq_getElem?_getD, List.getElem?_eq_getElem h]; rfl
theorem seven_box {W : World} {g : Nat} {x0 x1 x2 x3 x4 x5 x6 : Value} {t : TypeId} (h : W.heap[g]? = some (.cells #[x0, x1, x2, x3, x4, x5, x6] t (0, 0))) : W.cell? ⟨g, 0, none⟩ = some x0 ∧ W.cell? ⟨g, 1, none⟩ = some x1 ∧ W.cell? ⟨g, 2, none⟩ = some x2 ∧ W.cell? ⟨g, 3, none⟩ = some x3 ∧ W.cell? ⟨g, 4, none⟩ = some x4 ∧ W.cell? ⟨g, 5, none⟩ = some x5 ∧ W.cell? ⟨g, 6, none⟩ = some x6 :=
  ⟨cell_row (i := 0) h rfl, cell_row (i := 1) h rfl, cell_row (i := 2) h rfl, cell_row (i := 3) h rfl, cell_row (i := 4) h rfl, cell_row (i := 5) h rfl, cell_row (i := 6) h rfl⟩
/-- The k-th use of a row, as cells. -/
theorem use_cells {W : World} {B off : Nat} {qs : List Use} (h : layUse.In W B off qs) {k : Nat} (hk : k < qs.length) {a b s : Int} {p1 p2 p3 p4 : Option Addr} {n1 n2 n3 n4 c1 c2 c3 c4 : Nat} (hx : layUse.at qs k = ((a, b), s, (p1, n1, c1), (p2, n2, c2), (p3, n3, c3), (p4, n4, c4))) :
    W.cell? ⟨B, off + k * 7, none⟩ = some (.int .i64 a) ∧ W.cell? ⟨B, off + k * 7 + 1, none⟩ = some (.int .i64 b) ∧ W.cell? ⟨B, off + k * 7 + 2, none⟩ = some (.int .i64 s) ∧ W.cell? ⟨B, off + k * 7 + 3, none⟩ = some (.slice p1 n1 c1) ∧ W.cell? ⟨B, off + k * 7 + 4, none⟩ = some (.slice p2 n2 c2) ∧ W.cell? ⟨B, off + k * 7 + 5, none⟩ = some (.slice p3 n3 c3) ∧ W.cell? ⟨B, off + k * 7 + 6, none⟩ = some (.slice p4 n4 c4) := by
  have := h.cell k hk
  rw [hx] at this; exact this

theorem at_dropU (qs : List Use) (l t : Nat) : layUse.at (qs.drop l) t = layUse.at qs (l + t) := by unfold Lay.at; rw [List.getD_eq_getElem?_getD, List.getD_eq_getElem?_getD, List.getElem?_drop]
/-! ### Holds -/
set_option maxRecDepth 100000 in
set_option maxHeartbeats 16000000 in
theorem pholds_any {G : Nat → Nat → List Rcd → World → Prop} {N g : Nat} {rs : List Rcd} {W : World} (HG : Graphs G) (h : G N g rs W) : Calls Tryz.prog 9 #[gptr g] W (GivesHolds rs W) := by
  have HN := HG.le h
  have HL := (HG.lot h).1
  have HE := (HG.lot h).2
  have HX : Hid (∀ X, Below W.heap.size W X → G N g rs X) := Lib.hid fun X hb => HG.on h (hb.mono HN)
  have T0 := Lib.hid (TI.start W 0 0 0 0)
  have CI := Lib.hid (HG.ids (HX.out _ T0.out.below))
  have CR : Hid (∀ a b, (a, b) ∈ gIds rs → ∀ X, Below W.heap.size W X → Calls Tryz.prog 24 #[gptr g, .agg #[.int .i64 a, .int .i64 b]] X (GivesRd (rcG rs (a, b)) X)) := Lib.hid fun a b hm X hb => by
    have hm := (srt_mem _ _).1 hm
    have h1 := rc_in hm
    have h2 := (HL.wf _ h1.1).id
    rw [h1.2] at h2
    exact rec_there HG (HX.out X hb) a b h2 hm
  have HOk : Hid (∀ x ∈ gIds rs, (∀ c ∈ (rcG rs x).2.2.2, right c = true) ∧ (rcG rs x).2.2.2.length ≤ 1000 ∧ (∀ c ∈ (rcG rs x).2.2.2, wfC c) ∧ (rcG rs x).1 = x) := Lib.hid fun x hm => by
    have h1 := rc_in ((srt_mem _ _).1 hm)
    have h2 := right_all (ok_all HE _ h1.1).batch
    exact ⟨h2.1, by omega, (HL.wf _ h1.1).batch, h1.2⟩
  have HMl : Hid ((gIds rs).length ≤ 1000) := Lib.hid (by have h1 := srt_length (idsG rs); rw [idsG_len] at h1; exact Nat.le_trans h1 HL.few)
  obtain ⟨m, hm⟩ : ∃ m, m = (gIds rs).length := ⟨_, rfl⟩
  have HM := Lib.hid hm
  have hm1 : m ≤ 1000 := by have := HMl.out; omega
  clear h HG HN HL HE HX hm
  go_enter Tryz.func9, Tryz.ntmps9
  go_wp2_with (first
    | (go_at_call 23; ((with_reducible refine CI.out.mono ?_); rintro E w1 ⟨u, rfl, hr, hb⟩; obtain ⟨p, cap, rfl, hlo, hd⟩ := Rec.RowAt.parts hr; rw [← HM.out] at hlo hd ⊢; have T1 := Lib.hid (T0.out.on hb); clear hr hb)))
  clear CI T0
  go_loopw [5, 17] (fun u i wr => ∃ (k : Nat) (qs : List Use), k ≤ m ∧ i = .int .i64 k ∧ Hid (UsesS w1 wr u qs (((gIds rs).take k).map (rcG rs)))) (fun _ i _ => m - (intOf i).toNat)
  case atStart => exact ⟨0, [], Nat.zero_le _, rfl, Lib.hid (UsesS.void (Below.refl _ _))⟩
  case round =>
    obtain ⟨k, qs, hk, rfl, HU⟩ := hrel
    have k0 : (0 : Int) ≤ k := by omega
    by_cases hkm : k < m
    · have km : (k : Int) < m := by omega
      obtain ⟨B, off, rfl, HC⟩ := hd.resolve_left (by omega)
      have hkx : k < (gIds rs).length := by rw [← HM.out]; exact hkm
      have HTK : Hid (((gIds rs).take (k + 1)).map (rcG rs) = ((gIds rs).take k).map (rcG rs) ++ [rcG rs (nth (gIds rs) k)]) := Lib.hid (take_rc hkx)
      have hmem := nth_memP hkx
      obtain ⟨⟨x1, x2⟩, hx⟩ : ∃ q, nth (gIds rs) k = q := ⟨_, rfl⟩
      have c0 := (HC.out.on HU.out.below).fst k hkx
      have c1 := (HC.out.on HU.out.below).snd k hkx
      rw [hx] at c0 c1 hmem HTK
      have CRx := Lib.hid (CR.out x1 x2 hmem)
      have HOx := Lib.hid (HOk.out _ hmem)
      obtain ⟨⟨⟨a1, b1⟩, q1, ds1, cs1⟩, hr1⟩ : ∃ r, rcG rs (x1, x2) = r := ⟨_, rfl⟩
      rw [hr1] at CRx HOx HTK
      have hlq : Hid (qs.length + 1 ≤ 1000000) := Lib.hid (by have h1 := HU.out.len; rw [List.length_map, List.length_take] at h1; omega)
      generalize ((gIds rs).take k).map (rcG rs) = out at HU HTK
      have HB1 := Lib.hid (Cmd.below_one wr (.cells #[.int .i64 x1, .int .i64 x2] 32))
      have HU1 := Lib.hid (HU.out.on HB1.out)
      have HT1 := Lib.hid (T1.out.below.trans (HU1.out.below.mono T1.out.below.size))
      have CR1 := Lib.hid (CRx.out _ HT1.out)
      have i0 := cell_row (i := 0) (heap_alloc_new wr (.cells #[.int .i64 x1, .int .i64 x2] 32)) rfl
      have i1 := cell_row (i := 1) (heap_alloc_new wr (.cells #[.int .i64 x1, .int .i64 x2] 32)) rfl
      clear hx hr1 hkx hd hmem CRx
      go_wp2_with (first
        | (go_at_call 24; ((with_reducible refine CR1.out.mono ?_); rintro E w2 ⟨v1, u1, rfl, ho, hr, hb⟩; obtain ⟨p1, k1, rfl⟩ := own_shape ho; obtain ⟨p2, k2, rfl, -⟩ := id hr; obtain ⟨n1, hn1⟩ : ∃ n, n = ds1.length := ⟨_, rfl⟩; obtain ⟨n2, hn2⟩ : ∃ n, n = cs1.length := ⟨_, rfl⟩; have RD : Hid (Owns w2 0 (.slice p1 ds1.length k1) ds1) := Lib.hid (own_mono ho (Nat.zero_le _)); have RC := Lib.hid hr; rw [← hn1] at RD ⊢; rw [← hn2] at RC ⊢; have B2 := Lib.hid (Cmd.below_one w2 (.cells #[.int .i64 a1, .int .i64 b1, .int .i64 q1, .slice p1 n1 k1, .slice p2 n2 k2] 42)); have HU2 := Lib.hid ((HU1.out.on hb).on B2.out); have RD2 := Lib.hid (own_below RD.out B2.out); have CU := Lib.hid (use_any a1 b1 q1 (.slice p1 n1 k1) (.slice p2 n2 k2) cs1 _ (RC.out.on B2.out) HOx.out.2.1 HOx.out.2.2.1 ⟨_, _, _, rfl⟩); have N2 := heap_alloc_new w2 (.cells #[.int .i64 a1, .int .i64 b1, .int .i64 q1, .slice p1 n1 k1, .slice p2 n2 k2] 42); obtain ⟨f0, f1, f2, f3, f4⟩ := five_box N2; clear hn1 hn2 ho hr hb N2))
        | (go_at_call 25; ((with_reducible refine CU.out.mono ?_); rintro E w3 ⟨p3, k3, p4, k4, rfl, ho3, ho4, hb⟩; obtain ⟨n3, hn3⟩ : ∃ n, n = (kset (keys cs1)).length := ⟨_, rfl⟩; obtain ⟨n4, hn4⟩ : ∃ n, n = (wrS cs1).length := ⟨_, rfl⟩; have O3 : Hid (OwnS w3 0 (.slice p3 (kset (keys cs1)).length k3) (kset (keys cs1))) := Lib.hid (own_mono ho3 (Nat.zero_le _)); have O4 : Hid (OwnS w3 0 (.slice p4 (wrS cs1).length k4) (wrS cs1)) := Lib.hid (own_mono ho4 (Nat.zero_le _)); rw [← hn3, ← hn4]; rw [← hn3] at O3; rw [← hn4] at O4; have B3 := Lib.hid (Cmd.below_one w3 (.cells #[.int .i64 a1, .int .i64 b1, .int .i64 q1, .slice p1 n1 k1, .slice p2 n2 k2, .slice p3 n3 k3, .slice p4 n4 k4] 68)); have HU3 := Lib.hid ((HU2.out.on hb).on B3.out); have HQ : Hid (UseIs (w3.alloc (.cells #[.int .i64 a1, .int .i64 b1, .int .i64 q1, .slice p1 n1 k1, .slice p2 n2 k2, .slice p3 n3 k3, .slice p4 n4 k4] 68)) ((a1, b1), q1, (p1, n1, k1), (p2, n2, k2), (p3, n3, k3), (p4, n4, k4)) ((a1, b1), q1, ds1, cs1)) := Lib.hid ⟨rfl, rfl, own_below (own_below RD2.out hb) B3.out, (by have := own_below O3.out B3.out; rwa [hn3] at this ⊢), (by have := own_below O4.out B3.out; rwa [hn4] at this ⊢), HOx.out.1⟩; have HA := Lib.hid (grow_wd wtUse (w3.alloc (.cells #[.int .i64 a1, .int .i64 b1, .int .i64 q1, .slice p1 n1 k1, .slice p2 n2 k2, .slice p3 n3 k3, .slice p4 n4 k4] 68)) 62 w1.heap.size u5 qs HU3.out.own HU3.out.below.size w3.heap.size ((a1, b1), q1, (p1, n1, k1), (p2, n2, k2), (p3, n3, k3), (p4, n4, k4)) #[.int .i64 a1, .int .i64 b1, .int .i64 q1, .slice p1 n1 k1, .slice p2 n2 k2, .slice p3 n3 k3, .slice p4 n4 k4] rfl (heap_alloc_new w3 _) hlq.out); clear hb hn3 hn4 ho3 ho4))
        | (at_builtin; refine wp_app rfl _ _ 62 rfl _ _ rfl rfl HA.out ?_; intro v8 w8 HV8))
      go_roundw
      case rel => exact ⟨k + 1, _, by omega, by go_num, Lib.hid (by rw [HTK.out]; exact HU3.out.snoc HV8.out.1 HV8.out.2.1 HQ.out)⟩
      case measure => simp [intOf]; omega
    · obtain rfl : k = m := by omega
      have km : ¬ (k : Int) < k := by omega
      have hUs := HU.out
      rw [HM.out, List.take_length] at hUs
      obtain ⟨pu, cu, rfl⟩ := own_shape hUs.own
      have hql : qs.length = k := by rw [hUs.len, List.length_map, ← HM.out]
      rw [hql] at hUs ⊢
      have HQl := Lib.hid hql
      have HUs := Lib.hid hUs
      obtain ⟨wz, hwz⟩ : ∃ wz, wz = wr := ⟨_, rfl⟩
      subst hwz
      clear hUs hql HU hd CR
      go_wp2_with fail
      go_loopw [35] (fun i wr => ∃ j : Nat, j ≤ k ∧ i = .int .i64 j ∧ Hid (Below wz.heap.size wz wr) ∧ Hid (Nolack rs j 0)) (fun i _ => k - (intOf i).toNat)
      case atStart => exact ⟨0, Nat.zero_le _, rfl, Lib.hid (Below.refl _ _), Lib.hid (Nolack.zero rs)⟩
      case round =>
        obtain ⟨j, hj, rfl, hbW, hS⟩ := hrel
        have j0 : (0 : Int) ≤ j := by omega
        by_cases hjk : j < k
        · have jk : (j : Int) < k := by omega
          have HV := Lib.hid (HUs.out.on hbW.out)
          have hjx : j < (gIds rs).length := by rw [← HM.out]; exact hjk
          have hjq : j < qs.length := by rw [HQl.out]; exact hjk
          obtain ⟨p', c', e', -, hdu⟩ := (Wd.Own.row HV.out.own).parts
          have ep : pu = p' := by injection e'
          subst ep
          clear e'
          obtain ⟨B, off, hpu, I⟩ := hdu.resolve_left (by omega)
          have hisj := HV.out.is j (by rw [List.length_map]; exact hjx)
          rw [at_rc hjx] at hisj
          obtain ⟨⟨⟨a1, b1⟩, s1, ⟨p1, n1, k1⟩, ⟨p2, n2, k2⟩, ⟨p3, n3, k3⟩, ⟨p4, n4, k4⟩⟩, hq1⟩ : ∃ q, layUse.at qs j = q := ⟨_, rfl⟩
          obtain ⟨d0, d1, d2, d3, d4, d5, d6⟩ := use_cells I.out hjq hq1
          have hcut : ∀ w, (Instr.slice 62 (.slice pu k cu) (some (.int .i64 ((j : Int) + 1))) none none).run Tryz.prog w = .ok (.slice (cutl pu (j + 1) cu 7) (k - (j + 1)) (cu - (j + 1))) w := fun w => from_wide wtUse pu k cu (j + 1) (by omega) w
          rw [hq1] at hisj
          obtain ⟨⟨⟨a1', b1'⟩, s1', ds1, cs1⟩, hr1⟩ : ∃ r, rcG rs (nth (gIds rs) j) = r := ⟨_, rfl⟩
          rw [hr1] at hisj
          obtain ⟨rfl, rfl⟩ : a1 = a1' ∧ b1 = b1' := by have := hisj.id; injection this with h1 h2; exact ⟨h1, h2⟩
          obtain rfl : s1 = s1' := hisj.seq
          have HUA := Lib.hid hisj.useAt
          have HR1 := Lib.hid hr1
          have HId : Hid (nth (gIds rs) j = (a1, b1)) := Lib.hid (by have := (HOk.out _ (nth_memP hjx)).2.2.2; rw [hr1] at this; exact this.symm)
          have HBx := Lib.hid (Cmd.below_one wr (.cells #[.int .i64 a1, .int .i64 b1, .int .i64 s1, .slice p1 n1 k1, .slice p2 n2 k2, .slice p3 n3 k3, .slice p4 n4 k4] 68))
          have HNx := Lib.hid (heap_alloc_new wr (.cells #[.int .i64 a1, .int .i64 b1, .int .i64 s1, .slice p1 n1 k1, .slice p2 n2 k2, .slice p3 n3 k3, .slice p4 n4 k4] 68))
          subst hpu
          have HDrop : Hid (∀ X, Below wz.heap.size wz X → layUse.Row X (.slice (cutl (some ⟨B, off, none⟩) (j + 1) cu 7) (k - (j + 1)) (cu - (j + 1))) (qs.drop (j + 1))) := Lib.hid fun X hb => row_drop (D := wdUse) (Wd.Own.row (HUs.out.on hb).own) (j + 1) (by omega)
          generalize cutl (some ⟨B, off, none⟩) (j + 1) cu 7 = pt at hcut HDrop
          generalize cu - (j + 1) = ct at hcut HDrop
          obtain ⟨mt, hmt⟩ : ∃ mt, mt = k - (j + 1) := ⟨_, rfl⟩
          rw [← hmt] at hcut HDrop
          clear hisj hq1 hr1 hdu I hjx hjq
          go_wp2_with fail
          obtain ⟨wq, hwq⟩ : ∃ wq, wq = wr.alloc (.cells #[.int .i64 a1, .int .i64 b1, .int .i64 s1, .slice p1 n1 k1, .slice p2 n2 k2, .slice p3 n3 k3, .slice p4 n4 k4] 68) := ⟨_, rfl⟩
          rw [← hwq]
          rw [← hwq] at HBx HNx
          have HBx' : Hid (Below wr.heap.size wr wq) := HBx
          have hbxl : Hid (W.heap.size + 1 < wr.heap.size) := Lib.hid (Nat.lt_of_lt_of_le T1.out.lt (Nat.le_trans HUs.out.below.size hbW.out.size))
          generalize hbx : wr.heap.size = bx at HNx hbxl ⊢
          have HWq : Hid (Below wz.heap.size wz wq) := Lib.hid (hbW.out.trans (HBx.out.mono hbW.out.size))
          clear hwq d0 d1 d2 d3 d4 d5 d6 hcut
          go_loopw [45] (fun i wr => ∃ t : Nat, t ≤ mt ∧ i = .int .i64 t ∧ Hid (Below wq.heap.size wq wr) ∧ Hid (Nolack rs j (j + 1 + t))) (fun i _ => mt - (intOf i).toNat)
          case atStart => exact ⟨0, Nat.zero_le _, rfl, Lib.hid (Below.refl _ _), Lib.hid hS.out.first⟩
          case round =>
            obtain ⟨t, ht, rfl, hbT, hT⟩ := hrel
            have t0 : (0 : Int) ≤ t := by omega
            have HWt := Lib.hid (HWq.out.trans (hbT.out.mono HWq.out.size))
            by_cases htm : t < mt
            · have tm : (t : Int) < mt := by omega
              have hjt : j + 1 + t < k := by omega
              have hjx : j + 1 + t < (gIds rs).length := by rw [← HM.out]; exact hjt
              have hdl : t < (qs.drop (j + 1)).length := by rw [List.length_drop, HQl.out]; omega
              obtain ⟨p', c', e', -, hdt⟩ := (HDrop.out _ HWt.out).parts
              have ep : pt = p' := by injection e'
              subst ep
              clear e'
              obtain ⟨B2, o2, rfl, I⟩ := hdt.resolve_left (by omega)
              have hatd : layUse.at (qs.drop (j + 1)) t = layUse.at qs (j + 1 + t) := at_dropU qs (j + 1) t
              have hisj := (HUs.out.on HWt.out).is (j + 1 + t) (by rw [List.length_map]; exact hjx)
              rw [at_rc hjx] at hisj
              obtain ⟨⟨⟨a2, b2⟩, s2, ⟨q1, m1, l1⟩, ⟨q2, m2, l2⟩, ⟨q3, m3, l3⟩, ⟨q4, m4, l4⟩⟩, hq2⟩ : ∃ q, layUse.at qs (j + 1 + t) = q := ⟨_, rfl⟩
              obtain ⟨d0, d1, d2, d3, d4, d5, d6⟩ := use_cells I.out hdl (hatd.trans hq2)
              rw [hq2] at hisj
              obtain ⟨⟨⟨a2', b2'⟩, s2', ds2, cs2⟩, hr2⟩ : ∃ r, rcG rs (nth (gIds rs) (j + 1 + t)) = r := ⟨_, rfl⟩
              rw [hr2] at hisj
              obtain ⟨rfl, rfl⟩ : a2 = a2' ∧ b2 = b2' := by have := hisj.id; injection this with h1 h2; exact ⟨h1, h2⟩
              obtain rfl : s2 = s2' := hisj.seq
              have HId2 : Hid (nth (gIds rs) (j + 1 + t) = (a2, b2)) := Lib.hid (by have := (HOk.out _ (nth_memP hjx)).2.2.2; rw [hr2] at this; exact this.symm)
              have HLk : Hid (lackAt rs j (j + 1 + t) = lackR ((a1, b1), s1, ds1, cs1) ((a2, b2), s2, ds2, cs2)) := Lib.hid (by unfold lackAt; rw [HR1.out, hr2])
              have HB2 := Lib.hid (Cmd.below_one wr (.cells #[.int .i64 a2, .int .i64 b2, .int .i64 s2, .slice q1 m1 l1, .slice q2 m2 l2, .slice q3 m3 l3, .slice q4 m4 l4] 68))
              have HN2 := Lib.hid (heap_alloc_new wr (.cells #[.int .i64 a2, .int .i64 b2, .int .i64 s2, .slice q1 m1 l1, .slice q2 m2 l2, .slice q3 m3 l3, .slice q4 m4 l4] 68))
              have HNa := Lib.hid ((hbT.out.block _ (Array.getElem?_eq_some_iff.1 HNx.out).1).trans HNx.out)
              have HNa2 := Lib.hid ((HB2.out.block _ (Array.getElem?_eq_some_iff.1 HNa.out).1).trans HNa.out)
              have CL := Lib.hid (lacks_any a1 b1 s1 a2 b2 s2 p1 p2 p3 p4 q1 q2 q3 q4 n1 n2 n3 n4 m1 m2 m3 m4 k1 k2 k3 k4 l1 l2 l3 l4 ds1 ds2 cs1 cs2 _ ((HUA.out.on (HBx'.out.trans (hbT.out.mono HBx'.out.size))).on HB2.out) (hisj.useAt.on HB2.out))
              have HW2 := Lib.hid (HWt.out.trans (HB2.out.mono HWt.out.size))
              obtain ⟨e0, e1, e2, e3, e4, e5, e6⟩ := seven_box HNa2.out
              obtain ⟨f0, f1, f2, f3, f4, f5, f6⟩ := seven_box HN2.out
              rw [← HLk.out] at CL
              obtain ⟨lk, hlk⟩ : ∃ b, b = lackAt rs j (j + 1 + t) := ⟨_, rfl⟩
              have HL := Lib.hid hlk
              rw [← hlk] at CL
              clear hisj hq2 hr2 hdt I hjx hdl hatd hlk
              have hbyl : Hid (W.heap.size + 1 < wr.heap.size) := Lib.hid (Nat.lt_of_lt_of_le T1.out.lt (Nat.le_trans HUs.out.below.size HWt.out.size))
              generalize hby : wr.heap.size = by' at f0 f1 f2 f3 f4 f5 f6 HN2 hbyl
              obtain ⟨wv, hwv⟩ : ∃ wv, wv = wr.alloc (.cells #[.int .i64 a2, .int .i64 b2, .int .i64 s2, .slice q1 m1 l1, .slice q2 m2 l2, .slice q3 m3 l3, .slice q4 m4 l4] 68) := ⟨_, rfl⟩
              cases lk
              · go_wp2_with (first
                  | (go_at_call 26; ((with_reducible refine CL.out.mono ?_); rintro E w8 ⟨rfl, hb⟩; have HB8 := Lib.hid (hbT.out.trans ((HB2.out.trans (hb.mono HB2.out.size)).mono hbT.out.size)); clear hb)))
                go_roundw
                case rel => exact ⟨t + 1, by omega, by go_num, HB8, Lib.hid (hT.out.step HL.out.symm)⟩
                case measure => simp [intOf]; omega
              · go_wp2_with (first
                  | (go_at_call 26; ((with_reducible refine CL.out.mono ?_); rintro E w8 ⟨rfl, hb⟩; have HB8 := Lib.hid (HW2.out.trans (hb.mono HW2.out.size)); have HNa8 := Lib.hid ((hb.block _ (Array.getElem?_eq_some_iff.1 HNa2.out).1).trans HNa2.out); have HN8 := Lib.hid ((hb.block _ (Array.getElem?_eq_some_iff.1 HN2.out).1).trans HN2.out); clear hb))
                  | fail)
                have T8 := Lib.hid (T1.out.on (HUs.out.below.trans (HB8.out.mono HUs.out.below.size)))
                have g1 := T8.out.one
                have g2 := T8.out.two
                have HBf := Lib.hid (boxes_put T8.out.below g1 g2 a1 b1 a2 b2)
                have a0' := cell_row (i := 0) g1 rfl
                have a1' := cell_row (i := 1) g1 rfl
                have b0' := cell_row (i := 0) g2 rfl
                have b1' := cell_row (i := 1) g2 rfl
                have fa0 : w8.frozen? ⟨W.heap.size, 0, none⟩ = false := free_row g1
                have fb0 : w8.frozen? ⟨W.heap.size + 1, 0, none⟩ = false := free_row g2
                have fa1 : w8.frozen? ⟨W.heap.size, 1, none⟩ = false := free_row g1
                have fb1 : w8.frozen? ⟨W.heap.size + 1, 1, none⟩ = false := free_row g2
                obtain ⟨s0, s1', -⟩ := seven_box HNa8.out
                obtain ⟨r0, r1, -⟩ := seven_box HN8.out
                have HFB : Hid (∀ (X : World) (g B : Nat) (u v : Value) (j : Nat), g = W.heap.size ∨ g = W.heap.size + 1 → W.heap.size + 1 < B → ((X.setCell ⟨g, 0, none⟩ u).setCell ⟨g, 1, none⟩ v).cell? ⟨B, j, none⟩ = X.cell? ⟨B, j, none⟩) := Lib.hid fun X g B u v j hg hB => by
                  have e1 := heap_setCell_other (X.setCell ⟨g, 0, none⟩ u) ⟨g, 1, none⟩ B v (by show B ≠ g; omega)
                  have e2 := heap_setCell_other X ⟨g, 0, none⟩ B u (by show B ≠ g; omega)
                  exact World.cell?_of_block (a := ⟨B, j, none⟩) (e1.trans e2)
                have t0' := (HFB.out w8 _ _ (.int .i64 a2) (.int .i64 b2) 0 (.inr rfl) hbxl.out).trans s0
                have t1' := (HFB.out w8 _ _ (.int .i64 a2) (.int .i64 b2) 1 (.inr rfl) hbxl.out).trans s1'
                have t2' := (HFB.out w8 _ _ (.int .i64 a1) (.int .i64 b1) 0 (.inl rfl) hbyl.out).trans r0
                have t3' := (HFB.out w8 _ _ (.int .i64 a1) (.int .i64 b1) 1 (.inl rfl) hbyl.out).trans r1
                clear g1 g2
                have HFd : Hid (Hlds rs (a1, b1) (a2, b2) false) := Lib.hid (by
                  have := hT.out.found (by omega) (by rw [← HM.out]; exact hjt) HL.out.symm
                  rw [HId.out, HId2.out] at this; exact this)
                go_wp2
                go_region
                clear t0' t1' t2' t3' s0 s1' r0 r1 a0' a1' b0' b1' fa0 fb0 fa1 fb1 HFB
                obtain ⟨wf, ewf, hbf, g1, g2⟩ := HBf.out
                rw [← ewf]
                clear ewf HBf
                go_wp2
                refine bodyPost_ret (v := .tuple #[.agg #[.int .i64 a1, .int .i64 b1], .agg #[.int .i64 a2, .int .i64 b2], .bool false]) ?_ rfl ?_
                · exact ret_ids rfl _ rfl rfl rfl g1 g2
                exact ⟨a1, b1, a2, b2, false, rfl, HFd.out, hbf.drew⟩
            · have tm : ¬ (t : Int) < mt := by omega
              go_wp2_with fail
              go_roundw
              case rel => exact ⟨j + 1, by omega, by go_num, HWt, Lib.hid (hT.out.next (by rw [← HM.out]; omega))⟩
              case measure => simp [intOf]; omega
        · have jk : ¬ (j : Int) < k := by omega
          have T9 := Lib.hid (T1.out.on (HUs.out.below.trans (hbW.out.mono HUs.out.below.size)))
          have z1 := T9.out.one
          have z2 := T9.out.two
          have HEn := Lib.hid (hS.out.end (by rw [← HM.out]; omega))
          have a0 := cell_row (i := 0) z1 rfl
          have a1 := cell_row (i := 1) z1 rfl
          have b0 := cell_row (i := 0) z2 rfl
          have b1 := cell_row (i := 1) z2 rfl
          have fa0 : wr.frozen? ⟨W.heap.size, 0, none⟩ = false := free_row z1
          have fb0 : wr.frozen? ⟨W.heap.size + 1, 0, none⟩ = false := free_row z2
          have fa1 : wr.frozen? ⟨W.heap.size, 1, none⟩ = false := free_row z1
          have fb1 : wr.frozen? ⟨W.heap.size + 1, 1, none⟩ = false := free_row z2
          have HBf := boxes_put T9.out.below z1 z2 0 0 0 0
          clear z1 z2
          go_wp2
          obtain ⟨wf, ewf, hbf, g1, g2⟩ := HBf
          rw [← ewf]
          clear ewf a0 a1 b0 b1 fa0 fb0 fa1 fb1
          refine bodyPost_ret (v := .tuple #[.agg #[.int .i64 0, .int .i64 0], .agg #[.int .i64 0, .int .i64 0], .bool true]) ?_ rfl ?_
          · exact ret_ids rfl _ rfl rfl rfl g1 g2
          exact ⟨0, 0, 0, 0, true, rfl, HEn.out, hbf⟩
end Go.Proofs.YtomidcbpnaajeaaGreat.Pre
