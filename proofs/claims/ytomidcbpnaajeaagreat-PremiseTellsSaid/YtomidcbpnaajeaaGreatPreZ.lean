/- What the developers' fine gives (layer 20, premise): the uses of copies of those records that may be. Conditions: the records lie in memory as their cells say; texts of a length that Go reads; at most 1000 records. -/
import Derived.Test.YtomidcbpnaajeaaGreatPreY
import Derived.Test.YtomidcbpnaajeaaGreatGrbA
namespace Go.Proofs.YtomidcbpnaajeaaGreat.Pre
open Go.RowKit Cmd Bat Ids Rec Wid Gra Cps Vau Mpg Go.Maps
set_option linter.unusedVariables false
set_option linter.unusedSimpArgs false

/-- A use's batch lies in a block of its own. -/
def BatIs (W : World) (q : Use) (x : Rcd) : Prop := ∃ g, sliceOf q.2.2.2.1 = .slice (some ⟨g, 0, none⟩) x.2.2.2.length x.2.2.2.length ∧ W.heap[g]? = some (.cells (flatC x.2.2.2).toArray 55 (0, 0))
/-- No two uses' Deps lie in one block. -/
def Dst (qs : List Use) : Prop := ∀ i j, i < qs.length → j < qs.length → i ≠ j → ∀ g, (sliceOf (layUse.at qs i).2.2.1).ownBlock = some g → (sliceOf (layUse.at qs j).2.2.1).ownBlock ≠ some g
theorem own_keeps {W X : World} {base c n : Nat} {e : TypeId} {v : Value} {xs : List Value} (h : W.ownsRow base e c v n xs) (hk : Keeps W X) : X.ownsRow base e c v n xs :=
  ⟨h.1, h.2.imp id fun ⟨g, cap, cur, h1, h2, h3, h4⟩ => ⟨g, cap, cur, h1, h2, hk _ _ _ h3, h4⟩⟩
/-- Uses of the call's own, whose batches and Deps lie apart. -/
structure UM (w W : World) (v : Value) (qs : List Use) (out : List Rcd) : Prop where
  uses : UsesS w W v qs out
  bat : ∀ j, j < out.length → BatIs W (layUse.at qs j) (layG.at out j)
  dst : Dst qs
  low : ∀ j, j < qs.length → ∀ g, (sliceOf (layUse.at qs j).2.2.1).ownBlock = some g → w.heap.size ≤ g
section
variable {w W X : World} {v v' : Value} {qs : List Use} {out : List Rcd} {q : Use} {x : Rcd}
theorem UseIs.keep (h : UseIs W q x) (hk : Keeps W X) : UseIs X q x := ⟨h.id, h.seq, own_keeps h.rd hk, own_keeps h.ks hk, own_keeps h.ws hk, h.ok⟩
theorem UM.keep (h : UM w W v qs out) (hk : Keeps W X) (hb : Below w.heap.size w X) : UM w X v qs out :=
  ⟨⟨hb, own_keeps h.uses.own hk, h.uses.len, fun j hj => (h.uses.is j hj).keep hk⟩, fun j hj => by obtain ⟨g, h1, h2⟩ := h.bat j hj; exact ⟨g, h1, hk _ _ _ h2⟩, h.dst, h.low⟩
theorem UM.on (h : UM w W v qs out) (hb : Below W.heap.size W X) : UM w X v qs out := h.keep (keeps_below hb) (h.uses.below.trans (hb.mono h.uses.below.size))
theorem UM.void (hb : Below w.heap.size w W) : UM w W (.slice none 0 0) [] [] := ⟨UsesS.void hb, fun j hj => absurd hj (Nat.not_lt_zero _), fun i j hi => absurd hi (Nat.not_lt_zero _), fun j hj => absurd hj (Nat.not_lt_zero _)⟩
theorem bat_grow {base : Nat} {ys : List Use} (h : BatIs W q x) (ho : wdUse.Own 68 W base v ys) (hg : W.grownBy X v.ownBlock) : BatIs X q x := by
  obtain ⟨g, h1, h2⟩ := h
  exact ⟨g, h1, (hg.block g (Array.getElem?_eq_some_iff.1 h2).1 (fun e => box_ne (xs := #[]) h2 ho (by decide) e.symm)).trans h2⟩
theorem UM.snoc (h : UM w W v qs out) (ho : wdUse.Own 68 X w.heap.size v' (qs ++ [q])) (hg : W.grownBy X v.ownBlock) (hq : UseIs W q x) (hb : BatIs W q x)
    (hd : ∀ j, j < qs.length → ∀ g, (sliceOf (layUse.at qs j).2.2.1).ownBlock = some g → (sliceOf q.2.2.1).ownBlock ≠ some g) (hlo : ∀ g, (sliceOf q.2.2.1).ownBlock = some g → w.heap.size ≤ g) : UM w X v' (qs ++ [q]) (out ++ [x]) := by
  refine ⟨h.uses.snoc ho hg hq, fun j hj => ?_, fun i j hi hj hne g hgi hgj => ?_, fun j hj g hgj => ?_⟩
  · rw [at_snocL, at_snocL, h.uses.len]
    by_cases e : j = out.length
    · rw [if_pos e, if_pos e]; exact bat_grow hb h.uses.own hg
    · rw [if_neg e, if_neg e]
      rw [List.length_append, List.length_singleton] at hj
      exact bat_grow (h.bat j (by omega)) h.uses.own hg
  · rw [List.length_append, List.length_singleton] at hi hj
    rw [at_snocL] at hgi hgj
    by_cases ei : i = qs.length
    · rw [if_pos ei] at hgi
      rw [if_neg (by omega)] at hgj
      exact hd j (by omega) g hgj hgi
    · rw [if_neg ei] at hgi
      by_cases ej : j = qs.length
      · rw [if_pos ej] at hgj
        exact hd i (by omega) g hgi hgj
      · rw [if_neg ej] at hgj
        exact h.dst i j (by omega) (by omega) hne g hgi hgj
  · rw [List.length_append, List.length_singleton] at hj
    rw [at_snocL] at hgj
    by_cases ej : j = qs.length
    · rw [if_pos ej] at hgj; exact hlo g hgj
    · rw [if_neg ej] at hgj; exact h.low j (by omega) g hgj
theorem own_ids {g : Nat} {ds : List Idn} (h : W.heap[g]? = some (.cells (flat ds).toArray 32 (0, 0))) (hl : ds.length ≤ 100000) : Owns W 0 (.slice (some ⟨g, 0, none⟩) ds.length ds.length) ds :=
  ⟨by rw [Ids.flat_len], .inr ⟨g, ds.length, _, rfl, Nat.zero_le _, h, Nat.le_refl _, by unfold maxLen; omega, by rw [List.size_toArray, Ids.flat_len], by rw [List.take_of_length_le (by rw [Ids.flat_len]; exact Nat.le_refl _)]⟩⟩
end
theorem own_map {W : World} {base c n mb N : Nat} {e : TypeId} {v : Value} {xs : List Value} {f : Idn → Option Value} (h : W.ownsRow base e c v n xs) (hm : MapG kyI W mb N f) : v.ownBlock ≠ some mb := by
  obtain ⟨D, ks, ⟨es, cl, hb, -⟩, -⟩ := hm
  rcases h.2 with ⟨rfl, -⟩ | ⟨g', cap', cur', rfl, -, hg', -⟩
  · intro e; cases e
  · intro e
    injection e with e
    subst e
    rw [hb] at hg'
    cases hg'
/-- Which ids have come. -/
def inU (l : List Idn) : Idn → Option Value := fun x => if x ∈ l then some (.bool true) else none
theorem inU_get (l : List Idn) (x : Idn) : (inU l x).getD (.bool false) = .bool (decide (x ∈ l)) := by
  unfold inU
  by_cases h : x ∈ l
  · rw [if_pos h, decide_eq_true h]; rfl
  · rw [if_neg h, decide_eq_false h]; rfl
theorem inU_snoc (l : List Idn) (x : Idn) : ∀ y, setF (inU l) x (some (.bool true)) y = inU (l ++ [x]) y := fun y => by
  unfold setF inU
  by_cases h : y = x
  · rw [if_pos h, if_pos (by rw [h]; simp)]
  · rw [if_neg h]
    by_cases h2 : y ∈ l
    · rw [if_pos h2, if_pos (List.mem_append_left _ h2)]
    · rw [if_neg h2, if_neg]
      intro h3
      rcases List.mem_append.1 h3 with h3 | h3
      · exact h2 h3
      · exact h (List.mem_singleton.1 h3)
def GivesUM (rs : List Rcd) (w : World) (E : Ending) (w' : World) : Prop := ∃ v qs, E = .returned v ∧ UM w w' v qs (fineG rs)
set_option maxRecDepth 100000 in
set_option maxHeartbeats 16000000 in
theorem pfine_any (v : Value) (rs : List Rcd) (w : World) (h : layG.Row w v rs) (hl : rs.length ≤ 1000) (hw : ∀ r ∈ rs, wfG r) (hlow : ∀ r ∈ rs, r.2.2.1.length ≤ 1000 ∧ r.2.2.2.length ≤ 1000) : Calls Tryz.prog 33 #[v] w (GivesUM rs w) := by
  obtain ⟨p, cap, rfl, h1, hd⟩ := h.parts
  have HWF := Lib.hid hw
  have HLo := Lib.hid hlow
  obtain ⟨n, hn⟩ : ∃ n, n = rs.length := ⟨_, rfl⟩
  rw [← hn] at h1 hd hl ⊢
  have HN := Lib.hid hn
  have HT : Hid ((rs.take n).foldl fineS [] = fineG rs) := Lib.hid (by rw [hn, List.take_length]; rfl)
  have B0 := Lib.hid (Cmd.below_one w (.map #[] 0))
  have M0 : Hid (MapG kyI (w.alloc (.map #[] 0)) w.heap.size 0 (inU [])) := Lib.hid ((MapG.made w).ext fun x => by unfold inU; rw [if_neg (by simp)])
  clear h hn hw hlow
  have hmm := @run_makeMap Tryz.prog
  go_enter Tryz.func33, Tryz.ntmps33
  go_wp2
  clear hmm
  go_loopw [3, 10] (fun o i wr => ∃ (k : Nat) (qs : List Use), k ≤ n ∧ i = .int .i64 k ∧ Hid (UM w wr o qs ((rs.take k).foldl fineS [])) ∧ Hid (MapG kyI wr w.heap.size k (inU (idsG ((rs.take k).foldl fineS []))))) (fun _ i _ => n - (intOf i).toNat)
  case atStart => exact ⟨0, [], Nat.zero_le _, rfl, Lib.hid (UM.void B0.out), M0⟩
  case round =>
    clear M0
    obtain ⟨k, qs, hk, rfl, HO, HMp⟩ := hrel
    have k0 : (0 : Int) ≤ k := by omega
    by_cases hkn : k < n
    · have kn : (k : Int) < n := by omega
      obtain ⟨B, off, rfl, HC⟩ := hd.resolve_left (by omega)
      have hkx : k < rs.length := by rw [← HN.out]; exact hkn
      obtain ⟨x, y, q, ds, cs, hx⟩ : ∃ x y q ds cs, layG.at rs k = ((x, y), q, ds, cs) := ⟨_, _, _, _, _, rfl⟩
      obtain ⟨p1, k1, p2, k2, hr0, -, -⟩ := rcdAt HC.out hkx hx
      have hr := hr0.on HO.out.uses.below
      have hmem := show ((x, y), q, ds, cs) ∈ rs from (Lay.mem (L := layG)).2 ⟨k, hkx, hx⟩
      have HWf := Lib.hid (HWF.out _ hmem)
      have HLw := Lib.hid (HLo.out _ hmem)
      have HS : Hid ((rs.take (k + 1)).foldl fineS [] = fineS ((rs.take k).foldl fineS []) ((x, y), q, ds, cs)) := Lib.hid (by rw [fold_take (L := layG) hkx, hx])
      have HLn : Hid (qs.length + 1 ≤ 1000000) := Lib.hid (by have h1 := HO.out.uses.len; have h2 := fine_len (rs.take k); rw [List.length_take] at h2; unfold fineG at h2; omega)
      generalize (rs.take k).foldl fineS [] = out at HO HMp HS
      obtain ⟨l1, hl1⟩ : ∃ l, l = ds.length := ⟨_, rfl⟩
      obtain ⟨l2, hl2⟩ : ∃ l, l = cs.length := ⟨_, rfl⟩
      have HB1 := Lib.hid (Cmd.below_one wr (.cells #[.int .i64 x, .int .i64 y, .int .i64 q, .slice p1 ds.length k1, .slice p2 cs.length k2] 42))
      have HX1 := Lib.hid (heap_alloc_new wr (.cells #[.int .i64 x, .int .i64 y, .int .i64 q, .slice p1 ds.length k1, .slice p2 cs.length k2] 42))
      have HRD := Lib.hid (And.intro (hr.rd.on HB1.out) (hr.rc.on HB1.out))
      have CC := Lib.hid (check_r x y q _ _ ds cs _ HRD.out.1 HRD.out.2 HWf.out.batch)
      have CP := Lib.hid (fun X (hb : Below w.heap.size w X) => copy_any x y q _ _ ds cs X (hr0.rd.on hb) (hr0.rc.on hb) (by have := HLw.out.1; show ds.length ≤ 100000; exact Nat.le_trans this (by decide)) (by have := HLw.out.2; show cs.length ≤ 100000; exact Nat.le_trans this (by decide)) HWf.out.batch)
      have HErr : Hid (oneErr ((x, y), q, ds, cs) = rErr x y q ds cs) := Lib.hid rfl
      obtain ⟨d0, d1, d2, d3, d4⟩ := hr.five
      unfold GivesRec at CP
      rw [← hl1] at HB1 HX1 HRD CC CP d3
      rw [← hl2] at HB1 HX1 HRD CC CP d4
      obtain ⟨e0, he0⟩ : ∃ e, e = rErr x y q ds cs := ⟨_, rfl⟩
      rw [← he0] at CC HErr
      have HLs := Lib.hid (And.intro hl1 hl2)
      have HO1 := Lib.hid (HO.out.on HB1.out)
      have HM1 := Lib.hid (HMp.out.on HB1.out)
      obtain ⟨b0, b1, b2, b3, b4⟩ := five_box HX1.out
      clear hr hr0 hx hkx hd hl1 hl2 he0 hmem
      by_cases he : e0 = 0
      · subst he
        by_cases hf : (x, y) ∈ idsG out
        · have HNo : Hid (fineS out ((x, y), q, ds, cs) = out) := Lib.hid (by unfold fineS; rw [if_neg (fun h => h.2 hf)])
          have HLk : Hid (∀ X, Below (wr.heap.size + 1) (wr.alloc (.cells #[.int .i64 x, .int .i64 y, .int .i64 q, .slice p1 l1 k1, .slice p2 l2 k2] 42)) X → (Instr.lookup 94 (.map (some w.heap.size)) (.agg #[.int .i64 x, .int .i64 y]) false).run Tryz.prog X = .ok (.bool true) X) := Lib.hid fun X hb => by
            have := (HM1.out.below hb (by have := HMp.out.lt; omega)).look (t := 94) Tryz.underlying94 (z := .bool false) (fun w => by kernel_rfl) (x := (x, y)) HWf.out.id
            rw [inU_get, decide_eq_true hf] at this; exact this
          clear hf
          go_wp2_with (first
            | (go_at_call 42; ((with_reducible refine CC.out.mono ?_); rintro e w1 ⟨rfl, hb⟩; have hbs := hb; rw [World.size_alloc] at hbs; have hlk := HLk.out _ hbs; have HO2 := Lib.hid (HO1.out.on hb); have HM2 := Lib.hid (HM1.out.on hb); obtain ⟨g0, g1, g2, g3, g4⟩ := five_box ((hb.block _ (by simp)).trans HX1.out); clear hb hbs)))
          go_roundw
          case rel => exact ⟨k + 1, qs, by omega, by go_num, Lib.hid (by rw [HS.out, HNo.out]; exact HO2.out), Lib.hid (by rw [HS.out, HNo.out]; exact HM2.out.mono (by omega))⟩
          case measure => simp [intOf]; omega
        · have HYes : Hid (fineS out ((x, y), q, ds, cs) = out ++ [((x, y), q, ds, cs)]) := Lib.hid (by unfold fineS; rw [if_pos ⟨HErr.out, hf⟩])
          have HRt : Hid (∀ c ∈ cs, right c = true) := Lib.hid (right_all (okR_iff.1 HErr.out).batch).1
          have HLk : Hid (∀ X, Below (wr.heap.size + 1) (wr.alloc (.cells #[.int .i64 x, .int .i64 y, .int .i64 q, .slice p1 l1 k1, .slice p2 l2 k2] 42)) X → (Instr.lookup 94 (.map (some w.heap.size)) (.agg #[.int .i64 x, .int .i64 y]) false).run Tryz.prog X = .ok (.bool false) X) := Lib.hid fun X hb => by
            have := (HM1.out.below hb (by have := HMp.out.lt; omega)).look (t := 94) Tryz.underlying94 (z := .bool false) (fun w => by kernel_rfl) (x := (x, y)) HWf.out.id
            rw [inU_get, decide_eq_false hf] at this; exact this
          clear hf
          go_wp2_with (first
            | (go_at_call 42; ((with_reducible refine CC.out.mono ?_); rintro e w1 ⟨rfl, hb⟩; have hbs := hb; rw [World.size_alloc] at hbs; have hlk := HLk.out _ hbs; have HO2 := Lib.hid (HO1.out.on hb); have HM2 := Lib.hid (HM1.out.on hb); have HX2 := Lib.hid ((hb.block _ (by simp)).trans HX1.out); obtain ⟨g0, g1, g2, g3, g4⟩ := five_box HX2.out; obtain ⟨w2, hst, hm2, ht2⟩ := HM2.out.store (t := 94) Tryz.underlying94 (by omega) (x := (x, y)) HWf.out.id (.bool true); have hst2 : (Instr.mapUpdate 94 (.map (some w.heap.size)) (.agg #[.int .i64 x, .int .i64 y]) (.bool true)).run Tryz.prog w1 = .ok () w2 := hst; have HO3 := Lib.hid (HO2.out.keep (keeps_turn ht2) (HO2.out.uses.below.trans (grown_belowP ht2.grown (Nat.le_refl _) HO2.out.uses.below.size))); have HM3 : Hid (MapG kyI w2 w.heap.size (k + 1) (inU (idsG (out ++ [((x, y), q, ds, cs)])))) := Lib.hid (by rw [idsG_snoc]; exact hm2.ext (inU_snoc _ _)); obtain ⟨h0, h1', h2, h3, h4⟩ := five_box (keeps_turn ht2 _ _ _ HX2.out); have CP2 := Lib.hid (CP.out w2 HO3.out.uses.below); clear hb hbs hst hm2 ht2))
            | (go_at_call 44; ((with_reducible refine CP2.out.mono ?_); rintro E w3 ⟨g, h', rfl, hI⟩; have HO4 := Lib.hid (HO3.out.on hI.below); have HM4 := Lib.hid (HM3.out.on hI.below); have RD3 := Lib.hid (own_ids hI.row (by have := HLw.out.1; exact Nat.le_trans this (by decide))); have HNew := Lib.hid hI.own; have HBt := Lib.hid hI.row'; have CU := Lib.hid (use_any x y q (.slice (some ⟨g, 0, none⟩) ds.length ds.length) (.slice (some ⟨h', 0, none⟩) cs.length cs.length) cs w3 (Rec.rowC hI.row' (by have := HLw.out.2; exact Nat.le_trans this (by decide))) HLw.out.2 HWf.out.batch ⟨_, _, _, rfl⟩); rw [← HLs.out.1] at RD3 CU; rw [← HLs.out.2] at CU; clear hI))
            | (go_at_call 25; ((with_reducible refine CU.out.mono ?_); rintro E w4 ⟨p3, k3, p4, k4, rfl, ho3, ho4, hb⟩; obtain ⟨n3, hn3⟩ : ∃ n, n = (kset (keys cs)).length := ⟨_, rfl⟩; obtain ⟨n4, hn4⟩ : ∃ n, n = (wrS cs).length := ⟨_, rfl⟩; have O3 : Hid (OwnS w4 0 (.slice p3 (kset (keys cs)).length k3) (kset (keys cs))) := Lib.hid (own_mono ho3 (Nat.zero_le _)); have O4 : Hid (OwnS w4 0 (.slice p4 (wrS cs).length k4) (wrS cs)) := Lib.hid (own_mono ho4 (Nat.zero_le _)); rw [← hn3, ← hn4]; rw [← hn3] at O3; rw [← hn4] at O4; have B3 := Lib.hid (Cmd.below_one w4 (.cells #[.int .i64 x, .int .i64 y, .int .i64 q, .slice (some ⟨g, 0, none⟩) l1 l1, .slice (some ⟨h', 0, none⟩) l2 l2, .slice p3 n3 k3, .slice p4 n4 k4] 68)); have HO5 := Lib.hid ((HO4.out.on hb).on B3.out); have HM5 := Lib.hid ((HM4.out.on hb).on B3.out); have HQ : Hid (UseIs (w4.alloc (.cells #[.int .i64 x, .int .i64 y, .int .i64 q, .slice (some ⟨g, 0, none⟩) l1 l1, .slice (some ⟨h', 0, none⟩) l2 l2, .slice p3 n3 k3, .slice p4 n4 k4] 68)) ((x, y), q, (some ⟨g, 0, none⟩, l1, l1), (some ⟨h', 0, none⟩, l2, l2), (p3, n3, k3), (p4, n4, k4)) ((x, y), q, ds, cs)) := Lib.hid ⟨rfl, rfl, (by have := own_below (own_below RD3.out hb) B3.out; rwa [HLs.out.1] at this ⊢), (by have := own_below O3.out B3.out; rwa [hn3] at this ⊢), (by have := own_below O4.out B3.out; rwa [hn4] at this ⊢), HRt.out⟩; have HBI : Hid (BatIs (w4.alloc (.cells #[.int .i64 x, .int .i64 y, .int .i64 q, .slice (some ⟨g, 0, none⟩) l1 l1, .slice (some ⟨h', 0, none⟩) l2 l2, .slice p3 n3 k3, .slice p4 n4 k4] 68)) ((x, y), q, (some ⟨g, 0, none⟩, l1, l1), (some ⟨h', 0, none⟩, l2, l2), (p3, n3, k3), (p4, n4, k4)) ((x, y), q, ds, cs)) := Lib.hid ⟨h', (by rw [HLs.out.2]; rfl), (B3.out.block _ (Nat.lt_of_lt_of_le (Array.getElem?_eq_some_iff.1 HBt.out).1 hb.size)).trans ((hb.block _ (Array.getElem?_eq_some_iff.1 HBt.out).1).trans HBt.out)⟩; have HA := Lib.hid (grow_wd wtUse (w4.alloc (.cells #[.int .i64 x, .int .i64 y, .int .i64 q, .slice (some ⟨g, 0, none⟩) l1 l1, .slice (some ⟨h', 0, none⟩) l2 l2, .slice p3 n3 k3, .slice p4 n4 k4] 68)) 62 w.heap.size u3 qs HO5.out.uses.own HO5.out.uses.below.size w4.heap.size ((x, y), q, (some ⟨g, 0, none⟩, l1, l1), (some ⟨h', 0, none⟩, l2, l2), (p3, n3, k3), (p4, n4, k4)) #[.int .i64 x, .int .i64 y, .int .i64 q, .slice (some ⟨g, 0, none⟩) l1 l1, .slice (some ⟨h', 0, none⟩) l2 l2, .slice p3 n3 k3, .slice p4 n4 k4] rfl (heap_alloc_new w4 _) HLn.out); clear hb hn3 hn4 ho3 ho4))
            | (at_builtin; refine wp_app rfl _ _ 62 rfl _ _ rfl rfl HA.out ?_; intro v8 w8 HV8))
          have HO8 := Lib.hid (HO5.out.snoc HV8.out.1 HV8.out.2.1 HQ.out HBI.out (fun j hj g' h1 h2 => by
            have h3 := (World.ownsRow.lt (HO3.out.uses.is j (by rw [← HO3.out.uses.len]; exact hj)).rd g' h1).2
            have h4 : g = g' := by injection h2
            have h5 := HNew.out
            omega) (fun g' h2 => by
            have h4 : g = g' := by injection h2
            have h5 := HNew.out
            have h6 := HO3.out.uses.below.size
            omega))
          have HM8 := Lib.hid (HM5.out.block (HV8.out.2.1.block _ HM5.out.lt (fun e => own_map HO5.out.uses.own HM5.out e.symm)))
          go_roundw
          case rel => exact ⟨k + 1, _, by omega, by go_num, Lib.hid (by rw [HS.out, HYes.out]; exact HO8.out), Lib.hid (by rw [HS.out, HYes.out]; exact HM8.out)⟩
          case measure => simp [intOf]; omega
      · have q1 : (e0 == (0 : Int)) = false := beq_eq_false_iff_ne.2 he
        have HNo : Hid (fineS out ((x, y), q, ds, cs) = out) := Lib.hid (by unfold fineS; rw [if_neg (fun h => he (HErr.out ▸ h.1))])
        go_wp2_with (first
          | (go_at_call 42; ((with_reducible refine CC.out.mono ?_); rintro e w1 ⟨rfl, hb⟩; have HO2 := Lib.hid (HO1.out.on hb); have HM2 := Lib.hid (HM1.out.on hb); clear hb)))
        go_roundw
        case rel => exact ⟨k + 1, qs, by omega, by go_num, Lib.hid (by rw [HS.out, HNo.out]; exact HO2.out), Lib.hid (by rw [HS.out, HNo.out]; exact HM2.out.mono (by omega))⟩
        case measure => simp [intOf]; omega
    · obtain rfl : k = n := by omega
      have kn : ¬ (k : Int) < k := by omega
      clear hd
      go_wp2_with fail
      go_ret
      exact ⟨_, qs, rfl, by rw [← HT.out]; exact HO.out⟩
end Go.Proofs.YtomidcbpnaajeaaGreat.Pre
