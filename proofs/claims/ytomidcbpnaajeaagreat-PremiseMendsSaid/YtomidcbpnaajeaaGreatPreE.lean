/- Lists of records of a call's own whose Deps and batches lie elsewhere; which records stay (layer 20, premise): the document's Fine. Conditions: the records lie in memory as their cells say; texts of a length that Go reads; not more than 100000 records. -/
import Derived.Test.YtomidcbpnaajeaaGreatPreC
import Derived.Test.YtomidcbpnaajeaaGreatPreD
import Derived.Test.YtomidcbpnaajeaaGreatApp
import Derived.Deep.DeepCutAuto
import Derived.Deep.QuietTactic
namespace Go.Proofs.YtomidcbpnaajeaaGreat.Pre
open Go.RowKit Cmd Bat Ids Rec Wid Gra Cps
set_option linter.unusedVariables false
set_option linter.unusedSimpArgs false

theorem rowat_farP {w w' : World} {v : Value} {zs : List Idn} {row : Option Nat} (h : RowAt w v zs) (hg : w.grownBy w' row) (hn : zs ≠ [] → ∀ b, v.ownBlock = some b → row ≠ some b) : RowAt w' v zs := by
  obtain ⟨p, cap, rfl, h1, h2, h0, h3⟩ := h
  refine ⟨p, cap, rfl, h1, h2, h0, fun hz => ?_⟩
  obtain ⟨B, off, rfl, hlt, hc⟩ := h3 hz
  have e : w'.heap[B]? = w.heap[B]? := hg.block B hlt (fun e => hn hz B rfl e.symm)
  exact ⟨B, off, rfl, Nat.lt_of_lt_of_le hlt hg.size, fun j hj => ⟨(World.cell?_of_block (w := w) (a := ⟨B, off + j * 2, none⟩) e).trans (hc j hj).1, (World.cell?_of_block (w := w) (a := ⟨B, off + j * 2 + 1, none⟩) e).trans (hc j hj).2⟩⟩
theorem rowat_low {w : World} {v : Value} {zs : List Idn} (h : RowAt w v zs) (hz : zs ≠ []) {g : Nat} (hg : v.ownBlock = some g) : g < w.heap.size := by
  obtain ⟨p, cap, rfl, h1, h2, h0, h3⟩ := h
  obtain ⟨B, off, rfl, hlt, hc⟩ := h3 hz
  injection hg with hg
  rw [← hg]; exact hlt
/-- A raw record reads as a record; its Deps lie in another block than the row's own. -/
structure RawIs (W0 W : World) (nb : Option Nat) (q : Raw) (x : Rcd) : Prop where
  id : q.1 = x.1
  seq : q.2.1 = x.2.1
  rd : RowAt W (sliceOf q.2.2.1) x.2.2.1
  fd : x.2.2.1 ≠ [] → ∀ g, (sliceOf q.2.2.1).ownBlock = some g → nb ≠ some g
  rc : layC.Row W0 (sliceOf q.2.2.2) x.2.2.2
section
variable {W0 W X : World} {nb nb' : Option Nat} {q : Raw} {x : Rcd} {v v' : Value} {qs : List Raw} {out : List Rcd}
theorem RawIs.on (h : RawIs W0 W nb q x) (hb : Below W.heap.size W X) : RawIs W0 X nb q x := ⟨h.id, h.seq, h.rd.on hb, h.fd, h.rc⟩
theorem RawIs.grow (h : RawIs W0 W nb q x) (hg : W.grownBy X nb) (hn : nb' = nb ∨ nb' = some W.heap.size) : RawIs W0 X nb' q x := by
  refine ⟨h.id, h.seq, rowat_farP h.rd hg h.fd, fun hz g e => ?_, h.rc⟩
  rcases hn with rfl | rfl
  · exact h.fd hz g e
  · have := rowat_low h.rd hz e
    intro e2; injection e2 with e2; omega
structure RawsS (W0 W : World) (v : Value) (qs : List Raw) (out : List Rcd) : Prop where
  below : Below W0.heap.size W0 W
  own : wdRaw.Own 42 W W0.heap.size v qs
  len : qs.length = out.length
  is : ∀ j, j < out.length → RawIs W0 W v.ownBlock (layRaw.at qs j) (layG.at out j)
theorem RawsS.on (h : RawsS W0 W v qs out) (hb : Below W.heap.size W X) : RawsS W0 X v qs out := ⟨h.below.trans (hb.mono h.below.size), h.own.below hb, h.len, fun j hj => (h.is j hj).on hb⟩
theorem RawsS.void (hb : Below W0.heap.size W0 W) : RawsS W0 (W.alloc (.cells #[] 42)) (.slice (some ⟨W.heap.size, 0, none⟩) 0 0) [] [] :=
  ⟨hb.trans ((Cmd.below_one W _).mono hb.size), Wd.Own.made _ W hb.size, rfl, fun j hj => absurd hj (Nat.not_lt_zero _)⟩
theorem at_snocL {α : Type} (L : Lay α) (zs : List α) (x : α) (j : Nat) : L.at (zs ++ [x]) j = if j = zs.length then x else L.at zs j := by
  unfold Lay.at
  rw [List.getD_eq_getElem?_getD, List.getD_eq_getElem?_getD]
  by_cases h : j < zs.length
  · rw [List.getElem?_append_left h, if_neg (by omega)]
  · rw [List.getElem?_append_right (by omega)]
    by_cases e : j = zs.length
    · rw [if_pos e, e, Nat.sub_self]; rfl
    · rw [if_neg e, List.getElem?_eq_none (by simp; omega), List.getElem?_eq_none (by omega)]
theorem RawsS.snoc (h : RawsS W0 W v qs out) (ho : wdRaw.Own 42 X W0.heap.size v' (qs ++ [q])) (hg : W.grownBy X v.ownBlock) (hn : v'.ownBlock = v.ownBlock ∨ v'.ownBlock = some W.heap.size) (hq : RawIs W0 W v.ownBlock q x) : RawsS W0 X v' (qs ++ [q]) (out ++ [x]) := by
  refine ⟨Below.grown h.below hg h.below.size (fun k hk => (World.ownsRow.lt h.own k hk).1), ho, by rw [List.length_append, List.length_append, h.len]; rfl, fun j hj => ?_⟩
  rw [at_snocL, at_snocL, h.len]
  by_cases e : j = out.length
  · rw [if_pos e, if_pos e]; exact hq.grow hg hn
  · rw [if_neg e, if_neg e]
    rw [List.length_append, List.length_singleton] at hj
    exact (h.is j (by omega)).grow hg hn
theorem raw_lies {b o : Nat} (hb : Below W0.heap.size W0 W) (h : layRaw.lies W b o q) (hq : RawIs W0 W nb q x) : layG.lies W b o x := by
  obtain ⟨h0, h1, h2, h3, h4⟩ := h
  exact ⟨by rw [← hq.id]; exact h0, by rw [← hq.id]; exact h1, by rw [← hq.seq]; exact h2, ⟨_, h3, hq.rd⟩, _, h4, hq.rc.on hb⟩
theorem RawsS.row (h : RawsS W0 W v qs out) : layG.Row W v out := by
  obtain ⟨p, cap, rfl, h1, h2, h3⟩ := Wd.Own.row h.own
  refine ⟨p, cap, by rw [h.len], by rw [← h.len]; exact h1, h2, fun hz => ?_⟩
  obtain ⟨b, off, rfl, hi⟩ := h3 (fun e => hz (List.eq_nil_of_length_eq_zero (by rw [← h.len, e]; rfl)))
  exact ⟨b, off, rfl, hi.lt, fun j hj => raw_lies h.below (hi.cell j (by rw [h.len]; exact hj)) (h.is j hj)⟩
end
def GivesRecs (rs : List Rcd) (w : World) (e : Ending) (w' : World) : Prop := ∃ v, e = .returned v ∧ layG.Row w' v rs ∧ Below w.heap.size w w'
theorem fold_take {α β : Type} {f : β → α → β} {b : β} {L : Lay α} {zs : List α} {k : Nat} (h : k < zs.length) : (zs.take (k + 1)).foldl f b = f ((zs.take k).foldl f b) (L.at zs k) := by
  rw [L.take h, List.foldl_append]; rfl
/-- Records that stay: a list of the call's own, whose Deps and batches lie in an elder world. -/
structure FineS (w0 w W : World) (v : Value) (qs : List Raw) (out : List Rcd) : Prop where
  raws : RawsS w W v qs out
  low : ∀ j, j < out.length → RowAt w0 (sliceOf (layRaw.at qs j).2.2.1) (layG.at out j).2.2.1 ∧ layC.Row w0 (sliceOf (layRaw.at qs j).2.2.2) (layG.at out j).2.2.2
theorem FineS.on {w0 w W X : World} {v : Value} {qs : List Raw} {out : List Rcd} (h : FineS w0 w W v qs out) (hb : Below W.heap.size W X) : FineS w0 w X v qs out := ⟨h.raws.on hb, h.low⟩
theorem FineS.snoc {w0 w W X : World} {v v' : Value} {qs : List Raw} {out : List Rcd} {q : Raw} {x : Rcd} (h : FineS w0 w W v qs out) (hr : RawsS w X v' (qs ++ [q]) (out ++ [x])) (hl : RowAt w0 (sliceOf q.2.2.1) x.2.2.1 ∧ layC.Row w0 (sliceOf q.2.2.2) x.2.2.2) : FineS w0 w X v' (qs ++ [q]) (out ++ [x]) := by
  refine ⟨hr, fun j hj => ?_⟩
  rw [at_snocL, at_snocL, h.raws.len]
  by_cases e : j = out.length
  · rw [if_pos e, if_pos e]; exact hl
  · rw [if_neg e, if_neg e]
    rw [List.length_append, List.length_singleton] at hj
    exact h.low j (by omega)
def GivesFine (rs : List Rcd) (w0 w : World) (e : Ending) (w' : World) : Prop := ∃ v qs, e = .returned v ∧ FineS w0 w w' v qs (fineG rs)
set_option maxRecDepth 100000 in
set_option maxHeartbeats 8000000 in
theorem reffine_any (v : Value) (rs : List Rcd) (w0 w : World) (h : layG.Row w0 v rs) (hb0 : Below w0.heap.size w0 w) (hl : rs.length ≤ 100000) (hw : ∀ r ∈ rs, wfG r) : Calls Tryz.prog 35 #[v] w (GivesFine rs w0 w) := by
  obtain ⟨p, cap, rfl, h1, hd⟩ := h.parts
  have HWF := Lib.hid hw
  have HB0 := Lib.hid hb0
  obtain ⟨n, hn⟩ : ∃ n, n = rs.length := ⟨_, rfl⟩
  rw [← hn] at h1 hd hl ⊢
  have HN := Lib.hid hn
  have HT : Hid ((rs.take n).foldl fineS [] = fineG rs) := Lib.hid (by rw [hn, List.take_length]; rfl)
  have R0 : Hid (FineS w0 w (w.alloc (.cells #[] 42)) (.slice (some ⟨w.heap.size, 0, none⟩) 0 0) [] []) := Lib.hid ⟨RawsS.void (Below.refl _ _), fun j hj => absurd hj (Nat.not_lt_zero _)⟩
  clear h hn hw hb0
  go_enter Tryz.func35, Tryz.ntmps35
  go_wp2_with fail
  go_loopw [3, 4] (fun o i wr => ∃ (k : Nat) (qs : List Raw), k ≤ n ∧ i = .int .i64 k ∧ Hid (FineS w0 w wr o qs ((rs.take k).foldl fineS []))) (fun _ i _ => n - (intOf i).toNat)
  case atStart => exact ⟨0, [], Nat.zero_le _, rfl, R0⟩
  case round =>
    obtain ⟨k, qs, hk, rfl, HO⟩ := hrel
    have k0 : (0 : Int) ≤ k := by omega
    by_cases hkn : k < n
    · have kn : (k : Int) < n := by omega
      obtain ⟨B, off, rfl, HC⟩ := hd.resolve_left (by omega)
      have hkx : k < rs.length := by rw [← HN.out]; exact hkn
      obtain ⟨x, y, q, ds, cs, hx⟩ : ∃ x y q ds cs, layG.at rs k = ((x, y), q, ds, cs) := ⟨_, _, _, _, _, rfl⟩
      obtain ⟨p1, k1, p2, k2, hr, hl1, hl2⟩ := rcdAt HC.out hkx hx
      have hwf := HWF.out _ (show ((x, y), q, ds, cs) ∈ rs from (Lay.mem (L := layG)).2 ⟨k, hkx, hx⟩)
      have HS : Hid ((rs.take (k + 1)).foldl fineS [] = fineS ((rs.take k).foldl fineS []) ((x, y), q, ds, cs)) := Lib.hid (by rw [fold_take (L := layG) hkx, hx])
      have HRaw : Hid (∀ nb, (∀ g, nb = some g → w.heap.size ≤ g) → RawIs w wr nb ((x, y), q, (p1, ds.length, k1), (p2, cs.length, k2)) ((x, y), q, ds, cs)) := Lib.hid fun nb hnb => ⟨rfl, rfl, hr.rd.on (HB0.out.trans (HO.out.raws.below.mono HB0.out.size)), fun hz g e => (fun e2 => by
        have h1 := rowat_low hr.rd hz e
        have h2 := hnb g e2
        have h3 := HB0.out.size
        omega), hr.rc.on HB0.out⟩
      have HLow : Hid (RowAt w0 (.slice p1 ds.length k1) ds ∧ layC.Row w0 (.slice p2 cs.length k2) cs) := Lib.hid ⟨hr.rd, hr.rc⟩
      have CC := Lib.hid (fun W (hb : Below w.heap.size w W) => refcheck_r x y q _ _ ds cs W (hr.rd.on (HB0.out.trans (hb.mono HB0.out.size))) (hr.rc.on (HB0.out.trans (hb.mono HB0.out.size))) hwf.batch)
      have CF := Lib.hid (fun W (hb : Below wr.heap.size wr W) => find_any u3 ((rs.take k).foldl fineS []) x y W (HO.out.raws.row.on hb))
      have HR := Lib.hid (fun W (hb : Below w.heap.size w W) => (hr.on (HB0.out.trans (hb.mono HB0.out.size))).five)
      obtain ⟨l1, hl1⟩ : ∃ l, l = ds.length := ⟨_, rfl⟩
      obtain ⟨l2, hl2⟩ : ∃ l, l = cs.length := ⟨_, rfl⟩
      rw [← hl1] at HRaw CC HR HLow
      rw [← hl2] at HRaw CC HR HLow
      have hx' : oneErr ((x, y), q, ds, cs) = rErr x y q ds cs := rfl
      obtain ⟨e0, he0⟩ : ∃ e, e = rErr x y q ds cs := ⟨_, rfl⟩
      rw [← he0] at CC hx'
      have HX := Lib.hid hx'
      have CC0 := Lib.hid (CC.out wr HO.out.raws.below)
      have HLn : Hid (qs.length + 1 ≤ 1000000) := Lib.hid (by have h1 := HO.out.raws.len; have h2 := fine_len (rs.take k); rw [List.length_take] at h2; unfold fineG at h2; omega)
      clear hr hx hkx hd hl1 hl2 hwf hx' he0 CC
      obtain ⟨d0, d1, d2, d3, d4⟩ := HR.out wr HO.out.raws.below
      by_cases he : e0 = 0
      · subst he
        obtain ⟨fi, hfi⟩ : ∃ fi, fi = findG ((rs.take k).foldl fineS []) (x, y) := ⟨_, rfl⟩
        have HFI := Lib.hid hfi
        rw [← hfi] at CF
        clear hfi
        by_cases hf : fi < 0
        · have HN2 : Hid ((x, y) ∉ idsG ((rs.take k).foldl fineS [])) := Lib.hid (by
            have h1 := find_lt ((rs.take k).foldl fineS []) (x, y)
            rw [← HFI.out, decide_eq_true hf] at h1
            intro hm; rw [decide_eq_true hm] at h1; cases h1)
          go_wp2_with (first
            | (go_at_call 20; ((with_reducible refine CC0.out.mono ?_); rintro e w1 ⟨rfl, hb⟩; have B1 := Lib.hid hb; have CF1 := Lib.hid (CF.out w1 hb); have HO1 := Lib.hid (HO.out.on hb); obtain ⟨g0, g1, g2, g3, g4⟩ := HR.out w1 HO1.out.raws.below; clear hb))
            | (go_at_call 11; ((with_reducible refine CF1.out.mono ?_); rintro e w2 ⟨rfl, hb⟩; have HB2 := Lib.hid hb; have HO2 := Lib.hid (HO1.out.on hb); obtain ⟨h0, h1', h2, h3, h4⟩ := HR.out w2 HO2.out.raws.below; have HB3 := Lib.hid (Cmd.below_one w2 (.cells #[.int .i64 x, .int .i64 y, .int .i64 q, .slice p1 l1 k1, .slice p2 l2 k2] 42)); have HO3 := Lib.hid (HO2.out.on HB3.out); have HA := Lib.hid (grow_wd wtRaw (w2.alloc (.cells #[.int .i64 x, .int .i64 y, .int .i64 q, .slice p1 l1 k1, .slice p2 l2 k2] 42)) 22 w.heap.size u3 qs HO3.out.raws.own HO3.out.raws.below.size w2.heap.size ((x, y), q, (p1, l1, k1), (p2, l2, k2)) #[.int .i64 x, .int .i64 y, .int .i64 q, .slice p1 l1 k1, .slice p2 l2 k2] rfl (heap_alloc_new w2 _) HLn.out); clear hb))
            | (at_builtin; refine wp_app rfl _ _ 22 rfl _ _ rfl rfl HA.out ?_; intro v8 w8 HV8))
          have HO8 := Lib.hid (HO3.out.snoc (HO3.out.raws.snoc HV8.out.1 HV8.out.2.1 HV8.out.2.2 (((HRaw.out _ (fun g hg => (World.ownsRow.lt HO.out.raws.own g hg).1)).on B1.out).on (HB2.out.trans (HB3.out.mono HB2.out.size)))) HLow.out)
          go_roundw
          case rel => exact ⟨k + 1, _, by omega, by go_num, Lib.hid (by rw [HS.out]; unfold fineS; rw [if_pos ⟨HX.out, HN2.out⟩]; exact HO8.out)⟩
          case measure => simp [intOf]; omega
        · have HN2 : Hid ((x, y) ∈ idsG ((rs.take k).foldl fineS [])) := Lib.hid (by
            have h1 := find_lt ((rs.take k).foldl fineS []) (x, y)
            rw [← HFI.out, decide_eq_false hf] at h1
            exact Classical.byContradiction fun hm => by rw [decide_eq_false hm] at h1; cases h1)
          go_wp2_with (first
            | (go_at_call 20; ((with_reducible refine CC0.out.mono ?_); rintro e w1 ⟨rfl, hb⟩; have B1 := Lib.hid hb; have CF1 := Lib.hid (CF.out w1 hb); have HO1 := Lib.hid (HO.out.on hb); obtain ⟨g0, g1, g2, g3, g4⟩ := HR.out w1 HO1.out.raws.below; clear hb))
            | (go_at_call 11; ((with_reducible refine CF1.out.mono ?_); rintro e w2 ⟨rfl, hb⟩; have HO2 := Lib.hid (HO1.out.on hb); clear hb)))
          go_roundw
          case rel => exact ⟨k + 1, _, by omega, by go_num, Lib.hid (by rw [HS.out]; unfold fineS; rw [if_neg (fun h => h.2 HN2.out)]; exact HO2.out)⟩
          case measure => simp [intOf]; omega
      · have q1 : (e0 == (0 : Int)) = false := beq_eq_false_iff_ne.2 he
        go_wp2_with (first
          | (go_at_call 20; ((with_reducible refine CC0.out.mono ?_); rintro e w1 ⟨rfl, hb⟩; have HO1 := Lib.hid (HO.out.on hb); clear hb)))
        go_roundw
        case rel => exact ⟨k + 1, _, by omega, by go_num, Lib.hid (by rw [HS.out]; unfold fineS; rw [if_neg (fun h => he (HX.out ▸ h.1))]; exact HO1.out)⟩
        case measure => simp [intOf]; omega
    · obtain rfl : k = n := by omega
      have kn : ¬ (k : Int) < k := by omega
      clear hd
      go_wp2_with fail
      go_ret
      exact ⟨_, qs, rfl, by rw [← HT.out]; exact HO.out⟩
end Go.Proofs.YtomidcbpnaajeaaGreat.Pre
