/- The first two that lack an edge (layer 20, premise): the document's Holds. Conditions: the records lie in memory as their cells say; texts of a length that Go reads; not more than 100000 records. -/
import Derived.Test.YtomidcbpnaajeaaGreatPreB
import Derived.Deep.DeepCutAuto
import Derived.Deep.QuietTactic
namespace Go.Proofs.YtomidcbpnaajeaaGreat.Pre
open Go.RowKit Cmd Bat Ids Rec Wid Gra
set_option linter.unusedVariables false
set_option linter.unusedSimpArgs false

/-! ### One more id, telling where the list lies -/
def GivesPut (zs : List Idn) (v : Value) (w : World) (e : Ending) (w' : World) : Prop := ∃ u, e = .returned u ∧ RowAt w' u zs ∧ Below w.heap.size w w' ∧ (u = v ∨ ∀ g, u.ownBlock = some g → w.heap.size ≤ g)
theorem putW_any (v : Value) (zs : List Idn) (a b : Int) (w : World) (h : RowAt w v zs) (hl : zs.length ≤ 100000) : Calls Tryz.prog 36 #[v, .agg #[.int .i64 a, .int .i64 b]] w (GivesPut (put zs (a, b)) v w) := by
  have HH : Hid (∀ W, Below w.heap.size w W → Calls Tryz.prog 30 #[v, .agg #[.int .i64 a, .int .i64 b]] W fun e w' => e = .returned (.bool (decide ((a, b) ∈ zs))) ∧ Below W.heap.size W w') := Lib.hid fun W hW => refhas_any v zs a b W (h.on hW)
  have H0 := Lib.hid h
  by_cases hm : (a, b) ∈ zs
  · have hp : put zs (a, b) = zs := by unfold put; rw [if_pos hm]
    rw [hp]
    rw [decide_eq_true hm] at HH
    clear hp hm h hl
    go_enter Tryz.func36, Tryz.ntmps36
    go_wp2_with (first
      | (go_at_call 30; ((with_reducible refine (HH.out _ (Ids.below_one _ _)).mono ?_); rintro e w1 ⟨rfl, hb⟩; have HB := Lib.hid hb; clear hb)))
    go_ret
    have hb : Below w.heap.size w w1 := (Ids.below_one _ _).trans (HB.out.mono (by simp))
    exact ⟨_, rfl, H0.out.on hb, hb, .inl rfl⟩
  · exact (put_new v zs a b w h hl hm).mono fun e w' ⟨u, he, hr, hb, hn⟩ => ⟨u, he, hr, hb, .inr hn⟩
def GivesFar (zs : List Idn) (w : World) (e : Ending) (w' : World) : Prop := ∃ v, e = .returned v ∧ RowAt w' v zs ∧ Below w.heap.size w w' ∧ ∀ g, v.ownBlock = some g → w.heap.size ≤ g
set_option maxHeartbeats 4000000 in
set_option maxRecDepth 100000 in
theorem refidsF_any (v : Value) (rs : List Rcd) (w : World) (h : layG.Row w v rs) (hl : rs.length ≤ 100000) : Calls Tryz.prog 27 #[v] w (GivesFar (gIds rs) w) := by
  obtain ⟨p, cap, rfl, h1, hd⟩ := h.parts
  obtain ⟨n, hn⟩ : ∃ n, n = rs.length := ⟨_, rfl⟩
  rw [← hn] at h1 hd hl ⊢
  have HN := Lib.hid hn
  have HT : Hid (srt (idsG (rs.take n)) = gIds rs) := Lib.hid (by rw [hn, List.take_length]; rfl)
  have B0 := Lib.hid (Cmd.below_one w (.cells #[] 32))
  have R0 : Hid (RowAt (w.alloc (.cells #[] 32)) (.slice (some ⟨w.heap.size, 0, none⟩) 0 0) [] ∧ ∀ g, (Value.slice (some ⟨w.heap.size, 0, none⟩) 0 0).ownBlock = some g → w.heap.size ≤ g) := Lib.hid ⟨row_void w, fun g hg => by injection hg with hg; exact Nat.le_of_eq hg⟩
  clear h hn
  go_enter Tryz.func27, Tryz.ntmps27
  go_wp2_with fail
  go_loopw [3, 4] (fun o i wr => ∃ k : Nat, k ≤ n ∧ i = .int .i64 k ∧ Hid (Below w.heap.size w wr) ∧ Hid (RowAt wr o (srt (idsG (rs.take k))) ∧ ∀ g, o.ownBlock = some g → w.heap.size ≤ g)) (fun _ i _ => n - (intOf i).toNat)
  case atStart => exact ⟨0, Nat.zero_le _, rfl, B0, R0⟩
  case round =>
    obtain ⟨k, hk, rfl, hbw, hrow⟩ := hrel
    have k0 : (0 : Int) ≤ k := by omega
    by_cases hkn : k < n
    · have kn : (k : Int) < n := by omega
      obtain ⟨B, off, rfl, HC⟩ := hd.resolve_left (by omega)
      have hkx : k < rs.length := by rw [← HN.out]; exact hkn
      obtain ⟨x, y, q, ds, cs, hx⟩ : ∃ x y q ds cs, layG.at rs k = ((x, y), q, ds, cs) := ⟨_, _, _, _, _, rfl⟩
      obtain ⟨p1, k1, p2, k2, hr, -, -⟩ := rcdAt (HC.out.on hbw.out) hkx hx
      have c0 := hr.c0
      have c1 := hr.c1
      have HS : Hid (srt (idsG (rs.take (k + 1))) = put (srt (idsG (rs.take k))) (x, y)) := Lib.hid (by rw [layG.take hkx, idsG_snoc, srt_snoc, hx])
      have HP := Lib.hid (putW_any u3 (srt (idsG (rs.take k))) x y wr hrow.out.1 (by have := srt_length (idsG (rs.take k)); rw [idsG_len, List.length_take] at this; omega))
      clear hr hx hkx hd
      go_wp2_with (first
        | (go_at_call 36; ((with_reducible refine HP.out.mono ?_); rintro e w1 ⟨u, rfl, hru, hb, hnw⟩; have HU := Lib.hid hru; have HB := Lib.hid hb; have HW := Lib.hid hnw; clear hru hb hnw)))
      go_roundw
      case rel => exact ⟨k + 1, by omega, by go_num, Lib.hid (hbw.out.trans (HB.out.mono hbw.out.size)), Lib.hid (by rw [HS.out]; exact ⟨HU.out, HW.out.elim (fun e => e ▸ hrow.out.2) (fun h g hg => Nat.le_trans hbw.out.size (h g hg))⟩)⟩
      case measure => simp [intOf]; omega
    · obtain rfl : k = n := by omega
      have kn : ¬ (k : Int) < k := by omega
      clear hd
      go_wp2_with fail
      go_ret
      exact ⟨_, rfl, by rw [← HT.out]; exact hrow.out.1, hbw.out, hrow.out.2⟩

/-- A box of two numbers is written. -/
theorem box_put {W : World} {g : Nat} {x y : Int} (h : W.heap[g]? = some (.cells #[.int .i64 x, .int .i64 y] 32 (0, 0))) (x' y' : Int) :
    ((W.setCell ⟨g, 0, none⟩ (.int .i64 x')).setCell ⟨g, 1, none⟩ (.int .i64 y')).heap[g]? = some (.cells #[.int .i64 x', .int .i64 y'] 32 (0, 0)) ∧ W.grownBy ((W.setCell ⟨g, 0, none⟩ (.int .i64 x')).setCell ⟨g, 1, none⟩ (.int .i64 y')) (some g) := by
  have h1 := heap_setCell_same W g 0 _ _ (.int .i64 x') h
  have h2 := heap_setCell_same (W.setCell ⟨g, 0, none⟩ (.int .i64 x')) g 1 _ _ (.int .i64 y') h1
  refine ⟨h2, rfl, rfl, rfl, by simp, fun k hk hne => ?_⟩
  rw [heap_setCell_other _ ⟨g, 1, none⟩ k _ (fun e => hne (by simp [e])), heap_setCell_other _ ⟨g, 0, none⟩ k _ (fun e => hne (by simp [e]))]
theorem grown_belowP {w w' : World} {r B : Nat} (h : w.grownBy w' (some r)) (h1 : B ≤ r) (h2 : B ≤ w.heap.size) : Below B w w' := ⟨h.os, h.tape, h.output, h.size, fun k hk => h.block k (by omega) (fun e => by injection e with e; omega)⟩
/-- Both boxes of a call's own are written. -/
theorem boxes_put {w W : World} {x y x' y' : Int} (hb : Below w.heap.size w W) (h1 : W.heap[w.heap.size]? = some (.cells #[.int .i64 x, .int .i64 y] 32 (0, 0))) (h2 : W.heap[w.heap.size + 1]? = some (.cells #[.int .i64 x', .int .i64 y'] 32 (0, 0))) (a b a' b' : Int) :
    ∃ W', W' = ((((W.setCell ⟨w.heap.size, 0, none⟩ (.int .i64 a)).setCell ⟨w.heap.size, 1, none⟩ (.int .i64 b)).setCell ⟨w.heap.size + 1, 0, none⟩ (.int .i64 a')).setCell ⟨w.heap.size + 1, 1, none⟩ (.int .i64 b')) ∧ Below w.heap.size w W' ∧ W'.heap[w.heap.size]? = some (.cells #[.int .i64 a, .int .i64 b] 32 (0, 0)) ∧ W'.heap[w.heap.size + 1]? = some (.cells #[.int .i64 a', .int .i64 b'] 32 (0, 0)) := by
  obtain ⟨p1, p2⟩ := box_put h1 a b
  have q := (p2.block (w.heap.size + 1) (Array.getElem?_eq_some_iff.1 h2).1 (fun e => by injection e with e; omega)).trans h2
  obtain ⟨r1, r2⟩ := box_put q a' b'
  refine ⟨_, rfl, ?_, ?_, r1⟩
  · have c1 := grown_belowP (B := w.heap.size) p2 (Nat.le_refl _) hb.size
    exact (hb.trans c1).trans (grown_belowP (B := w.heap.size) r2 (by omega) (Nat.le_trans hb.size p2.size))
  · exact (r2.block w.heap.size (Array.getElem?_eq_some_iff.1 p1).1 (fun e => by injection e with e; omega)).trans p1
theorem results_cct {fn : Func} {p q u : Tmp} {ty ty' : TypeId} (h : fn.results = #[.cell p ty, .cell q ty', .tmp u]) (tmps : Array Value) (P : Program) (w : World) :
    (results fn tmps).run P w =
      ((asAddr (tmps.getD p undef)).run P w).andThen fun a w₁ => ((loadVar ty a).run P w₁).andThen fun v w₂ => ((asAddr (tmps.getD q undef)).run P w₂).andThen fun a' w₃ => ((loadVar ty' a').run P w₃).andThen fun v' w₄ => .ok (.tuple #[v, v', tmps.getD u undef]) w₄ := by
  simp only [results, h]
  simp [Sem.run_bind, Result.andThen]
theorem ret_ids {fn : Func} {p q u : Tmp} (h : fn.results = #[.cell p 32, .cell q 32, .tmp u]) (tmps : Array Value) {W : World} {g g' : Nat} {a b a' b' : Int} {r : Value} (hp : tmps.getD p undef = .pointer (some ⟨g, 0, none⟩)) (hq : tmps.getD q undef = .pointer (some ⟨g', 0, none⟩)) (hu : tmps.getD u undef = r)
    (h1 : W.heap[g]? = some (.cells #[.int .i64 a, .int .i64 b] 32 (0, 0))) (h2 : W.heap[g']? = some (.cells #[.int .i64 a', .int .i64 b'] 32 (0, 0))) :
    (results fn tmps).run Tryz.prog W = .ok (.tuple #[.agg #[.int .i64 a, .int .i64 b], .agg #[.int .i64 a', .int .i64 b'], r]) W := by
  have c0 := cell_row (i := 0) h1 rfl
  have c1 := cell_row (i := 1) h1 rfl
  have d0 := cell_row (i := 0) h2 rfl
  have d1 := cell_row (i := 1) h2 rfl
  rw [results_cct h, hp, hq, hu]
  go_simp
theorem nth_memP {l : List Idn} {k : Nat} (h : k < l.length) : nth l k ∈ l := by unfold nth; rw [List.getD_eq_getElem?_getD, List.getElem?_eq_getElem h]; exact List.getElem_mem h
def GivesHolds (rs : List Rcd) (w : World) : Ending → World → Prop := fun e w' => ∃ (a b a' b' : Int) (ok : Bool), e = .returned (.tuple #[.agg #[.int .i64 a, .int .i64 b], .agg #[.int .i64 a', .int .i64 b'], .bool ok]) ∧ Hlds rs (a, b) (a', b') ok ∧ Below w.heap.size w w'
set_option maxRecDepth 100000 in
set_option maxHeartbeats 16000000 in
theorem refholds_any (v : Value) (rs : List Rcd) (w : World) (h : layG.Row w v rs) (hl : rs.length ≤ 100000) (hw : ∀ r ∈ rs, wfG r) : Calls Tryz.prog 10 #[v] w (GivesHolds rs w) := by
  obtain ⟨p, cap, rfl, h1, hd⟩ := h.parts
  have HRW := Lib.hid h
  have HWF := Lib.hid hw
  obtain ⟨n, hn⟩ : ∃ n, n = rs.length := ⟨_, rfl⟩
  rw [← hn] at h1 hd HRW hl ⊢
  have HN := Lib.hid hn
  have hbA := Cmd.below_one w (.cells #[.int .i64 0, .int .i64 0] 32)
  have hbB := Cmd.below_one (w.alloc (.cells #[.int .i64 0, .int .i64 0] 32)) (.cells #[.int .i64 0, .int .i64 0] 32)
  have HB0 := Lib.hid (hbA.trans (hbB.mono hbA.size))
  have HZ0 := Lib.hid (And.intro ((hbB.block w.heap.size (by simp)).trans (heap_alloc_new w (.cells #[.int .i64 0, .int .i64 0] 32))) (by have := heap_alloc_new (w.alloc (.cells #[.int .i64 0, .int .i64 0] 32)) (.cells #[.int .i64 0, .int .i64 0] 32); rwa [show (w.alloc (.cells #[.int .i64 0, .int .i64 0] 32)).heap.size = w.heap.size + 1 by simp] at this))
  have HI := Lib.hid (fun W (hb : Below w.heap.size w W) => refidsF_any (.slice p n cap) rs W (HRW.out.on hb) (by rw [← HN.out]; exact hl))
  have HI0 := Lib.hid (HI.out _ HB0.out)
  clear h hn hw hbA hbB
  go_enter Tryz.func10, Tryz.ntmps10
  go_wp2_with (first
    | (go_at_call 27; ((with_reducible refine HI0.out.mono ?_); rintro E w1 ⟨u, rfl, hr, hb, hfr⟩; have R1 := Lib.hid hr; have F1 := Lib.hid hfr; have B1 := Lib.hid (HB0.out.trans (hb.mono HB0.out.size)); have Z1 := Lib.hid (And.intro ((hb.block _ (Array.getElem?_eq_some_iff.1 HZ0.out.1).1).trans HZ0.out.1) ((hb.block _ (Array.getElem?_eq_some_iff.1 HZ0.out.2).1).trans HZ0.out.2)); clear hr hb hfr)))
  obtain ⟨po, co, rfl, hlo, hdo⟩ := Rec.RowAt.parts R1.out
  obtain ⟨m, hm⟩ : ∃ m, m = (gIds rs).length := ⟨_, rfl⟩
  have HM := Lib.hid hm
  have hmn : Hid (m ≤ n) := Lib.hid (by rw [hm, HN.out]; have := srt_length (idsG rs); rw [idsG_len] at this; exact this)
  have hmn2 : m ≤ 100000 := by have := hmn.out; omega
  rw [← hm] at hlo hdo ⊢
  clear hm HI HI0 HZ0 HB0
  go_loopw [6] (fun i wr => ∃ k : Nat, k ≤ m ∧ i = .int .i64 k ∧ Hid (Below w1.heap.size w1 wr) ∧ Hid (Nolack rs k 0)) (fun i _ => m - (intOf i).toNat)
  case atStart => exact ⟨0, Nat.zero_le _, rfl, Lib.hid (Below.refl _ _), Lib.hid (Nolack.zero rs)⟩
  case round =>
    obtain ⟨k, hk, rfl, hbW, hS⟩ := hrel
    have k0 : (0 : Int) ≤ k := by omega
    by_cases hkm : k < m
    · have km : (k : Int) < m := by omega
      go_wp2
      go_loopw [7] (fun i wr => ∃ t : Nat, t ≤ m ∧ i = .int .i64 t ∧ Hid (k < t ∧ Nolack rs k t) ∧ Hid (Below w1.heap.size w1 wr)) (fun i _ => m - (intOf i).toNat)
      case atStart => exact ⟨k + 1, hkm, by go_num, Lib.hid ⟨Nat.lt_succ_self _, hS.out.first⟩, hbW⟩
      case round =>
        obtain ⟨t, ht, rfl, hT, hb2⟩ := hrel
        have t0 : (0 : Int) ≤ t := by omega
        by_cases htm : t < m
        · have tm : (t : Int) < m := by omega
          have hkz : k < (gIds rs).length := by rw [← HM.out]; exact hkm
          have htz : t < (gIds rs).length := by rw [← HM.out]; exact htm
          obtain ⟨B, off, rfl, HC⟩ := hdo.resolve_left (by omega)
          obtain ⟨⟨y, z⟩, hxy⟩ : ∃ q, nth (gIds rs) k = q := ⟨_, rfl⟩
          obtain ⟨⟨y', z'⟩, hxy'⟩ : ∃ q, nth (gIds rs) t = q := ⟨_, rfl⟩
          have c0 := (HC.out.on hb2.out).fst k hkz
          have c1 := (HC.out.on hb2.out).snd k hkz
          rw [hxy] at c0 c1
          have d0 := (HC.out.on hb2.out).fst t htz
          have d1 := (HC.out.on hb2.out).snd t htz
          rw [hxy'] at d0 d1
          obtain ⟨f1, hf1, ef1, ei1⟩ := find_in (rs := rs) (x := (y, z)) (by rw [← hxy]; exact (srt_mem _ _).1 (nth_memP hkz))
          obtain ⟨f2, hf2, ef2, ei2⟩ := find_in (rs := rs) (x := (y', z')) (by rw [← hxy']; exact (srt_mem _ _).1 (nth_memP htz))
          have HWR := Lib.hid (B1.out.trans (hb2.out.mono B1.out.size))
          have hn0 : n ≠ 0 := by have := HN.out; omega
          obtain ⟨G, og, hpg, HG⟩ := hd.resolve_left hn0
          obtain ⟨⟨⟨a1, b1⟩, q1, ds1, cs1⟩, hr1⟩ : ∃ r, layG.at rs f1 = r := ⟨_, rfl⟩
          obtain ⟨⟨⟨a2, b2⟩, q2, ds2, cs2⟩, hr2⟩ : ∃ r, layG.at rs f2 = r := ⟨_, rfl⟩
          have HLk : Hid (lackAt rs k t = lackR ((a1, b1), q1, ds1, cs1) ((a2, b2), q2, ds2, cs2)) := Lib.hid (by
            unfold lackAt rcG; rw [hxy, hxy', ef1, ef2]; show lackR (layG.at rs f1) (layG.at rs f2) = _; rw [hr1, hr2])
          obtain ⟨p1, k1, p1', k1', A1, -, -⟩ := rcdAt (HG.on HWR.out) hf1 hr1
          obtain ⟨p2, k2, p2', k2', A2, -, -⟩ := rcdAt (HG.on HWR.out) hf2 hr2
          have hwf1 := HWF.out _ (show ((a1, b1), q1, ds1, cs1) ∈ rs from (Lay.mem (L := layG)).2 ⟨f1, hf1, hr1⟩)
          have hwf2 := HWF.out _ (show ((a2, b2), q2, ds2, cs2) ∈ rs from (Lay.mem (L := layG)).2 ⟨f2, hf2, hr2⟩)
          have hlt : B < wr.heap.size := (HC.out.on hb2.out).lt
          obtain ⟨l1, hl1⟩ : ∃ l, l = ds1.length := ⟨_, rfl⟩
          obtain ⟨l2, hl2⟩ : ∃ l, l = ds2.length := ⟨_, rfl⟩
          obtain ⟨m1, hm1⟩ : ∃ l, l = cs1.length := ⟨_, rfl⟩
          obtain ⟨m2, hm2⟩ : ∃ l, l = cs2.length := ⟨_, rfl⟩
          rw [← hl1, ← hm1] at A1
          rw [← hl2, ← hm2] at A2
          have HS : Hid (∀ w', Below wr.heap.size wr w' → w'.cell? ⟨B, off + k * 2, none⟩ = some (.int .i64 y) ∧ w'.cell? ⟨B, off + k * 2 + 1, none⟩ = some (.int .i64 z) ∧ w'.cell? ⟨B, off + t * 2, none⟩ = some (.int .i64 y') ∧ w'.cell? ⟨B, off + t * 2 + 1, none⟩ = some (.int .i64 z') ∧ w'.cell? ⟨G, og + f1 * 5, none⟩ = some (.int .i64 a1) ∧ w'.cell? ⟨G, og + f1 * 5 + 1, none⟩ = some (.int .i64 b1) ∧ w'.cell? ⟨G, og + f1 * 5 + 2, none⟩ = some (.int .i64 q1) ∧ w'.cell? ⟨G, og + f1 * 5 + 3, none⟩ = some (.slice p1 l1 k1) ∧ w'.cell? ⟨G, og + f1 * 5 + 4, none⟩ = some (.slice p1' m1 k1') ∧ w'.cell? ⟨G, og + f2 * 5, none⟩ = some (.int .i64 a2) ∧ w'.cell? ⟨G, og + f2 * 5 + 1, none⟩ = some (.int .i64 b2) ∧ w'.cell? ⟨G, og + f2 * 5 + 2, none⟩ = some (.int .i64 q2) ∧ w'.cell? ⟨G, og + f2 * 5 + 3, none⟩ = some (.slice p2 l2 k2) ∧ w'.cell? ⟨G, og + f2 * 5 + 4, none⟩ = some (.slice p2' m2 k2')) := Lib.hid (fun w' hw => by
            have r1 := A1.on hw
            have r2 := A2.on hw
            exact ⟨(hw.cell (p := ⟨B, off + k * 2, none⟩) hlt).trans c0, (hw.cell (p := ⟨B, off + k * 2 + 1, none⟩) hlt).trans c1, (hw.cell (p := ⟨B, off + t * 2, none⟩) hlt).trans d0, (hw.cell (p := ⟨B, off + t * 2 + 1, none⟩) hlt).trans d1, r1.c0, r1.c1, r1.c2, r1.c3, r1.c4, r2.c0, r2.c1, r2.c2, r2.c3, r2.c4⟩)
          have CA1 : Hid (∀ W, Below wr.heap.size wr W → Calls Tryz.prog 11 #[.slice p n cap, .agg #[.int .i64 y, .int .i64 z]] W (RetBelow (.int .i64 (f1 : Int)) W)) := Lib.hid (fun W hb => by
            have := find_any (.slice p n cap) rs y z W (HRW.out.on (HWR.out.trans (hb.mono HWR.out.size)))
            rwa [ef1] at this)
          have CA2 : Hid (∀ W, Below wr.heap.size wr W → Calls Tryz.prog 11 #[.slice p n cap, .agg #[.int .i64 y', .int .i64 z']] W (RetBelow (.int .i64 (f2 : Int)) W)) := Lib.hid (fun W hb => by
            have := find_any (.slice p n cap) rs y' z' W (HRW.out.on (HWR.out.trans (hb.mono HWR.out.size)))
            rwa [ef2] at this)
          have CA3 := Lib.hid (fun W (hb : Below wr.heap.size wr W) => reflacks_any a1 b1 q1 (.slice p1 l1 k1) (.slice p1' m1 k1') a2 b2 q2 (.slice p2 l2 k2) (.slice p2' m2 k2') ds1 ds2 cs1 cs2 W (A1.on hb).rd (A1.on hb).rc (A2.on hb).rd (A2.on hb).rc hwf1.batch hwf2.batch)
          have E0 := Lib.hid (Below.refl wr.heap.size wr)
          have f10 : (0 : Int) ≤ f1 := by omega
          have f20 : (0 : Int) ≤ f2 := by omega
          have f1n : (f1 : Int) < n := by have := HN.out; omega
          have f2n : (f2 : Int) < n := by have := HN.out; omega
          rw [← HLk.out] at CA3
          have HXY := Lib.hid (And.intro hxy hxy')
          subst hpg
          clear A1 A2 c0 c1 d0 d1 hl1 hl2 hm1 hm2 hr1 hr2 ef1 ef2 ei1 ei2 HLk hwf1 hwf2 hkz htz hxy hxy' hf1 hf2 hlt hn0 hdo hd HG
          obtain ⟨lk, hlk⟩ : ∃ b, b = lackAt rs k t := ⟨_, rfl⟩
          have HL := Lib.hid hlk
          rw [← hlk] at CA3
          clear hlk
          cases lk
          · go_wp2_with fail
            go_region_held3 (fun w' => w'.cell? ⟨B, off + k * 2, none⟩ = some (.int .i64 y) ∧ w'.cell? ⟨B, off + k * 2 + 1, none⟩ = some (.int .i64 z) ∧ w'.cell? ⟨B, off + t * 2, none⟩ = some (.int .i64 y') ∧ w'.cell? ⟨B, off + t * 2 + 1, none⟩ = some (.int .i64 z') ∧ w'.cell? ⟨G, og + f1 * 5, none⟩ = some (.int .i64 a1) ∧ w'.cell? ⟨G, og + f1 * 5 + 1, none⟩ = some (.int .i64 b1) ∧ w'.cell? ⟨G, og + f1 * 5 + 2, none⟩ = some (.int .i64 q1) ∧ w'.cell? ⟨G, og + f1 * 5 + 3, none⟩ = some (.slice p1 l1 k1) ∧ w'.cell? ⟨G, og + f1 * 5 + 4, none⟩ = some (.slice p1' m1 k1') ∧ w'.cell? ⟨G, og + f2 * 5, none⟩ = some (.int .i64 a2) ∧ w'.cell? ⟨G, og + f2 * 5 + 1, none⟩ = some (.int .i64 b2) ∧ w'.cell? ⟨G, og + f2 * 5 + 2, none⟩ = some (.int .i64 q2) ∧ w'.cell? ⟨G, og + f2 * 5 + 3, none⟩ = some (.slice p2 l2 k2) ∧ w'.cell? ⟨G, og + f2 * 5 + 4, none⟩ = some (.slice p2' m2 k2'))
              (first
                | exact HS.out _ E3.out
                | exact HS.out _ E2.out
                | exact HS.out _ E1.out
                | exact HS.out _ E0.out
                | exact HS.out _ E0.out.drew)
              (first
                | (go_at_call 11; (with_reducible refine (CA1.out _ E0.out.drew).mono ?_); rintro e z1 ⟨rfl, hb1⟩; have E1 := Lib.hid (E0.out.drew.trans (hb1.mono E0.out.drew.size)); clear hb1)
                | (go_at_call 11; (with_reducible refine (CA2.out _ E1.out).mono ?_); rintro e z2 ⟨rfl, hb2⟩; have E2 := Lib.hid (E1.out.trans (hb2.mono E1.out.size)); clear hb2)
                | (go_at_call 28; (with_reducible refine (CA3.out _ E2.out).mono ?_); rintro e z3 ⟨rfl, hb3⟩; have E3 := Lib.hid (E2.out.trans (hb3.mono E2.out.size)); clear hb3))
            go_wp2
            go_roundw
            case rel => exact ⟨t + 1, by omega, by go_num, Lib.hid ⟨by have := hT.out.1; omega, hT.out.2.step HL.out.symm⟩, Lib.hid (hb2.out.trans (E3.out.mono hb2.out.size))⟩
            case measure => simp [intOf]; omega
          · go_wp2_with fail
            go_region_held3 (fun w' => w'.cell? ⟨B, off + k * 2, none⟩ = some (.int .i64 y) ∧ w'.cell? ⟨B, off + k * 2 + 1, none⟩ = some (.int .i64 z) ∧ w'.cell? ⟨B, off + t * 2, none⟩ = some (.int .i64 y') ∧ w'.cell? ⟨B, off + t * 2 + 1, none⟩ = some (.int .i64 z') ∧ w'.cell? ⟨G, og + f1 * 5, none⟩ = some (.int .i64 a1) ∧ w'.cell? ⟨G, og + f1 * 5 + 1, none⟩ = some (.int .i64 b1) ∧ w'.cell? ⟨G, og + f1 * 5 + 2, none⟩ = some (.int .i64 q1) ∧ w'.cell? ⟨G, og + f1 * 5 + 3, none⟩ = some (.slice p1 l1 k1) ∧ w'.cell? ⟨G, og + f1 * 5 + 4, none⟩ = some (.slice p1' m1 k1') ∧ w'.cell? ⟨G, og + f2 * 5, none⟩ = some (.int .i64 a2) ∧ w'.cell? ⟨G, og + f2 * 5 + 1, none⟩ = some (.int .i64 b2) ∧ w'.cell? ⟨G, og + f2 * 5 + 2, none⟩ = some (.int .i64 q2) ∧ w'.cell? ⟨G, og + f2 * 5 + 3, none⟩ = some (.slice p2 l2 k2) ∧ w'.cell? ⟨G, og + f2 * 5 + 4, none⟩ = some (.slice p2' m2 k2'))
              (first
                | exact HS.out _ E3.out
                | exact HS.out _ E2.out
                | exact HS.out _ E1.out
                | exact HS.out _ E0.out
                | exact HS.out _ E0.out.drew)
              (first
                | (go_at_call 11; (with_reducible refine (CA1.out _ E0.out.drew).mono ?_); rintro e z1 ⟨rfl, hb1⟩; have E1 := Lib.hid (E0.out.drew.trans (hb1.mono E0.out.drew.size)); clear hb1)
                | (go_at_call 11; (with_reducible refine (CA2.out _ E1.out).mono ?_); rintro e z2 ⟨rfl, hb2⟩; have E2 := Lib.hid (E1.out.trans (hb2.mono E1.out.size)); clear hb2)
                | (go_at_call 28; (with_reducible refine (CA3.out _ E2.out).mono ?_); rintro e z3 ⟨rfl, hb3⟩; have E3 := Lib.hid (E2.out.trans (hb3.mono E2.out.size)); clear hb3))
            have D3 := Lib.hid (hb2.out.trans (E3.out.mono hb2.out.size))
            have g1 := (D3.out.block _ (Array.getElem?_eq_some_iff.1 Z1.out.1).1).trans Z1.out.1
            have g2 := (D3.out.block _ (Array.getElem?_eq_some_iff.1 Z1.out.2).1).trans Z1.out.2
            have HBf := Lib.hid (boxes_put (B1.out.trans (D3.out.mono B1.out.size)) g1 g2 y z y' z')
            have a0 := cell_row (i := 0) g1 rfl
            have a1' := cell_row (i := 1) g1 rfl
            have b0 := cell_row (i := 0) g2 rfl
            have b1' := cell_row (i := 1) g2 rfl
            have fa0 : z3.frozen? ⟨w.heap.size, 0, none⟩ = false := free_row g1
            have fb0 : z3.frozen? ⟨w.heap.size + 1, 0, none⟩ = false := free_row g2
            have fa1 : z3.frozen? ⟨w.heap.size, 1, none⟩ = false := free_row g1
            have fb1 : z3.frozen? ⟨w.heap.size + 1, 1, none⟩ = false := free_row g2
            obtain ⟨s0, s1, s2, s3, -⟩ := HS.out _ E3.out
            have hB : w.heap.size + 1 < B := by
              have h1 := F1.out B rfl
              have h2 : ((w.alloc (.cells #[.int .i64 0, .int .i64 0] 32)).alloc (.cells #[.int .i64 0, .int .i64 0] 32)).heap.size = w.heap.size + 2 := by simp
              omega
            have HFB : Hid (∀ (X : World) (g : Nat) (u v : Value) (j : Nat), g = w.heap.size ∨ g = w.heap.size + 1 → ((X.setCell ⟨g, 0, none⟩ u).setCell ⟨g, 1, none⟩ v).cell? ⟨B, j, none⟩ = X.cell? ⟨B, j, none⟩) := Lib.hid fun X g u v j hg => by
              have e1 := heap_setCell_other (X.setCell ⟨g, 0, none⟩ u) ⟨g, 1, none⟩ B v (by show B ≠ g; omega)
              have e2 := heap_setCell_other X ⟨g, 0, none⟩ B u (by show B ≠ g; omega)
              exact World.cell?_of_block (a := ⟨B, j, none⟩) (e1.trans e2)
            have t0 := (HFB.out z3 _ (.int .i64 y') (.int .i64 z') (off + k * 2) (.inr rfl)).trans s0
            have t1 := (HFB.out z3 _ (.int .i64 y') (.int .i64 z') (off + k * 2 + 1) (.inr rfl)).trans s1
            have t2 := (HFB.out z3 _ (.int .i64 y) (.int .i64 z) (off + t * 2) (.inl rfl)).trans s2
            have t3 := (HFB.out z3 _ (.int .i64 y) (.int .i64 z) (off + t * 2 + 1) (.inl rfl)).trans s3
            clear g1 g2
            go_wp2
            have HFd : Hid (Hlds rs (y, z) (y', z') false) := Lib.hid (by
              have := hT.out.2.found hT.out.1 (by rw [← HM.out]; exact htm) HL.out.symm
              rw [HXY.out.1, HXY.out.2] at this; exact this)
            go_region
            clear t0 t1 t2 t3 s0 s1 s2 s3 a0 a1' b0 b1' fa0 fb0 fa1 fb1 HFB
            obtain ⟨wf, ewf, hbf, g1, g2⟩ := HBf.out
            rw [← ewf]
            clear ewf HBf
            go_wp2
            refine bodyPost_ret (v := .tuple #[.agg #[.int .i64 y, .int .i64 z], .agg #[.int .i64 y', .int .i64 z'], .bool false]) ?_ rfl ?_
            · exact ret_ids rfl _ rfl rfl rfl g1 g2
            exact ⟨y, z, y', z', false, rfl, HFd.out, hbf.drew⟩
        · have tm : ¬ (t : Int) < m := by omega
          go_wp2
          go_roundw
          case rel => exact ⟨k + 1, by omega, by go_num, hb2, Lib.hid (hT.out.2.next (by rw [← HM.out]; omega))⟩
          case measure => simp [intOf]; omega
    · have km : ¬ (k : Int) < m := by omega
      have z1 := (hbW.out.block _ (Array.getElem?_eq_some_iff.1 Z1.out.1).1).trans Z1.out.1
      have z2 := (hbW.out.block _ (Array.getElem?_eq_some_iff.1 Z1.out.2).1).trans Z1.out.2
      have HE := Lib.hid (hS.out.end (by rw [← HM.out]; omega))
      have a0 := cell_row (i := 0) z1 rfl
      have a1 := cell_row (i := 1) z1 rfl
      have b0 := cell_row (i := 0) z2 rfl
      have b1 := cell_row (i := 1) z2 rfl
      have fa0 : wr.frozen? ⟨w.heap.size, 0, none⟩ = false := free_row z1
      have fb0 : wr.frozen? ⟨w.heap.size + 1, 0, none⟩ = false := free_row z2
      have fa1 : wr.frozen? ⟨w.heap.size, 1, none⟩ = false := free_row z1
      have fb1 : wr.frozen? ⟨w.heap.size + 1, 1, none⟩ = false := free_row z2
      have HBf := boxes_put (B1.out.trans (hbW.out.mono B1.out.size)) z1 z2 0 0 0 0
      clear z1 z2
      go_wp2
      obtain ⟨wf, ewf, hbf, g1, g2⟩ := HBf
      rw [← ewf]
      clear ewf a0 a1 b0 b1 fa0 fb0 fa1 fb1
      refine bodyPost_ret (v := .tuple #[.agg #[.int .i64 0, .int .i64 0], .agg #[.int .i64 0, .int .i64 0], .bool true]) ?_ rfl ?_
      · exact ret_ids rfl _ rfl rfl rfl g1 g2
      exact ⟨0, 0, 0, 0, true, rfl, HE.out, hbf⟩
end Go.Proofs.YtomidcbpnaajeaaGreat.Pre
