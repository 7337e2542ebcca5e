/- The statement's function of layer 4 (idset) on a list of ids and what is put in and taken out: it returns true. Conditions: both lists lie in memory as their cells say; their ids fit into their kind. -/
import Derived.Test.YtmopkcmgoibmeaaSetG
import Derived.Test.YtmopkcmgoibmeaaIdO
import Derived.Deep.DeepCutAuto
import Derived.Deep.LoopGhost
namespace Go.Proofs.Ytmopkcmgoibmeaa
open Go.RowKit Go.Maps
set_option linter.unusedVariables false

/-- What is done: taken out, or put in; the id. -/
abbrev Actn := Bool × Idn
def actn (l : List Actn) (j : Nat) : Actn := l.getD j (false, (0, 0))
structure Row3 (w : World) (B off : Nat) (l : List Actn) : Prop where
  lt : B < w.heap.size
  out : ∀ j, j < l.length → w.cell? ⟨B, off + j * 3, none⟩ = some (.bool (actn l j).1)
  fst : ∀ j, j < l.length → w.cell? ⟨B, off + j * 3 + 1, none⟩ = some (.int .i64 (actn l j).2.1)
  snd : ∀ j, j < l.length → w.cell? ⟨B, off + j * 3 + 2, none⟩ = some (.int .i64 (actn l j).2.2)
theorem Row3.on {w w' : World} {B off : Nat} {l : List Actn} (h : Row3 w B off l) (hb : Below w.heap.size w w') : Row3 w' B off l :=
  ⟨Nat.lt_of_lt_of_le h.lt hb.size, fun j hj => (hb.cell (p := ⟨B, _, none⟩) h.lt).trans (h.out j hj), fun j hj => (hb.cell (p := ⟨B, _, none⟩) h.lt).trans (h.fst j hj), fun j hj => (hb.cell (p := ⟨B, _, none⟩) h.lt).trans (h.snd j hj)⟩
def ActAt (w : World) (v : Value) (l : List Actn) : Prop := ∃ (p : Option Addr) (cap : Nat), v = .slice p l.length cap ∧ l.length ≤ cap ∧ cap ≤ 9223372036854775807 ∧ (l ≠ [] → ∃ B off, p = some ⟨B, off, none⟩ ∧ Row3 w B off l)
theorem actn_mem {l : List Actn} {j : Nat} (h : j < l.length) : actn l j ∈ l := by
  unfold actn
  rw [List.getD_eq_getElem?_getD, List.getElem?_eq_getElem h]; exact List.getElem_mem h

/-- What stands in each round: what is wanted, and the set. -/
structure Stands (w : World) (g m : Nat) (v : Value) (xs : List Idn) (W : World) : Prop where
  below : Below w.heap.size w W
  row : RowAt W v xs
  set : SetP W g m xs
theorem Stands.on {w : World} {g m : Nat} {v : Value} {xs : List Idn} {W W' : World} (h : Stands w g m v xs W) (hb : Below W.heap.size W W') : Stands w g m v xs W' := ⟨h.below.trans (hb.mono h.below.size), h.row.on hb, h.set.on hb⟩
/-- Behind the id's box. -/
structure InBox (w : World) (g m : Nat) (v : Value) (xs : List Idn) (h : Nat) (a b : Int) (W : World) : Prop where
  st : Stands w g m v xs W
  lt : h < W.heap.size
  fst : W.cell? ⟨h, 0, none⟩ = some (.int .i64 a)
  snd : W.cell? ⟨h, 1, none⟩ = some (.int .i64 b)
theorem InBox.on {w : World} {g m : Nat} {v : Value} {xs : List Idn} {h : Nat} {a b : Int} {W W' : World} (k : InBox w g m v xs h a b W) (hb : Below W.heap.size W W') : InBox w g m v xs h a b W' :=
  ⟨k.st.on hb, Nat.lt_of_lt_of_le k.lt hb.size, (hb.cell (p := ⟨h, 0, none⟩) k.lt).trans k.fst, (hb.cell (p := ⟨h, 1, none⟩) k.lt).trans k.snd⟩

theorem grown_cell {W W' : World} {m : Nat} (hg : W.grownBy W' (some m)) (hm : ∃ es c, W.heap[m]? = some (.map es c)) {h o : Nat} {v : Value} (hc : W.cell? ⟨h, o, none⟩ = some v) : W'.cell? ⟨h, o, none⟩ = some v := by
  obtain ⟨es, c, hm⟩ := hm
  have hne := cell_not_map hc hm
  exact (World.cell?_of_block (w := W) (a := ⟨h, o, none⟩) (hg.block h (World.block_lt_of_cell? _ _ hc) (by simpa using hne))).trans hc
theorem Row3.grown {W W' : World} {B off m : Nat} {l : List Actn} (h : Row3 W B off l) (hg : W.grownBy W' (some m)) (hm : ∃ es c, W.heap[m]? = some (.map es c)) : Row3 W' B off l :=
  ⟨Nat.lt_of_lt_of_le h.lt hg.size, fun j hj => grown_cell hg hm (h.out j hj), fun j hj => grown_cell hg hm (h.fst j hj), fun j hj => grown_cell hg hm (h.snd j hj)⟩
theorem InBox.turn {w : World} {g m : Nat} {v v' : Value} {xs ys : List Idn} {h : Nat} {a b : Int} {W W' : World} (k : InBox w g m v xs h a b W) (hv : RowAt W v' ys) (ht : Turns g m ys W W') (hm : w.heap.size ≤ m) : InBox w g m v' ys h a b W' :=
  have hM := k.st.set.set.isMap
  ⟨⟨Below.grown k.st.below ht.grown k.st.below.size (fun j hj => by cases hj; exact hm), hv.grown ht.grown hM, ht.set⟩, Nat.lt_of_lt_of_le k.lt ht.grown.size, grown_cell ht.grown hM k.fst, grown_cell ht.grown hM k.snd⟩
theorem Boxed.set {w w1 : World} {x y : Int} (h : Boxed w x y w1) (a b : Int) : Boxed w a b ((w1.setCell ⟨w.heap.size, 0, none⟩ (.int .i64 a)).setCell ⟨w.heap.size, 1, none⟩ (.int .i64 b)) := by
  have hs : ∀ (u : World) (p : Addr) (v : Value), (u.setCell p v).heap.size = u.heap.size := fun u p v => by simp [World.setCell]
  refine ⟨(h.below.setCell (p := ⟨w.heap.size, 0, none⟩) (Nat.le_refl _) _).setCell (p := ⟨w.heap.size, 1, none⟩) (Nat.le_refl _) _, by rw [hs, hs]; exact h.lt, ?_, ?_, ?_, ?_⟩
  · rw [World.cell?_setCell_other _ _ _ _ (by intro e; injection e with _ e _; cases e)]
    exact World.cell?_setCell_same _ _ _ h.fst
  · exact World.cell?_setCell_same _ _ _ (by rw [World.cell?_setCell_other _ _ _ _ (by intro e; injection e with _ e _; cases e)]; exact h.snd)
  · rw [World.frozen?_setCell, World.frozen?_setCell]; exact h.fr0
  · rw [World.frozen?_setCell, World.frozen?_setCell]; exact h.fr1
theorem InBox.of {w wr W : World} {g m : Nat} {v : Value} {xs : List Idn} {a b : Int} (h : Stands w g m v xs wr) (hq : Boxed wr a b W) : InBox w g m v xs wr.heap.size a b W := ⟨h.on hq.below, hq.lt, hq.fst, hq.snd⟩

set_option maxHeartbeats 8000000 in
set_option maxRecDepth 100000 in
theorem actslaw_any (v0 v1 : Value) (xa : List Idn) (l : List Actn) (w : World) (h0 : RowAt w v0 xa) (h1 : ActAt w v1 l) (hw0 : ∀ x ∈ xa, wfId x) (hw1 : ∀ x ∈ l, wfId x.2) : Calls Try.prog 3 #[v0, v1] w (RetTrue w) := by
  have HWK := Lib.hid works_any
  obtain ⟨p0, cap0, rfl, hc0, hd0⟩ := h0.shape
  obtain ⟨p1, cap1, rfl, hc1, hd1, h1⟩ := h1
  obtain ⟨n, hn⟩ : ∃ n, xa.length = n := ⟨_, rfl⟩
  obtain ⟨k, hk⟩ : ∃ n, l.length = n := ⟨_, rfl⟩
  rw [hn] at h0 hc0 ⊢
  rw [hk] at hc1 ⊢
  have HR0 := Lib.hid h0
  have HR1 : Hid (0 < l.length → ∃ B off, p1 = some ⟨B, off, none⟩ ∧ Row3 w B off l) := Lib.hid fun h => h1 (List.length_pos_iff.1 h)
  have HN := Lib.hid hn
  have HK := Lib.hid hk
  have HW0 := Lib.hid hw0
  have HW1 := Lib.hid hw1
  clear h0 h1 hw0 hw1 hn hk
  by_cases hn1 : 100 < n
  · have h1 : 100 < (n : Int) := by omega
    go_enter Try.func3, Try.ntmps3
    go_wp2_with (go_at_call 5; (with_reducible refine (HWK.out _).mono ?_); rintro e w4 ⟨rfl, hb⟩; have HB := Lib.hid hb; clear hb)
    go_ret
    exact ⟨rfl, HB.out⟩
  · have h1 : ¬ 100 < (n : Int) := by omega
    by_cases hk1 : 100 < k
    · have h2 : 100 < (k : Int) := by omega
      go_enter Try.func3, Try.ntmps3
      go_wp2_with (go_at_call 5; (with_reducible refine (HWK.out _).mono ?_); rintro e w4 ⟨rfl, hb⟩; have HB := Lib.hid hb; clear hb)
      go_ret
      exact ⟨rfl, HB.out⟩
    · have h2 : ¬ 100 < (k : Int) := by omega
      have HLA : Hid (xa.length ≤ 100000) := Lib.hid (by rw [HN.out]; omega)
      have HL : Hid ((srt xa).length ≤ 100) := Lib.hid (Nat.le_trans (srt_length xa) (by rw [HN.out]; omega))
      have HS : Hid (∀ W, Below w.heap.size w W → Calls Try.prog 7 #[.slice p0 n cap0] W (GivesRow (srt xa) W)) := Lib.hid fun W hb => refsorted_any _ xa W (HR0.out.on hb) HLA.out
      have HOW : Hid ((w.alloc (.cells #[] 29)).ownsRow w.heap.size 29 2 (.slice (some ⟨w.heap.size, 0, none⟩) 0 0) 0 []) := Lib.hid (World.ownsRow_made w #[] 0 (Nat.le_refl _) (by decide) rfl)
      have HRW := Lib.hid (HR0.out.on (below_one w (.cells #[] 29)))
      go_enter Try.func3, Try.ntmps3
      go_wp2_with (first
        | (at_builtin; refine wpList_append_ids rfl _ _ rfl w.heap.size _ _ xa rfl HOW.out rfl HRW.out HLA.out (by simp) ?_; intro u w1 hown1 hgrow1; refine Hid.out ?_))
      have hb1 : Below w.heap.size w w1 := Below.grown (below_one w (.cells #[] 29)) hgrow1 (by simp) (fun k hk => (World.ownsRow.lt HOW.out k hk).1)
      have HB1 := Lib.hid hb1
      have HNW := Lib.hid (new_any u xa w1 (Owns.row hown1) HW0.out HLA.out)
      clear hown1 hgrow1 hb1 HRW HOW
      refine Lib.hid ?_
      go_wp2_with (first
        | (go_at_call 6; ((with_reducible refine HNW.out.mono ?_); rintro e w2 ⟨g, m, rfl, hg, hm, hs, hb⟩; unfold setPtr; have HG : Hid (w.heap.size ≤ g ∧ w.heap.size ≤ m) := Lib.hid ⟨Nat.le_trans HB1.out.size hg, Nat.le_trans HB1.out.size hm⟩; have S2 := Lib.hid hs; have B2 := Lib.hid (HB1.out.trans (hb.mono HB1.out.size)); clear hg hm hs hb HNW))
        | (go_at_call 7; ((with_reducible refine (HS.out _ B2.out).mono ?_); rintro e w3 ⟨q, rfl, hr, hb⟩; have S3 : Hid (Stands w g m q (srt xa) w3) := Lib.hid ⟨B2.out.trans (hb.mono B2.out.size), hr, S2.out.on hb⟩; clear hr hb)))
      go_loopg [6, 7] k (fun gk o i wr => ∃ (j : Nat) (xs : List Idn), j ≤ k ∧ gk = k - j ∧ i = .int .i64 j ∧ Hid (Stands w g m o xs wr) ∧ xs.length ≤ 100 + j)
      case atStart => exact ⟨0, srt xa, Nat.zero_le _, rfl, rfl, S3, HL.out⟩
      case round =>
        obtain ⟨j, xs, hj, hgk, rfl, hst, hxl⟩ := hrel
        clear S3 S2 B2
        by_cases hjk : j < k
        · obtain ⟨B, off, rfl, hr1⟩ := HR1.out (by rw [HK.out]; omega)
          have hr3 := hr1.on hst.out.below
          have HLT := Lib.hid hr3.lt
          obtain ⟨o, ⟨a, b⟩, hoe⟩ : ∃ o x, actn l j = (o, x) := ⟨_, _, rfl⟩
          have hwx : wfId (a, b) := by have := HW1.out _ (actn_mem (l := l) (j := j) (by rw [HK.out]; exact hjk)); rw [hoe] at this; exact this
          have c0 := hr3.out j (by rw [HK.out]; exact hjk)
          have c1 := hr3.fst j (by rw [HK.out]; exact hjk)
          have c2 := hr3.snd j (by rw [HK.out]; exact hjk)
          rw [hoe] at c0 c1 c2
          have k0 : (0 : Int) ≤ j := by omega
          have kn : (j : Int) < k := by omega
          obtain ⟨r, hr⟩ : ∃ r, decide ((a, b) ∈ xs) = r := ⟨_, rfl⟩
          have HC : Hid (∀ W, Below wr.heap.size wr W → Calls Try.prog 8 #[u6, .agg #[.int .i64 a, .int .i64 b]] W (RetB (.bool r) W)) := Lib.hid fun W hb => by
            have := refhas_any u6 xs a b W (hst.out.row.on hb); rw [hr] at this; exact this
          have HR := Lib.hid hr
          have HOE := Lib.hid hoe
          have HWX := Lib.hid hwx
          have HR3 := Lib.hid hr3
          have HK1 : Hid (∀ W, Below wr.heap.size wr W → W.cell? ⟨B, off + j * 3 + 1, none⟩ = some (.int .i64 a) ∧ W.cell? ⟨B, off + j * 3 + 2, none⟩ = some (.int .i64 b)) := Lib.hid fun W hb => ⟨(hb.cell (p := ⟨B, _, none⟩) HLT.out).trans c1, (hb.cell (p := ⟨B, _, none⟩) HLT.out).trans c2⟩
          clear hr hwx hr3 hr1 hoe
          have hne := World.new_ne wr ⟨B, off + j * 3 + 1, none⟩ c1
          have HX1 : Hid (∀ w1, Below wr.drew.heap.size wr.drew w1 → Below wr.heap.size wr w1) := Lib.hid fun w1 hb => (Below.refl _ _).drew.trans hb
          have HX2 : Hid (∀ a b w1, Below (wr.alloc (.cells #[.int .i64 a, .int .i64 b] 29)).drew.heap.size (wr.alloc (.cells #[.int .i64 a, .int .i64 b] 29)).drew w1 → Boxed wr a b w1) := Lib.hid fun a b w1 hb => (Boxed.start wr a b).on ((Below.refl (wr.alloc (cells a b)).heap.size (wr.alloc (cells a b))).drew.trans hb)
          have HY1 := Lib.hid (HC.out wr.drew (Below.refl _ _).drew)
          have HY2 := Lib.hid (HC.out (wr.alloc (.cells #[.int .i64 0, .int .i64 0] 29)).drew (below_one wr (cells 0 0)).drew)
          go_upto_region 7 with fail
          go_cut [8, 9] (fun pid had wc => ∃ h : Nat, pid = .pointer (some ⟨h, 0, none⟩) ∧ had = .bool r ∧ Hid (InBox w g m u6 xs h a b wc) ∧ Hid (Row3 wc B off l))
          case first =>
            go_region_held3 (fun w' => w'.cell? ⟨B, off + j * 3 + 1, none⟩ = some (.int .i64 a) ∧ w'.cell? ⟨B, off + j * 3 + 2, none⟩ = some (.int .i64 b)) (first | go_keep)
              (first
                | (go_at_call 8; (with_reducible refine HY1.out.mono ?_); rintro e w1 ⟨rfl, hb⟩; have HB5 := Lib.hid (HX1.out _ hb); have d1 := (HK1.out _ HB5.out).1; have d2 := (HK1.out _ HB5.out).2; clear hb)
                | (go_at_call 8; (with_reducible refine HY2.out.mono ?_); rintro e w1 ⟨rfl, hb⟩; have HQ := Lib.hid (HX2.out _ _ _ hb); have d1 := (HK1.out _ HQ.out.below).1; have d2 := (HK1.out _ HQ.out.below).2; have e1 := HQ.out.fst; have e2 := HQ.out.snd; have e3 := HQ.out.fr0; have e4 := HQ.out.fr1; clear hb))
            · go_wp2_with fail
              go_meet
              case rel => exact ⟨_, rfl, rfl, Lib.hid (InBox.of (hst.out.on HB5.out) (Boxed.start _ a b)), Lib.hid (HR3.out.on (HB5.out.trans ((below_one _ _).mono HB5.out.size)))⟩
            · go_wp2_with fail
              go_meet
              case rel => exact ⟨_, rfl, rfl, Lib.hid (InBox.of hst.out (HQ.out.set a b)), Lib.hid (HR3.out.on (HQ.out.set a b).below)⟩
          case rest =>
            obtain ⟨h, rfl, rfl, hbox, hrow3⟩ := hcut
            have c0 := hrow3.out.out j (by rw [HK.out]; exact hjk)
            rw [HOE.out] at c0
            clear HX1 HX2 HY1 HY2 HK1 HC c1 c2 hne
            go_upto_if 47 with fail
            go_cut [6] (fun want wc => ∃ ys : List Idn, ys.length ≤ 100 + (j + 1) ∧ decide ((a, b) ∈ ys) = !o ∧ Hid (InBox w g m want ys h a b wc) ∧ Hid (Row3 wc B off l))
            case first =>
              have b0 := hbox.out.fst
              have b1 := hbox.out.snd
              have HB := hbox
              have HR3' := hrow3
              clear hbox hrow3
              cases o with
              | true =>
                have HCU := Lib.hid (cut_any u6 xs a b _ HB.out.st.row (by omega))
                have HRM : Hid (∀ W, SetP W g m xs → Calls Try.prog 10 #[.pointer (some ⟨g, 0, none⟩), .agg #[.int .i64 a, .int .i64 b]] W fun e w' => e = .returned (.bool r) ∧ Turns g m (del xs (a, b)) W w') := Lib.hid fun W hW => by
                  have := remove_p g m xs a b W hW HWX.out
                  rw [HR.out] at this; exact this
                go_wp2_with (first
                  | (go_at_call 9; ((with_reducible refine HCU.out.mono ?_); rintro e w5 ⟨v, rfl, hr, hb⟩; have D5 := Lib.hid (HB.out.on hb); have E5 := Lib.hid (HR3'.out.on hb); have V5 := Lib.hid hr; have d0 := D5.out.fst; have d1 := D5.out.snd; clear hr hb))
                  | (go_at_call 10; ((with_reducible refine (HRM.out _ D5.out.st.set).mono ?_); rintro e w6 ⟨rfl, ht⟩; have T6 := Lib.hid ht; clear ht)))
                go_meet
                case rel => exact ⟨del xs (a, b), by have := del_length xs (a, b); omega, by rw [decide_eq_false fun hm => ((del_mem xs (a, b) (a, b)).1 hm).2 rfl]; rfl, Lib.hid (D5.out.turn V5.out T6.out HG.out.2), Lib.hid (E5.out.grown T6.out.grown D5.out.st.set.set.isMap)⟩
              | false =>
                have HPU := Lib.hid (put_any u6 xs a b _ HB.out.st.row (by omega))
                have HAD : Hid (∀ W, SetP W g m xs → Calls Try.prog 12 #[.pointer (some ⟨g, 0, none⟩), .agg #[.int .i64 a, .int .i64 b]] W fun e w' => e = .returned (.bool (!r)) ∧ Turns g m (put xs (a, b)) W w') := Lib.hid fun W hW => by
                  have := add_p g m xs a b W hW HWX.out (by omega)
                  rw [HR.out] at this; exact this
                go_wp2_with (first
                  | (go_at_call 11; ((with_reducible refine HPU.out.mono ?_); rintro e w5 ⟨v, rfl, hr, hb⟩; have D5 := Lib.hid (HB.out.on hb); have E5 := Lib.hid (HR3'.out.on hb); have V5 := Lib.hid hr; have d0 := D5.out.fst; have d1 := D5.out.snd; clear hr hb))
                  | (go_at_call 12; ((with_reducible refine (HAD.out _ D5.out.st.set).mono ?_); rintro e w6 ⟨rfl, ht⟩; have T6 := Lib.hid ht; clear ht)))
                go_meet
                case rel => exact ⟨put xs (a, b), by have := put_length xs (a, b); omega, by rw [decide_eq_true ((put_mem xs (a, b) (a, b)).2 (.inl rfl))]; rfl, Lib.hid (D5.out.turn V5.out T6.out HG.out.2), Lib.hid (E5.out.grown T6.out.grown D5.out.st.set.set.isMap)⟩
            case rest =>
              obtain ⟨ys, hyl, hmem, hbox2, hrow4⟩ := hcut
              clear hbox hrow3 c0
              have c0 := hrow4.out.out j (by rw [HK.out]; exact hjk)
              rw [HOE.out] at c0
              have b0 := hbox2.out.fst
              have b1 := hbox2.out.snd
              have HD := Lib.hid (hbox2.out.on (Below.refl wc.heap.size wc).drew)
              have HE := Lib.hid (hrow4.out.on (Below.refl wc.heap.size wc).drew)
              have KC : Hid (∀ W, Row3 W B off l → W.cell? ⟨B, off + j * 3, none⟩ = some (.bool o)) := Lib.hid fun W h => by
                have := h.out j (by rw [HK.out]; exact hjk); rw [HOE.out] at this; exact this
              have C1 : Hid (∀ W, SetP W g m ys → Calls Try.prog 13 #[.pointer (some ⟨g, 0, none⟩), .agg #[.int .i64 a, .int .i64 b]] W (RetB (.bool (!o)) W)) := Lib.hid fun W hW => by
                have := has_p g m ys a b W hW HWX.out
                rw [hmem] at this; exact this
              have C2 : Hid (∀ W, SetP W g m ys → Calls Try.prog 14 #[.pointer (some ⟨g, 0, none⟩)] W fun e w' => e = .returned (.int .i64 ys.length) ∧ W = w') := Lib.hid fun W hW => len_any (setPtr g) ys W (.inr ⟨g, m, rfl, hW⟩)
              have C3 : Hid (∀ W, SetP W g m ys → Calls Try.prog 16 #[.pointer (some ⟨g, 0, none⟩)] W (GivesRow ys W)) := Lib.hid fun W hW => setlist_any (setPtr g) ys W (.inr ⟨g, m, rfl, hW⟩) (by omega)
              obtain ⟨vp, vc, ev, hv1, hv2⟩ := hbox2.out.st.row.shape
              obtain ⟨y, hy⟩ : ∃ y, ys.length = y := ⟨_, rfl⟩
              rw [hy] at ev hv1 C2 hyl
              subst ev
              have HMM := Lib.hid hmem
              have HY := Lib.hid hy
              clear hmem hy HR3 hst hxl HR HWX
              go_upto_region 15 with fail
              go_region_held3 (fun w' => w'.cell? ⟨h, 0, none⟩ = some (.int .i64 a) ∧ w'.cell? ⟨h, 1, none⟩ = some (.int .i64 b) ∧ w'.cell? ⟨B, off + j * 3, none⟩ = some (.bool o))
                (first
                  | exact ⟨HD.out.fst, HD.out.snd, KC.out _ HE.out⟩
                  | exact ⟨D1.out.fst, D1.out.snd, KC.out _ E1.out⟩
                  | exact ⟨D2.out.fst, D2.out.snd, KC.out _ E2.out⟩
                  | exact ⟨D3.out.fst, D3.out.snd, KC.out _ E3.out⟩
                  | go_keep)
                (first
                  | (go_at_call 13; (with_reducible refine (C1.out _ HD.out.st.set).mono ?_); rintro e x1 ⟨rfl, hb⟩; have D1 := Lib.hid (HD.out.on hb); have E1 := Lib.hid (HE.out.on hb); clear hb)
                  | (go_at_call 14; (with_reducible refine (C2.out _ D1.out.st.set).mono ?_); rintro e x2 ⟨rfl, rfl⟩)
                  | (go_at_call 16; (with_reducible refine (C3.out _ D1.out.st.set).mono ?_); rintro e x3 ⟨t, rfl, hr, hb⟩; have D2 := Lib.hid (D1.out.on hb); have E2 := Lib.hid (E1.out.on hb); have T2 := Lib.hid hr; clear hr hb)
                  | (go_at_call 15; (with_reducible refine (same_true _ _ _ _ T2.out D2.out.st.row).mono ?_); rintro e x4 ⟨rfl, hb⟩; have D3 := Lib.hid (D2.out.on hb); have E3 := Lib.hid (E2.out.on hb); clear hb))
              go_wp2_with fail
              go_roundg (k - (j + 1))
              case measure => omega
              case rel => exact ⟨j + 1, ys, by omega, rfl, by go_num, Lib.hid D3.out.st, by rw [HY.out]; omega⟩
        · have kn : ¬ (j : Int) < k := by omega
          have HSL := Lib.hid (setlist_any (setPtr g) xs wr (.inr ⟨g, m, rfl, hst.out.set⟩) (by omega))
          unfold setPtr at HSL
          go_wp2_with (first
            | (go_at_call 16; ((with_reducible refine HSL.out.mono ?_); rintro e w4 ⟨t, rfl, hr, hb⟩; have D4 := Lib.hid (hst.out.on hb); have T4 := Lib.hid hr; clear hr hb))
            | (go_at_call 15; ((with_reducible refine (same_true _ _ _ _ T4.out D4.out.row).mono ?_); rintro e w5 ⟨rfl, hb⟩; have D5 := Lib.hid (D4.out.on hb); clear hb))
            | (go_at_call 5; ((with_reducible refine (HWK.out _).mono ?_); rintro e w6 ⟨rfl, hb⟩; have D6 := Lib.hid (D5.out.on hb); clear hb)))
          go_ret
          exact ⟨rfl, D6.out.below⟩
end Go.Proofs.Ytmopkcmgoibmeaa
