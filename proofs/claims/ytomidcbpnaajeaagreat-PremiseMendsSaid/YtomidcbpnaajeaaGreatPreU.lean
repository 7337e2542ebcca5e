/- What useOf gives (layer 20, premise): the record, the keys that it has commands of and those that it writes. Conditions: the batch lies in memory as its cells say; texts of a length that Go reads; at most 1000 commands. -/
import Derived.Test.YtomidcbpnaajeaaGreatPreM
namespace Go.Proofs.YtomidcbpnaajeaaGreat.Pre
open Go.RowKit Cmd Bat Ids Rec Wid Gra Cps
set_option linter.unusedVariables false
set_option linter.unusedSimpArgs false

set_option maxRecDepth 100000 in
set_option maxHeartbeats 16000000 in
theorem use_any (a b q : Int) (v u : Value) (cs : List Cmdn) (w : World) (h : layC.Row w u cs) (hl : cs.length ≤ 1000) (hw : ∀ x ∈ cs, wfC x) (hv : ∃ p n c, v = .slice p n c) : Calls Tryz.prog 25 #[.agg #[.int .i64 a, .int .i64 b, .int .i64 q, v, u]] w (GivesUse a b q v u cs w) := by
  obtain ⟨pd, nd, cd, rfl⟩ := hv
  have HK : Hid (∀ W, Below w.heap.size w W → Calls Tryz.prog 48 #[u] W (GivesOwnS (kset (keys cs)) W)) := Lib.hid fun W hb => bkeys_own u cs W (h.on hb) (by omega) hw
  have HW : Hid (∀ s W, Below w.heap.size w W → Calls Tryz.prog 31 #[u, .string (str s)] W (layI.Gives (places cs s) W)) := Lib.hid fun s W hb => bwrites_any u cs s W (h.on hb) (by omega) hw
  obtain ⟨pc, cc, rfl, -⟩ := id h
  obtain ⟨m, hm⟩ : ∃ m, m = cs.length := ⟨_, rfl⟩
  have HFl : Hid (wrS cs = (kset (keys cs)).filter (wkey cs)) := Lib.hid rfl
  have HKL : Hid ((kset (keys cs)).length ≤ 1000) := Lib.hid (by have h1 := kset_len (keys cs); unfold keys at h1; rw [List.length_map] at h1; unfold keys; omega)
  unfold GivesUse
  unfold GivesOwnS at HK
  rw [← hm] at HK HW ⊢
  generalize kset (keys cs) = ks at HK HFl HKL ⊢
  obtain ⟨nk, hnk⟩ : ∃ n, n = ks.length := ⟨_, rfl⟩
  have HNK := Lib.hid hnk
  have hnk1 : nk ≤ 1000 := by have := HKL.out; omega
  have U0 := Lib.hid (UB.start w a b q (.slice pd nd cd) (.slice pc m cc))
  clear h hl hw hm hnk
  go_enter Tryz.func25, Tryz.ntmps25
  go_wp2_with fail
  refine wp_region_held_drew (S := (fun X => X.cell? ⟨w.heap.size, 0, none⟩ = some (.int .i64 a) ∧ X.cell? ⟨w.heap.size, 1, none⟩ = some (.int .i64 b) ∧ X.cell? ⟨w.heap.size, 2, none⟩ = some (.int .i64 q) ∧ X.cell? ⟨w.heap.size, 3, none⟩ = some (.slice pd nd cd) ∧ X.cell? ⟨w.heap.size, 4, none⟩ = some (.slice pc m cc))) (by kernel_rfl) (U0.out.five) (fun hHeld => ?_)
  generalize ((w.alloc (.cells #[.int .i64 a, .int .i64 b, .int .i64 q, .slice pd nd cd, .slice pc m cc] 42)).alloc (.cells #[.int .i64 0, .int .i64 0, .int .i64 0, .slice none 0 0, .slice none 0 0, .slice none 0 0, .slice none 0 0] 68)).drew = Y0 at U0 hHeld ⊢
  refine ty (v := ?_) 0 (fun w hSw => ?_) ?_
  rotate_left
  · (try dsimp only at hSw); go_simp; (try with_reducible rfl)
  try simp only [List.getElem_toArray, List.getElem_cons_succ, List.getElem_cons_zero, Act.put, List.setIfInBounds_toArray, List.set_cons_zero, List.set_cons_succ]
  refine ty (v := ?_) 1 (fun w hSw => ?_) ?_
  rotate_left
  · (try dsimp only at hSw); go_simp; (try with_reducible rfl)
  try simp only [List.getElem_toArray, List.getElem_cons_succ, List.getElem_cons_zero, Act.put, List.setIfInBounds_toArray, List.set_cons_zero, List.set_cons_succ]
  refine ty (v := ?_) 2 (fun w hSw => ?_) ?_
  rotate_left
  · (try dsimp only at hSw); go_simp; (try with_reducible rfl)
  try simp only [List.getElem_toArray, List.getElem_cons_succ, List.getElem_cons_zero, Act.put, List.setIfInBounds_toArray, List.set_cons_zero, List.set_cons_succ]
  apply held_join3 (C := fun (gb : Nat) (pk : Option Addr) (ck : Nat) Y => Hid (UB w a b q (.slice pd nd cd) (.slice pc m cc) Y ∧ Y.heap[gb]? = some (.cells #[.int .i64 0, .int .i64 0, .int .i64 0, .slice none 0 0, .slice none 0 0, .slice none 0 0, .slice none 0 0] 68 (0, 0)) ∧ w.heap.size + 1 < gb ∧ OwnS Y w.heap.size (.slice pk nk ck) ks ∧ ∀ g, (Value.slice pk nk ck).ownBlock = some g → w.heap.size + 1 < g))
  case h1 =>
    intro tail
    refine wpAnyH_ready (rs := [3, 5]) (by kernel_rfl) (by simp) ?_
    refine AllReadyH.cons rfl (fun K hK => ?_) ?_
    · go_simp
      (go_at_call 48; ((with_reducible refine (HK.out _ U0.out.below).mono ?_); rintro E Y1 ⟨kv, rfl, ho, hb⟩; obtain ⟨pk, ck, rfl⟩ := own_shape ho; rw [← HNK.out] at ho ⊢; have HO1 := Lib.hid ho; have U1 := Lib.hid (U0.out.on hb); clear hb ho))
      refine hK.out _ _ ?_ (fun hHeld => ?_)
      · exact U1.out.five
      clear hK K
      try simp only [List.getElem_toArray, List.getElem_cons_succ, List.getElem_cons_zero, Act.put, List.setIfInBounds_toArray, List.set_cons_zero, List.set_cons_succ]
      have hHeld := U1.out.five
      refine ty (v := ?_) 4 (fun w hSw => ?_) ?_
      rotate_left
      · (try dsimp only at hSw); go_simp; (try with_reducible rfl)
      try simp only [List.getElem_toArray, List.getElem_cons_succ, List.getElem_cons_zero, Act.put, List.setIfInBounds_toArray, List.set_cons_zero, List.set_cons_succ]
      have hb2 := Lib.hid (Cmd.below_one Y1 (.cells #[.int .i64 0, .int .i64 0, .int .i64 0, .slice none 0 0, .slice none 0 0, .slice none 0 0, .slice none 0 0] 68))
      have U2 := Lib.hid (U1.out.on hb2.out)
      refine tr 5 (fun K hK => ?_)
      go_simp
      refine hK.out _ _ ?_ (fun hHeld => ?_)
      · exact U2.out.five
      clear hK K
      try simp only [List.getElem_toArray, List.getElem_cons_succ, List.getElem_cons_zero, Act.put, List.setIfInBounds_toArray, List.set_cons_zero, List.set_cons_succ]
      refine to_listed (L' := #[true, true, true, true, true, true, false]) (f' := 1) (by kernel_rfl) (by kernel_rfl) ?_
      have hC := Lib.hid (And.intro U2.out (And.intro (heap_alloc_new Y1 (.cells #[.int .i64 0, .int .i64 0, .int .i64 0, .slice none 0 0, .slice none 0 0, .slice none 0 0, .slice none 0 0] 68)) (And.intro U1.out.lt (And.intro (own_mono (own_below HO1.out hb2.out) U0.out.below.size) (fun g hg => Nat.lt_of_lt_of_le U0.out.lt (World.ownsRow.lt HO1.out g hg).1)))))
      generalize Y1.heap.size = gb at hC ⊢
      generalize Y1.alloc (.cells #[.int .i64 0, .int .i64 0, .int .i64 0, .slice none 0 0, .slice none 0 0, .slice none 0 0, .slice none 0 0] 68) = Y2 at hC ⊢
      exact tail _ _ _ _ hC
    refine AllReadyH.cons rfl (fun K hK => ?_) ?_
    · have hb2 := Lib.hid (Cmd.below_one Y0 (.cells #[.int .i64 0, .int .i64 0, .int .i64 0, .slice none 0 0, .slice none 0 0, .slice none 0 0, .slice none 0 0] 68))
      have U2 := Lib.hid (U0.out.on hb2.out)
      go_simp
      refine hK.out _ _ ?_ (fun hHeld => ?_)
      · exact U2.out.five
      clear hK K
      try simp only [List.getElem_toArray, List.getElem_cons_succ, List.getElem_cons_zero, Act.put, List.setIfInBounds_toArray, List.set_cons_zero, List.set_cons_succ]
      refine tr 3 (fun K hK => ?_)
      go_simp
      (go_at_call 48; ((with_reducible refine (HK.out _ U2.out.below).mono ?_); rintro E Y1 ⟨kv, rfl, ho, hb⟩; obtain ⟨pk, ck, rfl⟩ := own_shape ho; rw [← HNK.out] at ho ⊢; have HO1 := Lib.hid ho; have U1 := Lib.hid (U2.out.on hb); have HB1 := Lib.hid hb; clear hb ho))
      refine hK.out _ _ ?_ (fun hHeld => ?_)
      · exact U1.out.five
      clear hK K
      try simp only [List.getElem_toArray, List.getElem_cons_succ, List.getElem_cons_zero, Act.put, List.setIfInBounds_toArray, List.set_cons_zero, List.set_cons_succ]
      have hHeld := U1.out.five
      refine ty (v := ?_) 4 (fun w hSw => ?_) ?_
      rotate_left
      · (try dsimp only at hSw); go_simp; (try with_reducible rfl)
      try simp only [List.getElem_toArray, List.getElem_cons_succ, List.getElem_cons_zero, Act.put, List.setIfInBounds_toArray, List.set_cons_zero, List.set_cons_succ]
      refine to_listed (L' := #[true, true, true, true, true, true, false]) (f' := 1) (by kernel_rfl) (by kernel_rfl) ?_
      have hC := Lib.hid (And.intro U1.out (And.intro ((HB1.out.block _ (by simp)).trans (heap_alloc_new Y0 (.cells #[.int .i64 0, .int .i64 0, .int .i64 0, .slice none 0 0, .slice none 0 0, .slice none 0 0, .slice none 0 0] 68))) (And.intro U0.out.lt (And.intro (own_mono HO1.out U2.out.below.size) (fun g hg => Nat.lt_of_lt_of_le U2.out.lt (World.ownsRow.lt HO1.out g hg).1)))))
      generalize Y0.heap.size = gb at hC ⊢
      exact tail _ _ _ _ hC
    exact AllReadyH.nil
  intro gb pk ck Y1 hC
  have U1 := Lib.hid hC.out.1
  have hHeld := U1.out.five
  have G1 := hC.out.2.1
  have r0 := cell_row (i := 0) G1 rfl
  have r1 := cell_row (i := 1) G1 rfl
  have r2 := cell_row (i := 2) G1 rfl
  have r3 := cell_row (i := 3) G1 rfl
  have r4 := cell_row (i := 4) G1 rfl
  have r5 := cell_row (i := 5) G1 rfl
  have r6 := cell_row (i := 6) G1 rfl
  have f0 := free_row (i := 0) G1
  have f1 := free_row (i := 1) G1
  have f2 := free_row (i := 2) G1
  have f3 := free_row (i := 3) G1
  have f4 := free_row (i := 4) G1
  have f5 := free_row (i := 5) G1
  have f6 := free_row (i := 6) G1
  have L0 : Hid (UL w a b q (.slice pd nd cd) (.slice pc m cc) (.slice pk nk ck) ks gb (.slice none 0 0) [] (((((((Y1.setCell ⟨gb, 0, none⟩ (.int .i64 a)).setCell ⟨gb, 1, none⟩ (.int .i64 b)).setCell ⟨gb, 2, none⟩ (.int .i64 q)).setCell ⟨gb, 3, none⟩ (.slice pd nd cd)).setCell ⟨gb, 4, none⟩ (.slice pc m cc)).setCell ⟨gb, 5, none⟩ (.slice pk nk ck)).setCell ⟨gb, 6, none⟩ (.slice none 0 0))) := Lib.hid
    ⟨U1.out.grow (put7_grown _ _ _ _ _ _ _ _ _) (fun g e => by injection e with e; rw [← e]; exact hC.out.2.2.1), put7_row hC.out.2.1 _ _ _ _ _ _ _, hC.out.2.2.1, World.ownsRow.kept hC.out.2.2.2.1 (put7_grown _ _ _ _ _ _ _ _ _) (.inr (box_ne (xs := #[]) hC.out.2.1 hC.out.2.2.2.1 (by decide))), World.ownsRow_nil _ _ _ _, hC.out.2.2.2.2, (fun g e => by cases e), (fun g e => by cases e)⟩
  clear G1
  refine tr 6 (fun K hK => ?_)
  go_simp
  generalize ((((((Y1.setCell ⟨gb, 0, none⟩ (.int .i64 a)).setCell ⟨gb, 1, none⟩ (.int .i64 b)).setCell ⟨gb, 2, none⟩ (.int .i64 q)).setCell ⟨gb, 3, none⟩ (.slice pd nd cd)).setCell ⟨gb, 4, none⟩ (.slice pc m cc)).setCell ⟨gb, 5, none⟩ (.slice pk nk ck)).setCell ⟨gb, 6, none⟩ (.slice none 0 0) = Y7 at L0 ⊢
  refine hK.out _ _ ?_ (fun hHeld => ?_)
  · exact L0.out.ub.five
  clear hK K
  try simp only [List.getElem_toArray, List.getElem_cons_succ, List.getElem_cons_zero, Act.put, List.setIfInBounds_toArray, List.set_cons_zero, List.set_cons_succ]
  clear r0 r1 r2 r3 r4 r5 r6 f0 f1 f2 f3 f4 f5 f6 hHeld U1 hC U0
  refine wpAnyH_done (by kernel_rfl) ?_ _
  obtain ⟨d0, d1, d2, d3, d4, d5, d6⟩ := L0.out.seven
  go_wp2
  clear d0 d1 d2 d3 d4 d5 d6
  go_loopw [14] (fun i wr => ∃ (k : Nat) (pw : Option Addr) (nw cw : Nat), k ≤ nk ∧ i = .int .i64 k ∧ Hid (nw = ((ks.take k).filter (wkey cs)).length) ∧ Hid (UL w a b q (.slice pd nd cd) (.slice pc m cc) (.slice pk nk ck) ks gb (.slice pw nw cw) ((ks.take k).filter (wkey cs)) wr)) (fun i _ => nk - (intOf i).toNat)
  case atStart => exact ⟨0, none, 0, 0, Nat.zero_le _, rfl, Lib.hid rfl, L0⟩
  case round =>
    clear L0
    obtain ⟨k, pw, nw, cw, hk, rfl, HNW, HL⟩ := hrel
    have k0 : (0 : Int) ≤ k := by omega
    obtain ⟨d0, d1, d2, d3, d4, d5, d6⟩ := HL.out.seven
    obtain ⟨b0, b1, b2, b3, b4⟩ := HL.out.ub.five
    by_cases hkn : k < nk
    · have kn : (k : Int) < nk := by omega
      have hkx : k < ks.length := by rw [← HNK.out]; exact hkn
      obtain ⟨p', c', e', -, hd⟩ := (rowS HL.out.ko).parts
      have ep : pk = p' := by injection e'
      subst ep
      clear e'
      obtain ⟨B, o, rfl, I⟩ := hd.resolve_left (by omega)
      obtain ⟨s, hs⟩ : ∃ s, layS.at ks k = s := ⟨_, rfl⟩
      have a1 : wr.cell? ⟨B, o + k, none⟩ = some (.string (str s)) := cellS I.out hkx hs
      have HTK : Hid (ks.take (k + 1) = ks.take k ++ [s]) := Lib.hid (by rw [layS.take hkx, hs])
      have CW := Lib.hid (HW.out s wr HL.out.ub.below)
      have HWK : Hid (wkey cs s = decide (0 < (places cs s).length)) := Lib.hid rfl
      obtain ⟨np, hnp⟩ : ∃ n, n = (places cs s).length := ⟨_, rfl⟩
      rw [← hnp] at HWK
      have HNP := Lib.hid hnp
      have HLen : Hid (((ks.take k).filter (wkey cs)).length + 1 ≤ 1000000) := Lib.hid (by have h1 := List.length_filter_le (wkey cs) (ks.take k); rw [List.length_take] at h1; have := HKL.out; omega)
      clear hd I hs hkx hnp
      by_cases hp : 0 < np
      · have ip : (0 : Int) < np := by omega
        have HYes : Hid ((ks.take (k + 1)).filter (wkey cs) = (ks.take k).filter (wkey cs) ++ [s]) := Lib.hid (by rw [HTK.out, List.filter_append, List.filter_cons, HWK.out, decide_eq_true hp]; simp)
        generalize (ks.take k).filter (wkey cs) = ws at HNW HL HYes HLen
        go_wp2_with (first
          | (go_at_call 31; ((with_reducible refine CW.out.mono ?_); rintro E w1 ⟨pv, rfl, hr, hb⟩; obtain ⟨pp, cp, rfl, -⟩ := hr; rw [← HNP.out]; have HL1 := Lib.hid (HL.out.on hb); obtain ⟨g0, g1, g2, g3, g4, g5, g6⟩ := HL1.out.seven; have HB2 := Lib.hid (Cmd.below_one w1 (.cells #[.string (str s)] 9)); have HL2 := Lib.hid (HL1.out.on HB2.out); have HA := Lib.hid (grow_wd wtTx (w1.alloc (.cells #[.string (str s)] 9)) 66 w.heap.size (.slice pw nw cw) ws (OwnS.tx HL2.out.wo) HL2.out.ub.below.size w1.heap.size s #[.string (str s)] rfl (heap_alloc_new w1 _) HLen.out); clear hb))
          | (at_builtin; refine wp_app rfl _ _ 66 rfl _ _ rfl rfl HA.out ?_; intro v8 w8 HV8; obtain ⟨p8, c8, rfl⟩ := own_shape HV8.out.1; obtain ⟨n8, hn8⟩ : ∃ n, n = (ws ++ [s]).length := ⟨_, rfl⟩; rw [← hn8] at HV8 ⊢; have HN8 := Lib.hid hn8; clear hn8; have HP8 := Lib.hid (HL2.out.put (s := s) (OwnS.of HV8.out.1) HV8.out.2.1 HV8.out.2.2); have h8 : w8.heap[gb]? = some (.cells #[.int .i64 a, .int .i64 b, .int .i64 q, .slice pd nd cd, .slice pc m cc, .slice (some ⟨B, o, none⟩) nk ck, .slice pw nw cw] 68 (0, 0)) := (HV8.out.2.1.block _ (Array.getElem?_eq_some_iff.1 HL2.out.use).1 (fun e => box_ne (xs := #[]) HL2.out.use HL2.out.wo (by decide) e.symm)).trans HL2.out.use; have h86 := cell_row (i := 6) h8 rfl; have f86 := free_row (i := 6) h8; clear h8))
        go_roundw
        case rel => exact ⟨k + 1, p8, n8, c8, by omega, by go_num, Lib.hid (by rw [HYes.out]; exact HN8.out), Lib.hid (by rw [HYes.out]; exact HP8.out)⟩
        case measure => simp [intOf]; omega
      · have ip : ¬ (0 : Int) < np := by omega
        have HNo : Hid ((ks.take (k + 1)).filter (wkey cs) = (ks.take k).filter (wkey cs)) := Lib.hid (by rw [HTK.out, List.filter_append, List.filter_cons, HWK.out, decide_eq_false hp]; simp)
        go_wp2_with (first
          | (go_at_call 31; ((with_reducible refine CW.out.mono ?_); rintro E w1 ⟨pv, rfl, hr, hb⟩; obtain ⟨pp, cp, rfl, -⟩ := hr; rw [← HNP.out]; have HL1 := Lib.hid (HL.out.on hb); clear hb)))
        go_roundw
        case rel => exact ⟨k + 1, pw, nw, cw, by omega, by go_num, Lib.hid (by rw [HNo.out]; exact HNW.out), Lib.hid (by rw [HNo.out]; exact HL1.out)⟩
        case measure => simp [intOf]; omega
    · obtain rfl : k = nk := by omega
      have kn : ¬ (k : Int) < k := by omega
      have HEnd : Hid ((ks.take k).filter (wkey cs) = wrS cs) := Lib.hid (by rw [HNK.out, List.take_length]; exact HFl.out.symm)
      rw [HEnd.out] at HNW HL
      obtain rfl := HNW.out
      have G1 := HL.out.ub.res
      have r0 := cell_row (i := 0) G1 rfl
      have r1 := cell_row (i := 1) G1 rfl
      have r2 := cell_row (i := 2) G1 rfl
      have r3 := cell_row (i := 3) G1 rfl
      have r4 := cell_row (i := 4) G1 rfl
      have r5 := cell_row (i := 5) G1 rfl
      have r6 := cell_row (i := 6) G1 rfl
      have f0 := free_row (i := 0) G1
      have f1 := free_row (i := 1) G1
      have f2 := free_row (i := 2) G1
      have f3 := free_row (i := 3) G1
      have f4 := free_row (i := 4) G1
      have f5 := free_row (i := 5) G1
      have f6 := free_row (i := 6) G1
      clear G1
      go_wp2_with fail
      (try simp only [Exit.inBlock, Exit.then])
      refine bodyPost_ret (v := .agg #[.int .i64 a, .int .i64 b, .int .i64 q, .slice pd nd cd, .slice pc m cc, .slice pk k ck, .slice pw (wrS cs).length cw]) ?_ rfl ?_
      · exact use_one rfl _ rfl (put7_row HL.out.ub.res _ _ _ _ _ _ _)
      have hg := put7_grown wr (w.heap.size + 1) (.int .i64 a) (.int .i64 b) (.int .i64 q) (.slice pd nd cd) (.slice pc m cc) (.slice pk k ck) (.slice pw (wrS cs).length cw)
      rw [← HNK.out]
      exact ⟨pk, ck, pw, cw, rfl, by have h1 := HL.out.ko; exact World.ownsRow.kept h1 hg (.inr (box_ne (xs := #[]) HL.out.ub.res h1 (by decide))), World.ownsRow.kept HL.out.wo hg (.inr (box_ne (xs := #[]) HL.out.ub.res HL.out.wo (by decide))), Below.grown HL.out.ub.below hg HL.out.ub.below.size (fun g e => by injection e with e; omega)⟩
end Go.Proofs.YtomidcbpnaajeaaGreat.Pre
