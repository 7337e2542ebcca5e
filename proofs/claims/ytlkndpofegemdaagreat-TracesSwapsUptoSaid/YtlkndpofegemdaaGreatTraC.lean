/- What the document's Places gives (layer 19, traces). Conditions: the lists lie in memory as their cells say; at most 1000 lists in each. -/
import Derived.Test.YtlkndpofegemdaaGreatTraA
import Derived.Test.YtlkndpofegemdaaGreatReg
import Derived.Test.YtlkndpofegemdaaGreatApp
import Derived.Deep.DeepCutAuto
import Derived.Deep.QuietTactic
namespace Go.Proofs.YtlkndpofegemdaaGreat.Tra
open Go.RowKit Cmd Bat Ids Rec Wid Gra Rea Cps
set_option linter.unusedVariables false
set_option linter.unusedSimpArgs false

/-- What has been found of a list among the places from k on. -/
def Past (a : List (List Idn)) (ps : List Nat) (c : List Idn) (k : Nat) (at' : Int) : Prop :=
  (at' = -1 ∧ ∀ j, k ≤ j → j < a.length → j ∈ ps ∨ nthL a j ≠ c) ∨ ∃ j : Nat, at' = j ∧ k ≤ j ∧ j < a.length ∧ j ∉ ps ∧ nthL a j = c ∧ ∀ i, k ≤ i → i < j → i ∈ ps ∨ nthL a i ≠ c
theorem Past.start (a : List (List Idn)) (ps : List Nat) (c : List Idn) : Past a ps c a.length (-1) := .inl ⟨rfl, fun j h1 h2 => absurd h2 (by omega)⟩
theorem Past.skip {a : List (List Idn)} {ps : List Nat} {c : List Idn} {k : Nat} {t : Int} (h : Past a ps c (k + 1) t) (hk : k ∈ ps ∨ nthL a k ≠ c) : Past a ps c k t := by
  rcases h with ⟨rfl, h⟩ | ⟨j, rfl, h1, h2, h3, h4, h5⟩
  · exact .inl ⟨rfl, fun j h1 h2 => by
      by_cases e : j = k
      · rw [e]; exact hk
      · exact h j (by omega) h2⟩
  · exact .inr ⟨j, rfl, by omega, h2, h3, h4, fun i h6 h7 => by
      by_cases e : i = k
      · rw [e]; exact hk
      · exact h5 i (by omega) h7⟩
theorem Past.take {a : List (List Idn)} {ps : List Nat} {c : List Idn} {k : Nat} (hk : k < a.length) (h1 : k ∉ ps) (h2 : nthL a k = c) : Past a ps c k k := .inr ⟨k, rfl, Nat.le_refl _, hk, h1, h2, fun i h3 h4 => absurd h4 (by omega)⟩
theorem Past.end {a : List (List Idn)} {ps : List Nat} {c : List Idn} {t : Int} (h : Past a ps c 0 t) : (t = -1 ∧ firstAt a ps c = none) ∨ ∃ j : Nat, t = j ∧ j < a.length ∧ j ∉ ps ∧ firstAt a ps c = some j := by
  rcases h with ⟨rfl, h⟩ | ⟨j, rfl, h1, h2, h3, h4, h5⟩
  · exact .inl ⟨rfl, first_no fun j hj => h j (Nat.zero_le _) hj⟩
  · exact .inr ⟨j, rfl, h2, h3, first_is h2 h3 h4 fun i hi => h5 i (Nat.zero_le _) hi⟩
def GivesPlaces (a b : List (List Idn)) (w : World) : Ending → World → Prop := fun e w' => ∃ o ok, e = .returned (.tuple #[o, .bool ok]) ∧ Below w.heap.size w w' ∧ (ok = true → ∃ ps, placesG a b = some ps ∧ wdN.Own 3 w' w.heap.size o ps) ∧ (ok = false → placesG a b = none)
theorem held_join2 {P : Value → Nat → World → Prop} {C : Value → Nat → World → Prop} {Q : Prop} (h1 : (∀ o u Y, C o u Y → P o u Y) → Q) (h2 : ∀ o u Y, C o u Y → P o u Y) : Q := h1 h2
set_option maxRecDepth 100000 in
set_option maxHeartbeats 8000000 in
theorem refplaces_any (v u : Value) (a b : List (List Idn)) (w : World) (h : layLL.Row w v a) (g : layLL.Row w u b) (ha : a.length ≤ 1000) (hb : b.length ≤ 1000) :
    Calls Tryz.prog 25 #[v, u] w (GivesPlaces a b w) := by
  obtain ⟨i0, hi, hz0, hz1, hz2⟩ := info_parts (show (Tryz.prog.info? 4).map (fun i => (i.zero, i.size, i.bytes)) = some (some (.bool false), 1, 1) by kernel_rfl)
  obtain ⟨p, cap, rfl, h1, hd⟩ := h.parts
  obtain ⟨q, cap', rfl, g1, hd'⟩ := g.parts
  obtain ⟨n, hn⟩ : ∃ n, n = a.length := ⟨_, rfl⟩
  obtain ⟨m, hm⟩ : ∃ m, m = b.length := ⟨_, rfl⟩
  rw [← hn] at h1 hd ha
  rw [← hm] at g1 hd' hb
  have HN := Lib.hid hn
  have HM := Lib.hid hm
  clear h g hn hm
  rw [show a.length = n from HN.out.symm, show b.length = m from HM.out.symm]
  obtain ⟨M, hM⟩ : ∃ M, M = madeCells (Value.bool false).cells (n * 1) := ⟨_, rfl⟩
  have HML : Hid (M.size = n ∧ M.toList = U n []) := Lib.hid (by
    refine ⟨by rw [hM, size_madeCells, Nat.mul_one], ?_⟩
    rw [hM]
    refine List.ext_getElem? fun j => ?_
    by_cases hj : j < n
    · rw [u_at _ hj]
      simp [madeCells, hj, Value.cells, Nat.mod_one]
    · rw [List.getElem?_eq_none (by rw [Array.length_toList, size_madeCells]; omega), List.getElem?_eq_none (by rw [u_len]; omega)])
  have hmk : ∀ W, (Instr.makeSlice 93 (.int .i64 (n : Int)) (.int .i64 (n : Int))).run Tryz.prog W = .ok (.slice (some ⟨W.heap.size, 0, none⟩) n n) (W.alloc (.cells M 4)) := fun W => by
    have := run_make (P := Tryz.prog) W 93 4 i0 _ Tryz.underlying93 hi hz0 .i64 .i64 n n (by omega) (by omega) (by rw [hz2]; omega) (by omega)
    rw [Int.toNat_natCast, hz1, ← hM] at this
    exact this
  have HMade : Hid (∀ W : World, w.heap.size ≤ W.heap.size → OwnB (W.alloc (.cells M 4)) w.heap.size W.heap.size n []) := Lib.hid fun W hw =>
    ⟨by rw [u_len, Nat.mul_one], .inr ⟨W.heap.size, n, M, rfl, hw, heap_alloc_new _ _, Nat.le_refl _, by unfold maxLen; omega, by rw [HML.out.1, Nat.mul_one], by rw [HML.out.2, List.take_of_length_le (by rw [u_len, Nat.mul_one]; exact Nat.le_refl _)]⟩⟩
  clear hM HML hi hz0 hz1 hz2
  go_enter Tryz.func25, Tryz.ntmps25
  have DY0 : Hid (Below w.heap.size w w.drew) := Lib.hid (Below.refl _ _).drew
  go_wp2_with fail
  refine wp_region_held_drew (S := (fun _ => True)) (by kernel_rfl) trivial (fun hHeld => ?_)
  generalize w.drew = Y0 at DY0 hHeld ⊢
  refine ty (v := ?_) 1 (fun w hSw => ?_) ?_
  rotate_left
  · (try dsimp only at hSw); go_simp; (try with_reducible rfl)
  try simp only [List.getElem_toArray, List.getElem_cons_succ, List.getElem_cons_zero, Act.put, List.setIfInBounds_toArray, List.set_cons_zero, List.set_cons_succ]
  refine ty (v := ?_) 2 (fun w hSw => ?_) ?_
  rotate_left
  · (try dsimp only at hSw); go_simp; (try with_reducible rfl)
  try simp only [List.getElem_toArray, List.getElem_cons_succ, List.getElem_cons_zero, Act.put, List.setIfInBounds_toArray, List.set_cons_zero, List.set_cons_succ]
  apply held_join2 (C := fun o u Y => Hid (Below w.heap.size w Y ∧ wdN.Own 3 Y w.heap.size o [] ∧ OwnB Y w.heap.size u n []))
  case h1 =>
    intro tail
    refine wpAnyH_ready (rs := [0, 3]) (by kernel_rfl) (by simp) ?_
    refine AllReadyH.cons rfl (fun K hK => ?_) ?_
    · go_simp
      have DY1 := Lib.hid (DY0.out.trans ((Cmd.below_one Y0 (.cells #[] 3)).mono DY0.out.size))
      have RO := Lib.hid (Wd.Own.made (D := wdN) 3 Y0 DY0.out.size)
      refine hK.out _ _ ?_ (fun hHeld => ?_)
      · trivial
      clear hK K
      generalize Y0.alloc (.cells #[] 3) = Y1 at DY1 RO hHeld ⊢
      try simp only [List.getElem_toArray, List.getElem_cons_succ, List.getElem_cons_zero, Act.put, List.setIfInBounds_toArray, List.set_cons_zero, List.set_cons_succ]
      refine ty (v := ?_) 4 (fun w hSw => ?_) ?_
      rotate_left
      · (try dsimp only at hSw); go_simp; (try with_reducible rfl)
      try simp only [List.getElem_toArray, List.getElem_cons_succ, List.getElem_cons_zero, Act.put, List.setIfInBounds_toArray, List.set_cons_zero, List.set_cons_succ]
      refine tr 3 (fun K hK => ?_)
      go_simp
      have DY2 := Lib.hid (DY1.out.trans ((Cmd.below_one Y1 (.cells M 4)).mono DY1.out.size))
      have RU := Lib.hid (HMade.out Y1 DY1.out.size)
      have RO := Lib.hid (RO.out.below (Cmd.below_one Y1 (.cells M 4)))
      refine hK.out _ _ ?_ (fun hHeld => ?_)
      · trivial
      clear hK K
      generalize Y1.alloc (.cells M 4) = Y2 at DY2 RO RU hHeld ⊢
      try simp only [List.getElem_toArray, List.getElem_cons_succ, List.getElem_cons_zero, Act.put, List.setIfInBounds_toArray, List.set_cons_zero, List.set_cons_succ]
      have hc : Hid (Below w.heap.size w Y2 ∧ wdN.Own 3 Y2 w.heap.size (.slice (some ⟨Y0.heap.size, 0, none⟩) 0 0) [] ∧ OwnB Y2 w.heap.size Y1.heap.size n []) := Lib.hid ⟨DY2.out, RO.out, RU.out⟩
      refine to_listed (L' := #[true, true, true, true, true, false]) (f' := 1) (by kernel_rfl) (by kernel_rfl) ?_
      generalize (Value.slice (some ⟨Y0.heap.size, 0, none⟩) 0 0) = uo at hc ⊢
      generalize Y1.heap.size = ub at hc ⊢
      exact tail uo ub Y2 hc
    refine AllReadyH.cons rfl (fun K hK => ?_) ?_
    · go_simp
      have DY1 := Lib.hid (DY0.out.trans ((Cmd.below_one Y0 (.cells M 4)).mono DY0.out.size))
      have RU := Lib.hid (HMade.out Y0 DY0.out.size)
      refine hK.out _ _ ?_ (fun hHeld => ?_)
      · trivial
      clear hK K
      generalize Y0.alloc (.cells M 4) = Y1 at DY1 RU hHeld ⊢
      try simp only [List.getElem_toArray, List.getElem_cons_succ, List.getElem_cons_zero, Act.put, List.setIfInBounds_toArray, List.set_cons_zero, List.set_cons_succ]
      refine tr 0 (fun K hK => ?_)
      go_simp
      have DY2 := Lib.hid (DY1.out.trans ((Cmd.below_one Y1 (.cells #[] 3)).mono DY1.out.size))
      have RO := Lib.hid (Wd.Own.made (D := wdN) 3 Y1 DY1.out.size)
      have RU : Hid (OwnB (Y1.alloc (.cells #[] 3)) w.heap.size Y0.heap.size n []) := Lib.hid (own_below RU.out (Cmd.below_one Y1 (.cells #[] 3)))
      refine hK.out _ _ ?_ (fun hHeld => ?_)
      · trivial
      clear hK K
      generalize Y1.alloc (.cells #[] 3) = Y2 at DY2 RO RU hHeld ⊢
      try simp only [List.getElem_toArray, List.getElem_cons_succ, List.getElem_cons_zero, Act.put, List.setIfInBounds_toArray, List.set_cons_zero, List.set_cons_succ]
      refine ty (v := ?_) 4 (fun w hSw => ?_) ?_
      rotate_left
      · (try dsimp only at hSw); go_simp; (try with_reducible rfl)
      try simp only [List.getElem_toArray, List.getElem_cons_succ, List.getElem_cons_zero, Act.put, List.setIfInBounds_toArray, List.set_cons_zero, List.set_cons_succ]
      have hc : Hid (Below w.heap.size w Y2 ∧ wdN.Own 3 Y2 w.heap.size (.slice (some ⟨Y1.heap.size, 0, none⟩) 0 0) [] ∧ OwnB Y2 w.heap.size Y0.heap.size n []) := Lib.hid ⟨DY2.out, RO.out, RU.out⟩
      refine to_listed (L' := #[true, true, true, true, true, false]) (f' := 1) (by kernel_rfl) (by kernel_rfl) ?_
      generalize (Value.slice (some ⟨Y1.heap.size, 0, none⟩) 0 0) = uo at hc ⊢
      generalize Y0.heap.size = ub at hc ⊢
      exact tail uo ub Y2 hc
    exact AllReadyH.nil
  intro uo ub Y9 hc
  have hHeld : (fun _ => True) Y9 := trivial
  refine ty (v := ?_) 5 (fun w hSw => ?_) ?_
  rotate_left
  · (try dsimp only at hSw); go_simp; (try with_reducible rfl)
  try simp only [List.getElem_toArray, List.getElem_cons_succ, List.getElem_cons_zero, Act.put, List.setIfInBounds_toArray, List.set_cons_zero, List.set_cons_succ]
  refine wpAnyH_done (by kernel_rfl) ?_ _
  have DB := Lib.hid hc.out.1
  have DO := Lib.hid hc.out.2.1
  have DU := Lib.hid hc.out.2.2
  clear hc DY0 hHeld HMade hmk
  go_wp2
  go_loopw [6, 8] (fun o i W => ∃ (k : Nat) (ps : List Nat), k ≤ m ∧ i = .int .i64 k ∧ Hid (placesN a (b.drop k) ps = placesN a b []) ∧ Hid (ps.length = k) ∧ Hid (Below w.heap.size w W) ∧ Hid (wdN.Own 3 W w.heap.size o ps) ∧ Hid (OwnB W w.heap.size ub n ps)) (fun _ i _ => m - (intOf i).toNat)
  case atStart => exact ⟨0, [], Nat.zero_le _, rfl, Lib.hid rfl, Lib.hid rfl, DB, DO, DU⟩
  case round =>
    clear DB DO DU
    obtain ⟨k, ps, hk, rfl, HP, HPL, HB, HO, HU⟩ := hrel
    have k0 : (0 : Int) ≤ k := by omega
    by_cases hkm : k < m
    · have km : (k : Int) < m := by omega
      obtain ⟨BB, offB, rfl, HCB⟩ := hd'.resolve_left (by omega)
      have hkb : k < b.length := by rw [← HM.out]; exact hkm
      obtain ⟨p2, c2, eb, rb⟩ := llAt (HCB.out.on HB.out) hkb
      have HLB := Lib.hid (HCB.out.on HB.out).lt
      have HRB := Lib.hid rb
      have HEB := Lib.hid eb
      have HKB := Lib.hid hkb
      change Hid (RowAt _ (Value.slice p2 (nthL b k).length c2) (nthL b k)) at HRB
      change Hid (_ = some (Value.slice p2 (nthL b k).length c2)) at HEB
      generalize hl2 : (nthL b k).length = l2 at HRB HEB
      clear eb rb hd' hkb hl2
      obtain ⟨wq, hwq⟩ : ∃ wq, wq = wr := ⟨_, rfl⟩
      subst hwq
      go_wp2
      go_loopw [9, 10] (fun t kk W => ∃ (r : Nat) (at' : Int), r ≤ n ∧ kk = .int .i64 ((r : Int) - 1) ∧ t = .int .i64 at' ∧ Hid (Past a ps (nthL b k) r at') ∧ Hid (Below wq.heap.size wq W)) (fun _ kk _ => (intOf kk + 1).toNat)
      case atStart => exact ⟨n, -1, Nat.le_refl _, rfl, rfl, Lib.hid (by have := Past.start a ps (nthL b k); rw [← HN.out] at this; exact this), Lib.hid (Below.refl _ _)⟩
      case round =>
        obtain ⟨r, t, hr, hkk, rfl, HT, HB2⟩ := hrel
        rcases Nat.eq_zero_or_pos r with h0 | h0
        · subst h0
          obtain rfl := hkk.trans (show Value.int .i64 (((0 : Nat) : Int) - 1) = .int .i64 (-1) from rfl)
          have n2 : ¬ ((0 : Int) ≤ -1) := by decide
          have HB3 := Lib.hid (HB.out.trans (HB2.out.mono HB.out.size))
          rcases HT.out.end with ⟨rfl, hno⟩ | ⟨j, rfl, hj, hjp, hyes⟩
          · have HNO : Hid (placesG a b = none) := Lib.hid (by
              have := HP.out
              rw [places_no HKB.out hno] at this
              unfold placesG
              rw [← this]; split <;> rfl)
            clear hno
            go_wp2
            go_ret2
            exact ⟨_, _, rfl, HB3.out, fun h => (by cases h), fun _ => HNO.out⟩
          · have HPJ : Hid (placesN a (b.drop (k + 1)) (ps ++ [j]) = placesN a b []) := Lib.hid ((places_yes HKB.out hyes).symm.trans HP.out)
            have HJ := Lib.hid hj
            have jn : (j : Int) < n := by rw [HN.out]; omega
            have jn' : j < n := by omega
            have j0 : (0 : Int) ≤ j := by omega
            have hu := own_below HU.out HB2.out
            have ho := HO.out.below HB2.out
            have HU2 := Lib.hid hu
            have HO2 := Lib.hid ho
            have q1 := ob_cell HU2.out jn'
            have q2 := ob_free (k := j) HU2.out
            have HUS := Lib.hid (World.ownsRow.stored HU2.out j (.bool true))
            have HU3 : Hid (OwnB (wr.setCell ⟨ub, j, none⟩ (.bool true)) w.heap.size ub n (ps ++ [j])) := Lib.hid (by have := HUS.out.1; rw [u_set ps jn'] at this; exact this)
            have HO3 : Hid (wdN.Own 3 (wr.setCell ⟨ub, j, none⟩ (.bool true)) w.heap.size u6 ps) := Lib.hid (World.ownsRow.kept HO2.out HUS.out.2 (two_rows (by decide) HO2.out HU2.out))
            have HUB : Hid (w.heap.size ≤ ub) := Lib.hid (World.ownsRow.lt HU2.out ub rfl).1
            have HB4 : Hid (Below w.heap.size w (wr.setCell ⟨ub, j, none⟩ (.bool true))) := Lib.hid (HB3.out.setCell (p := ⟨ub, j, none⟩) HUB.out _)
            have HSZ : Hid (w.heap.size ≤ (wr.setCell ⟨ub, j, none⟩ (.bool true)).heap.size) := Lib.hid HB4.out.size
            have HLN : Hid (ps.length + 1 ≤ 1000000) := Lib.hid (by rw [HPL.out]; omega)
            have hsz : (wr.setCell ⟨ub, j, none⟩ (.bool true)).heap.size = wr.heap.size := size_sc _ _ _
            clear hj hjp hyes hu ho HU2 HO2 HUS HU HO HT HP
            obtain ⟨w1, hw1⟩ : ∃ w1, w1 = wr.setCell ⟨ub, j, none⟩ (.bool true) := ⟨_, rfl⟩
            rw [← hw1] at HU3 HO3 HB4 HSZ hsz
            have HU4 := Lib.hid (own_below HU3.out (Cmd.below_one w1 (.cells #[.int .i64 (j : Int)] 3)))
            have HO4 := Lib.hid (HO3.out.below (Cmd.below_one w1 (.cells #[.int .i64 (j : Int)] 3)))
            have HB5 := Lib.hid (HB4.out.trans ((Cmd.below_one w1 (.cells #[.int .i64 (j : Int)] 3)).mono HB4.out.size))
            have HA := Lib.hid (grow_wd wtN (w1.alloc (.cells #[.int .i64 (j : Int)] 3)) 58 w.heap.size u6 ps HO4.out HB5.out.size w1.heap.size j #[.int .i64 (j : Int)] rfl (heap_alloc_new _ _) HLN.out)
            rw [hsz, hw1] at HA
            rw [hw1] at HU4 HO4 HB5
            clear HU3 HO3 HB4 hsz HSZ hw1 HB2 HB3 HEB HRB w1
            go_wp2_with (at_builtin; refine wp_app rfl _ _ 58 rfl _ _ rfl rfl HA.out ?_; intro v8 w8 HV8)
            go_roundw
            case rel => exact ⟨k + 1, ps ++ [j], by omega, by go_num, HPJ, Lib.hid (by rw [List.length_append, List.length_singleton, HPL.out]), Lib.hid (Bat.below_grown HB5.out (Nat.le_refl _) HO4.out HB5.out.size HV8.out.2.1), Lib.hid HV8.out.1, Lib.hid (World.ownsRow.kept HU4.out HV8.out.2.1 (two_rows (by decide) HU4.out HO4.out))⟩
            case measure => simp [intOf]; omega
        · obtain ⟨s, rfl⟩ : ∃ s, r = s + 1 := ⟨r - 1, by omega⟩
          rw [show ((s + 1 : Nat) : Int) - 1 = (s : Int) by omega] at hkk
          subst hkk
          have s0 : (0 : Int) ≤ s := by omega
          have sn : (s : Int) < n := by omega
          have sn' : s < n := by omega
          have hsa : s < a.length := by rw [← HN.out]; exact sn'
          obtain ⟨BA, offA, rfl, HCA⟩ := hd.resolve_left (by omega)
          obtain ⟨p1, c1, e1, r1⟩ := llAt HCA.out hsa
          change RowAt _ (Value.slice p1 (nthL a s).length c1) (nthL a s) at r1
          change _ = some (Value.slice p1 (nthL a s).length c1) at e1
          generalize hl1 : (nthL a s).length = l1 at r1 e1
          have HE1 := Lib.hid e1
          have HR1 := Lib.hid r1
          have HLA := Lib.hid HCA.out.lt
          have HS : Hid (∀ w', Below wr.heap.size wr w' → w'.cell? ⟨ub, 0 + s, none⟩ = some (.bool (decide (s ∈ ps))) ∧ w'.cell? ⟨ub, s, none⟩ = some (.bool (decide (s ∈ ps))) ∧ w'.cell? ⟨BA, offA + s, none⟩ = some (.slice p1 l1 c1) ∧ w'.cell? ⟨BB, offB + k, none⟩ = some (.slice p2 l2 c2)) := Lib.hid fun w' hw => by
            have hq := HB2.out.trans (hw.mono HB2.out.size)
            have hw0 := HB.out.trans (hq.mono HB.out.size)
            have := ob_cell (own_below HU.out hq) sn'
            exact ⟨by rw [Nat.zero_add]; exact this, this, (hw0.cell (p := ⟨BA, offA + s, none⟩) HLA.out).trans HE1.out, (hq.cell (p := ⟨BB, offB + k, none⟩) HLB.out).trans HEB.out⟩
          have HSm : Hid (∀ W, Below wr.heap.size wr W → Calls Tryz.prog 28 #[.slice p1 l1 c1, .slice p2 l2 c2] W (fun e w' => e = .returned (.bool (decide (nthL a s = nthL b k))) ∧ Below W.heap.size W w')) := Lib.hid fun W hw => by
            have hq := HB2.out.trans (hw.mono HB2.out.size)
            exact Ids.same_any _ _ _ _ W (HR1.out.on (HB.out.trans (hq.mono HB.out.size))) (HRB.out.on hq)
          have HSK : Hid ((s ∈ ps ∨ nthL a s ≠ nthL b k) → Past a ps (nthL b k) s t) := Lib.hid fun h => HT.out.skip h
          have HTK : Hid (s ∉ ps → nthL a s = nthL b k → Past a ps (nthL b k) s s) := Lib.hid fun h h' => Past.take hsa h h'
          have DY0 : Hid (Below wr.heap.size wr wr.drew) := Lib.hid (Below.refl _ _).drew
          clear hd hl1 e1 r1 hsa
          by_cases htk : s ∈ ps
          · rw [decide_eq_true htk] at HS
            have HT2 := Lib.hid (HSK.out (.inl htk))
            clear HSK HTK htk
            go_wp2_with fail
            refine wp_region_held_drew (S := (fun w' => w'.cell? ⟨ub, 0 + s, none⟩ = some (.bool true) ∧ w'.cell? ⟨ub, s, none⟩ = some (.bool true) ∧ w'.cell? ⟨BA, offA + s, none⟩ = some (.slice p1 l1 c1) ∧ w'.cell? ⟨BB, offB + k, none⟩ = some (.slice p2 l2 c2))) (by kernel_rfl) (HS.out _ DY0.out) (fun hHeld => ?_)
            generalize wr.drew = Y0 at DY0 hHeld ⊢
            refine ty (v := ?_) 0 (fun w hSw => ?_) ?_
            rotate_left
            · (try dsimp only at hSw); go_simp; (try with_reducible rfl)
            try simp only [List.getElem_toArray, List.getElem_cons_succ, List.getElem_cons_zero, Act.put, List.setIfInBounds_toArray, List.set_cons_zero, List.set_cons_succ]
            refine ty (v := ?_) 1 (fun w hSw => ?_) ?_
            rotate_left
            · (try dsimp only at hSw); go_simp; (try with_reducible rfl)
            try simp only [List.getElem_toArray, List.getElem_cons_succ, List.getElem_cons_zero, Act.put, List.setIfInBounds_toArray, List.set_cons_zero, List.set_cons_succ]
            refine ty (v := ?_) 2 (fun w hSw => ?_) ?_
            rotate_left
            · (try dsimp only at hSw); go_simp; (try with_reducible rfl)
            try simp only [List.getElem_toArray, List.getElem_cons_succ, List.getElem_cons_zero, Act.put, List.setIfInBounds_toArray, List.set_cons_zero, List.set_cons_succ]
            refine ty (v := ?_) 3 (fun w hSw => ?_) ?_
            rotate_left
            · (try dsimp only at hSw); go_simp; (try with_reducible rfl)
            try simp only [List.getElem_toArray, List.getElem_cons_succ, List.getElem_cons_zero, Act.put, List.setIfInBounds_toArray, List.set_cons_zero, List.set_cons_succ]
            refine ty (v := ?_) 4 (fun w hSw => ?_) ?_
            rotate_left
            · (try dsimp only at hSw); go_simp; (try with_reducible rfl)
            try simp only [List.getElem_toArray, List.getElem_cons_succ, List.getElem_cons_zero, Act.put, List.setIfInBounds_toArray, List.set_cons_zero, List.set_cons_succ]
            refine ty (v := ?_) 5 (fun w hSw => ?_) ?_
            rotate_left
            · (try dsimp only at hSw); go_simp; (try with_reducible rfl)
            try simp only [List.getElem_toArray, List.getElem_cons_succ, List.getElem_cons_zero, Act.put, List.setIfInBounds_toArray, List.set_cons_zero, List.set_cons_succ]
            refine ts 6 ?_
            try simp only [List.getElem_toArray, List.getElem_cons_succ, List.getElem_cons_zero, Act.put, List.setIfInBounds_toArray, List.set_cons_zero, List.set_cons_succ]
            refine ts 7 ?_
            try simp only [List.getElem_toArray, List.getElem_cons_succ, List.getElem_cons_zero, Act.put, List.setIfInBounds_toArray, List.set_cons_zero, List.set_cons_succ]
            refine ts 8 ?_
            try simp only [List.getElem_toArray, List.getElem_cons_succ, List.getElem_cons_zero, Act.put, List.setIfInBounds_toArray, List.set_cons_zero, List.set_cons_succ]
            refine ts 9 ?_
            try simp only [List.getElem_toArray, List.getElem_cons_succ, List.getElem_cons_zero, Act.put, List.setIfInBounds_toArray, List.set_cons_zero, List.set_cons_succ]
            refine ts 10 ?_
            try simp only [List.getElem_toArray, List.getElem_cons_succ, List.getElem_cons_zero, Act.put, List.setIfInBounds_toArray, List.set_cons_zero, List.set_cons_succ]
            refine ts 11 ?_
            try simp only [List.getElem_toArray, List.getElem_cons_succ, List.getElem_cons_zero, Act.put, List.setIfInBounds_toArray, List.set_cons_zero, List.set_cons_succ]
            refine ts 12 ?_
            try simp only [List.getElem_toArray, List.getElem_cons_succ, List.getElem_cons_zero, Act.put, List.setIfInBounds_toArray, List.set_cons_zero, List.set_cons_succ]
            refine ts 13 ?_
            try simp only [List.getElem_toArray, List.getElem_cons_succ, List.getElem_cons_zero, Act.put, List.setIfInBounds_toArray, List.set_cons_zero, List.set_cons_succ]
            refine ts 14 ?_
            try simp only [List.getElem_toArray, List.getElem_cons_succ, List.getElem_cons_zero, Act.put, List.setIfInBounds_toArray, List.set_cons_zero, List.set_cons_succ]
            refine ty (v := ?_) 15 (fun w hSw => ?_) ?_
            rotate_left
            · (try dsimp only at hSw); go_simp; (try with_reducible rfl)
            try simp only [List.getElem_toArray, List.getElem_cons_succ, List.getElem_cons_zero, Act.put, List.setIfInBounds_toArray, List.set_cons_zero, List.set_cons_succ]
            refine wpAnyH_done (by kernel_rfl) ?_ _
            go_wp2
            go_roundw
            case rel => exact ⟨s, t, by omega, by go_num, rfl, HT2, Lib.hid (HB2.out.trans (DY0.out.mono HB2.out.size))⟩
            case measure => simp [intOf]
          · rw [decide_eq_false htk] at HS
            by_cases heq : nthL a s = nthL b k
            · rw [decide_eq_true heq] at HSm
              have HT2 := Lib.hid (HTK.out htk heq)
              clear HSK HTK htk heq
              go_wp2_with fail
              refine wp_region_held_drew (S := (fun w' => w'.cell? ⟨ub, 0 + s, none⟩ = some (.bool false) ∧ w'.cell? ⟨ub, s, none⟩ = some (.bool false) ∧ w'.cell? ⟨BA, offA + s, none⟩ = some (.slice p1 l1 c1) ∧ w'.cell? ⟨BB, offB + k, none⟩ = some (.slice p2 l2 c2))) (by kernel_rfl) (HS.out _ DY0.out) (fun hHeld => ?_)
              generalize wr.drew = Y0 at DY0 hHeld ⊢
              refine ty (v := ?_) 0 (fun w hSw => ?_) ?_
              rotate_left
              · (try dsimp only at hSw); go_simp; (try with_reducible rfl)
              try simp only [List.getElem_toArray, List.getElem_cons_succ, List.getElem_cons_zero, Act.put, List.setIfInBounds_toArray, List.set_cons_zero, List.set_cons_succ]
              refine ty (v := ?_) 1 (fun w hSw => ?_) ?_
              rotate_left
              · (try dsimp only at hSw); go_simp; (try with_reducible rfl)
              try simp only [List.getElem_toArray, List.getElem_cons_succ, List.getElem_cons_zero, Act.put, List.setIfInBounds_toArray, List.set_cons_zero, List.set_cons_succ]
              refine ty (v := ?_) 2 (fun w hSw => ?_) ?_
              rotate_left
              · (try dsimp only at hSw); go_simp; (try with_reducible rfl)
              try simp only [List.getElem_toArray, List.getElem_cons_succ, List.getElem_cons_zero, Act.put, List.setIfInBounds_toArray, List.set_cons_zero, List.set_cons_succ]
              refine ty (v := ?_) 3 (fun w hSw => ?_) ?_
              rotate_left
              · (try dsimp only at hSw); go_simp; (try with_reducible rfl)
              try simp only [List.getElem_toArray, List.getElem_cons_succ, List.getElem_cons_zero, Act.put, List.setIfInBounds_toArray, List.set_cons_zero, List.set_cons_succ]
              refine ty (v := ?_) 4 (fun w hSw => ?_) ?_
              rotate_left
              · (try dsimp only at hSw); go_simp; (try with_reducible rfl)
              try simp only [List.getElem_toArray, List.getElem_cons_succ, List.getElem_cons_zero, Act.put, List.setIfInBounds_toArray, List.set_cons_zero, List.set_cons_succ]
              refine ty (v := ?_) 5 (fun w hSw => ?_) ?_
              rotate_left
              · (try dsimp only at hSw); go_simp; (try with_reducible rfl)
              try simp only [List.getElem_toArray, List.getElem_cons_succ, List.getElem_cons_zero, Act.put, List.setIfInBounds_toArray, List.set_cons_zero, List.set_cons_succ]
              refine ty (v := ?_) 6 (fun w hSw => ?_) ?_
              rotate_left
              · (try dsimp only at hSw); go_simp; (try with_reducible rfl)
              try simp only [List.getElem_toArray, List.getElem_cons_succ, List.getElem_cons_zero, Act.put, List.setIfInBounds_toArray, List.set_cons_zero, List.set_cons_succ]
              refine ty (v := ?_) 7 (fun w hSw => ?_) ?_
              rotate_left
              · (try dsimp only at hSw); go_simp; (try with_reducible rfl)
              try simp only [List.getElem_toArray, List.getElem_cons_succ, List.getElem_cons_zero, Act.put, List.setIfInBounds_toArray, List.set_cons_zero, List.set_cons_succ]
              refine ty (v := ?_) 8 (fun w hSw => ?_) ?_
              rotate_left
              · (try dsimp only at hSw); go_simp; (try with_reducible rfl)
              try simp only [List.getElem_toArray, List.getElem_cons_succ, List.getElem_cons_zero, Act.put, List.setIfInBounds_toArray, List.set_cons_zero, List.set_cons_succ]
              refine ty (v := ?_) 9 (fun w hSw => ?_) ?_
              rotate_left
              · (try dsimp only at hSw); go_simp; (try with_reducible rfl)
              try simp only [List.getElem_toArray, List.getElem_cons_succ, List.getElem_cons_zero, Act.put, List.setIfInBounds_toArray, List.set_cons_zero, List.set_cons_succ]
              refine ty (v := ?_) 10 (fun w hSw => ?_) ?_
              rotate_left
              · (try dsimp only at hSw); go_simp; (try with_reducible rfl)
              try simp only [List.getElem_toArray, List.getElem_cons_succ, List.getElem_cons_zero, Act.put, List.setIfInBounds_toArray, List.set_cons_zero, List.set_cons_succ]
              refine ty (v := ?_) 11 (fun w hSw => ?_) ?_
              rotate_left
              · (try dsimp only at hSw); go_simp; (try with_reducible rfl)
              try simp only [List.getElem_toArray, List.getElem_cons_succ, List.getElem_cons_zero, Act.put, List.setIfInBounds_toArray, List.set_cons_zero, List.set_cons_succ]
              refine ty (v := ?_) 12 (fun w hSw => ?_) ?_
              rotate_left
              · (try dsimp only at hSw); go_simp; (try with_reducible rfl)
              try simp only [List.getElem_toArray, List.getElem_cons_succ, List.getElem_cons_zero, Act.put, List.setIfInBounds_toArray, List.set_cons_zero, List.set_cons_succ]
              refine ty (v := ?_) 13 (fun w hSw => ?_) ?_
              rotate_left
              · (try dsimp only at hSw); go_simp; (try with_reducible rfl)
              try simp only [List.getElem_toArray, List.getElem_cons_succ, List.getElem_cons_zero, Act.put, List.setIfInBounds_toArray, List.set_cons_zero, List.set_cons_succ]
              refine tr 14 (fun K hK => ?_)
              go_simp
              (go_at_call 28; ((with_reducible refine (HSm.out _ DY0.out).mono ?_); rintro E Y1 ⟨rfl, hb⟩; have DY1 := Lib.hid (DY0.out.trans (hb.mono DY0.out.size)); clear hb))
              refine hK.out _ _ ?_ (fun hHeld => ?_)
              · exact HS.out _ DY1.out
              clear hK K
              try simp only [List.getElem_toArray, List.getElem_cons_succ, List.getElem_cons_zero, Act.put, List.setIfInBounds_toArray, List.set_cons_zero, List.set_cons_succ]
              refine ty (v := ?_) 15 (fun w hSw => ?_) ?_
              rotate_left
              · (try dsimp only at hSw); go_simp; (try with_reducible rfl)
              try simp only [List.getElem_toArray, List.getElem_cons_succ, List.getElem_cons_zero, Act.put, List.setIfInBounds_toArray, List.set_cons_zero, List.set_cons_succ]
              refine wpAnyH_done (by kernel_rfl) ?_ _
              go_wp2
              go_roundw
              case rel => exact ⟨s, s, by omega, by go_num, rfl, HT2, Lib.hid (HB2.out.trans (DY1.out.mono HB2.out.size))⟩
              case measure => simp [intOf]
            · rw [decide_eq_false heq] at HSm
              have HT2 := Lib.hid (HSK.out (.inr heq))
              clear HSK HTK htk heq
              go_wp2_with fail
              refine wp_region_held_drew (S := (fun w' => w'.cell? ⟨ub, 0 + s, none⟩ = some (.bool false) ∧ w'.cell? ⟨ub, s, none⟩ = some (.bool false) ∧ w'.cell? ⟨BA, offA + s, none⟩ = some (.slice p1 l1 c1) ∧ w'.cell? ⟨BB, offB + k, none⟩ = some (.slice p2 l2 c2))) (by kernel_rfl) (HS.out _ DY0.out) (fun hHeld => ?_)
              generalize wr.drew = Y0 at DY0 hHeld ⊢
              refine ty (v := ?_) 0 (fun w hSw => ?_) ?_
              rotate_left
              · (try dsimp only at hSw); go_simp; (try with_reducible rfl)
              try simp only [List.getElem_toArray, List.getElem_cons_succ, List.getElem_cons_zero, Act.put, List.setIfInBounds_toArray, List.set_cons_zero, List.set_cons_succ]
              refine ty (v := ?_) 1 (fun w hSw => ?_) ?_
              rotate_left
              · (try dsimp only at hSw); go_simp; (try with_reducible rfl)
              try simp only [List.getElem_toArray, List.getElem_cons_succ, List.getElem_cons_zero, Act.put, List.setIfInBounds_toArray, List.set_cons_zero, List.set_cons_succ]
              refine ty (v := ?_) 2 (fun w hSw => ?_) ?_
              rotate_left
              · (try dsimp only at hSw); go_simp; (try with_reducible rfl)
              try simp only [List.getElem_toArray, List.getElem_cons_succ, List.getElem_cons_zero, Act.put, List.setIfInBounds_toArray, List.set_cons_zero, List.set_cons_succ]
              refine ty (v := ?_) 3 (fun w hSw => ?_) ?_
              rotate_left
              · (try dsimp only at hSw); go_simp; (try with_reducible rfl)
              try simp only [List.getElem_toArray, List.getElem_cons_succ, List.getElem_cons_zero, Act.put, List.setIfInBounds_toArray, List.set_cons_zero, List.set_cons_succ]
              refine ty (v := ?_) 4 (fun w hSw => ?_) ?_
              rotate_left
              · (try dsimp only at hSw); go_simp; (try with_reducible rfl)
              try simp only [List.getElem_toArray, List.getElem_cons_succ, List.getElem_cons_zero, Act.put, List.setIfInBounds_toArray, List.set_cons_zero, List.set_cons_succ]
              refine ty (v := ?_) 5 (fun w hSw => ?_) ?_
              rotate_left
              · (try dsimp only at hSw); go_simp; (try with_reducible rfl)
              try simp only [List.getElem_toArray, List.getElem_cons_succ, List.getElem_cons_zero, Act.put, List.setIfInBounds_toArray, List.set_cons_zero, List.set_cons_succ]
              refine ty (v := ?_) 6 (fun w hSw => ?_) ?_
              rotate_left
              · (try dsimp only at hSw); go_simp; (try with_reducible rfl)
              try simp only [List.getElem_toArray, List.getElem_cons_succ, List.getElem_cons_zero, Act.put, List.setIfInBounds_toArray, List.set_cons_zero, List.set_cons_succ]
              refine ty (v := ?_) 7 (fun w hSw => ?_) ?_
              rotate_left
              · (try dsimp only at hSw); go_simp; (try with_reducible rfl)
              try simp only [List.getElem_toArray, List.getElem_cons_succ, List.getElem_cons_zero, Act.put, List.setIfInBounds_toArray, List.set_cons_zero, List.set_cons_succ]
              refine ty (v := ?_) 8 (fun w hSw => ?_) ?_
              rotate_left
              · (try dsimp only at hSw); go_simp; (try with_reducible rfl)
              try simp only [List.getElem_toArray, List.getElem_cons_succ, List.getElem_cons_zero, Act.put, List.setIfInBounds_toArray, List.set_cons_zero, List.set_cons_succ]
              refine ty (v := ?_) 9 (fun w hSw => ?_) ?_
              rotate_left
              · (try dsimp only at hSw); go_simp; (try with_reducible rfl)
              try simp only [List.getElem_toArray, List.getElem_cons_succ, List.getElem_cons_zero, Act.put, List.setIfInBounds_toArray, List.set_cons_zero, List.set_cons_succ]
              refine ty (v := ?_) 10 (fun w hSw => ?_) ?_
              rotate_left
              · (try dsimp only at hSw); go_simp; (try with_reducible rfl)
              try simp only [List.getElem_toArray, List.getElem_cons_succ, List.getElem_cons_zero, Act.put, List.setIfInBounds_toArray, List.set_cons_zero, List.set_cons_succ]
              refine ty (v := ?_) 11 (fun w hSw => ?_) ?_
              rotate_left
              · (try dsimp only at hSw); go_simp; (try with_reducible rfl)
              try simp only [List.getElem_toArray, List.getElem_cons_succ, List.getElem_cons_zero, Act.put, List.setIfInBounds_toArray, List.set_cons_zero, List.set_cons_succ]
              refine ty (v := ?_) 12 (fun w hSw => ?_) ?_
              rotate_left
              · (try dsimp only at hSw); go_simp; (try with_reducible rfl)
              try simp only [List.getElem_toArray, List.getElem_cons_succ, List.getElem_cons_zero, Act.put, List.setIfInBounds_toArray, List.set_cons_zero, List.set_cons_succ]
              refine ty (v := ?_) 13 (fun w hSw => ?_) ?_
              rotate_left
              · (try dsimp only at hSw); go_simp; (try with_reducible rfl)
              try simp only [List.getElem_toArray, List.getElem_cons_succ, List.getElem_cons_zero, Act.put, List.setIfInBounds_toArray, List.set_cons_zero, List.set_cons_succ]
              refine tr 14 (fun K hK => ?_)
              go_simp
              (go_at_call 28; ((with_reducible refine (HSm.out _ DY0.out).mono ?_); rintro E Y1 ⟨rfl, hb⟩; have DY1 := Lib.hid (DY0.out.trans (hb.mono DY0.out.size)); clear hb))
              refine hK.out _ _ ?_ (fun hHeld => ?_)
              · exact HS.out _ DY1.out
              clear hK K
              try simp only [List.getElem_toArray, List.getElem_cons_succ, List.getElem_cons_zero, Act.put, List.setIfInBounds_toArray, List.set_cons_zero, List.set_cons_succ]
              refine ty (v := ?_) 15 (fun w hSw => ?_) ?_
              rotate_left
              · (try dsimp only at hSw); go_simp; (try with_reducible rfl)
              try simp only [List.getElem_toArray, List.getElem_cons_succ, List.getElem_cons_zero, Act.put, List.setIfInBounds_toArray, List.set_cons_zero, List.set_cons_succ]
              refine wpAnyH_done (by kernel_rfl) ?_ _
              go_wp2
              go_roundw
              case rel => exact ⟨s, t, by omega, by go_num, rfl, HT2, Lib.hid (HB2.out.trans (DY1.out.mono HB2.out.size))⟩
              case measure => simp [intOf]
    · have km : ¬ (k : Int) < m := by omega
      have HPS : Hid (placesN a b [] = some ps) := Lib.hid (by
        have := HP.out
        rw [List.drop_of_length_le (by rw [← HM.out]; omega), placesN] at this
        exact this.symm)
      have HG1 : Hid (n = m → placesG a b = some ps) := Lib.hid fun e => by unfold placesG; rw [if_pos (by rw [← HN.out, ← HM.out]; exact e)]; exact HPS.out
      have HG2 : Hid (n ≠ m → placesG a b = none) := Lib.hid fun e => by unfold placesG; rw [if_neg (by rw [← HN.out, ← HM.out]; exact e)]
      clear hd hd'
      by_cases hnm : n = m
      · subst hnm
        have HG := HG1.out rfl
        have HGH := Lib.hid HG
        clear HG
        go_wp2
        go_ret2
        exact ⟨_, _, rfl, HB.out, fun _ => ⟨ps, HGH.out, HO.out⟩, fun h => absurd h (by simp)⟩
      · have nm : ¬ ((n : Int) = m) := by omega
        have HGH := Lib.hid (HG2.out hnm)
        go_wp2
        go_ret2
        exact ⟨_, _, rfl, HB.out, fun h => absurd h (by simp [nm]), fun _ => HGH.out⟩
end Go.Proofs.YtlkndpofegemdaaGreat.Tra
