/- The statement's function of layer 10 (digest) on any bytes and two numbers: it returns true. Conditions: the bytes lie in memory as their cells say, and are not more than 5000; the numbers are words of 64 bits. (Written by tools/gen_tells.py.) -/
import Derived.Test.YtbijiklemkdebaaDigE
namespace Go.Proofs.Ytbijiklemkdebaa.Dig
open Go.RowKit Cmd Bat Wir
set_option linter.unusedVariables false
set_option linter.unusedSimpArgs false

set_option maxHeartbeats 16000000 in
set_option maxRecDepth 100000 in
theorem tells_few (v : Value) (zs : List UInt8) (x y : Nat) (w : World) (h : layB.Row w v zs) (hl : zs.length ≤ 5000) (hx : x < 18446744073709551616) (hy : y < 18446744073709551616) : Calls Try.prog 3 #[v, .int .u64 x, .int .u64 y] w (RetBelow (.bool true) w) := by
  obtain ⟨i0, hi, hz0, hz1, hz2⟩ := info_parts info_byte
  have hrow := h
  obtain ⟨p, cap, rfl, g1, g2, -⟩ := h
  have CW := Lib.hid play_any
  have hD := dg_lt zs
  have hsl := seal_len zs
  have CS : Hid (∀ W V, layB.Row W V zs → Calls Try.prog 6 #[V] W (GivesR (sealt zs) (zs.length + 8) W)) := Lib.hid fun W V hr => (seal_any V zs W hr (by omega)).mono fun e w' h => gives_row h rfl hsl
  have CO : Hid (∀ W, Below w.heap.size w W → Calls Try.prog 7 #[.slice p zs.length cap] W fun e w' => e = .returned (.int .u64 (dg zs : Nat)) ∧ W = w') := Lib.hid fun W hb => of_any _ zs W (hrow.on hb)
  have CR : Hid (∀ W, Below w.heap.size w W → Calls Try.prog 8 #[.slice p zs.length cap] W fun e w' => e = .returned (.int .u64 (dg zs : Nat)) ∧ W = w') := Lib.hid fun W hb => refof_any _ zs W (hrow.on hb)
  have CR2 : Hid (∀ W V, layB.Row W V (big x ++ big y) → Calls Try.prog 8 #[V] W fun e w' => e = .returned (.int .u64 (dg (big x ++ big y) : Nat)) ∧ W = w') := Lib.hid fun W V hr => refof_any _ _ W hr
  have CM : Hid (∀ W, Calls Try.prog 9 #[.int .u64 x, .int .u64 y] W (RetBelowN (dg (big x ++ big y)) W)) := Lib.hid fun W => mix_any x y W hx hy
  have CX : Hid (∀ W, Calls Try.prog 10 #[.int .u64 x] W (GivesB (big x) W)) := Lib.hid fun W => big_any x W hx
  have CY : Hid (∀ W, Calls Try.prog 10 #[.int .u64 y] W (GivesR (big y) 8 W)) := Lib.hid fun W => (big_any y W hy).mono fun e w' h => gives_row h rfl (big_len y)
  have CD : Hid (∀ W, Calls Try.prog 10 #[.int .u64 (dg zs)] W (GivesR (big (dg zs)) 8 W)) := Lib.hid fun W => (big_any _ W hD).mono fun e w' h => gives_row h rfl (big_len _)
  have HL : Hid (([] : List UInt8).length + zs.length ≤ 1000000) := Lib.hid (by rw [List.length_nil]; omega)
  have HXY : Hid ((big x).length + (big y).length ≤ 1000000) := Lib.hid (by rw [big_len, big_len]; decide)
  have HY8 : Hid (8 = (big y).length) := Lib.hid (big_len y).symm
  have q1 := add_run zs (big (dg zs)) (by rw [big_len]; omega)
  have hE : zs ++ big (dg zs) = sealt zs := rfl
  rw [hE] at q1
  have HRow : Hid (∀ W, Below w.heap.size w W → layB.Row W (.slice p zs.length cap) zs) := Lib.hid fun W hb => hrow.on hb
  have HSt : Hid (∀ W, Below w.heap.size w W → (convert 22 9 (.slice p zs.length cap)).run Try.prog W = .ok (.string (str zs)) W) := Lib.hid fun W hb => text_run (hrow.on hb)
  have a4 : (zs.length : Int) ≤ 5000 := by omega
  obtain ⟨L, hL⟩ : ∃ L, zs.length = L := ⟨_, rfl⟩
  rw [hL] at CS CO CR g1 HRow HSt a4 ⊢
  generalize sealt zs = sl at CS q1
  generalize dg zs = d at CO CR CD q1
  generalize dg (big x ++ big y) = m at CR2 CM
  clear hrow hl hsl hL hE hD
  go_enter Try.func3, Try.ntmps3
  go_wp2_with (first
    | (at_make; refine wpList_make_own _ rfl _ _ 22 rfl w.heap.size 5 i0 _ 1 Try.underlying22 hi hz0 hz1 _ _ _ (L + 9) rfl rfl (by omega) (by rw [hz2]; omega) (by unfold maxLen; omega) (Nat.le_refl _) ?_; intro w1 ho hg; have A1 := Lib.hid ho; have D1 := Lib.hid (Below.grown (Below.refl _ _) hg (Nat.le_refl _) (fun k hk => by cases hk)); clear ho hg)
    | (at_builtin; refine wp_rows rfl _ _ rfl w.heap.size _ [] rfl A1.out D1.out.size (.slice p L cap) zs rfl (HRow.out _ D1.out) HL.out ?_; intro u2 w2 HO2 HB2; have D2 := Lib.hid (D1.out.trans HB2.out))
    | (go_at_call 6; (with_reducible refine (CS.out _ _ (rowB HO2.out)).mono ?_); rintro e w5 ⟨px, cx, rfl, -, hr, hb⟩; have X5 := Lib.hid hr; have D5 := Lib.hid (D2.out.trans (hb.mono D2.out.size)); clear hr hb))
  have HS : Hid (∀ w', Below w5.heap.size w5 w' → Below w.heap.size w w' ∧ (convert 22 9 (.slice p L cap)).run Try.prog w' = .ok (.string (str zs)) w' ∧ (convert 22 9 (.slice px (L + 8) cx)).run Try.prog w' = .ok (.string (str sl)) w') := Lib.hid fun W hb => ⟨D5.out.trans (hb.mono D5.out.size), HSt.out _ (D5.out.trans (hb.mono D5.out.size)), text_run (X5.out.on hb)⟩
  have R5 := Lib.hid (Below.refl w5.heap.size w5).drew
  refine wp_region_held_drew (S := (fun w' => Below w.heap.size w w' ∧ (convert 22 9 (.slice p L cap)).run Try.prog w' = .ok (.string (str zs)) w' ∧ (convert 22 9 (.slice px (L + 8) cx)).run Try.prog w' = .ok (.string (str sl)) w')) (by kernel_rfl) (HS.out _ R5.out) (fun hHeld => ?_)
  refine wpAnyH_take (i := 0) (v := ?_) rfl (by kernel_rfl) (by kernel_rfl) (by kernel_rfl) (fun _ _ _ h => h) (Or.inl ⟨by rfl, fun w hSw => ?_⟩) (by assumption) ?_
  rotate_left
  · (try dsimp only at hSw); go_simp; (try with_reducible rfl)
  try simp only [List.getElem_toArray, List.getElem_cons_succ, List.getElem_cons_zero, Act.put, List.setIfInBounds_toArray, List.set_cons_zero, List.set_cons_succ]
  refine wpAnyH_take (i := 2) (v := ?_) rfl (by kernel_rfl) (by kernel_rfl) (by kernel_rfl) (fun _ _ _ h => h) (Or.inl ⟨by rfl, fun w hSw => ?_⟩) (by assumption) ?_
  rotate_left
  · (try dsimp only at hSw); go_simp; (try with_reducible rfl)
  try simp only [List.getElem_toArray, List.getElem_cons_succ, List.getElem_cons_zero, Act.put, List.setIfInBounds_toArray, List.set_cons_zero, List.set_cons_succ]
  refine wpAnyH_ready (rs := [1]) (by kernel_rfl) (by simp) ?_
  refine AllReadyH.cons rfl (fun K hK => ?_) ?_
  rotate_left
  · exact AllReadyH.nil
  go_simp
  (go_at_call 7; (with_reducible refine (CO.out _ hHeld.1).mono ?_); rintro e wx ⟨rfl, rfl⟩)
  refine hK.out _ _ ?_ (fun hHeld => ?_)
  · exact hHeld
  clear hK K
  try simp only [List.getElem_toArray, List.getElem_cons_succ, List.getElem_cons_zero, Act.put, List.setIfInBounds_toArray, List.set_cons_zero, List.set_cons_succ]
  refine wpAnyH_ready (rs := [3]) (by kernel_rfl) (by simp) ?_
  refine AllReadyH.cons rfl (fun K hK => ?_) ?_
  rotate_left
  · exact AllReadyH.nil
  go_simp
  (go_at_call 8; (with_reducible refine (CR.out _ hHeld.1).mono ?_); rintro e wx ⟨rfl, rfl⟩)
  refine hK.out _ _ ?_ (fun hHeld => ?_)
  · exact hHeld
  clear hK K
  try simp only [List.getElem_toArray, List.getElem_cons_succ, List.getElem_cons_zero, Act.put, List.setIfInBounds_toArray, List.set_cons_zero, List.set_cons_succ]
  refine wpAnyH_take (i := 4) (v := ?_) rfl (by kernel_rfl) (by kernel_rfl) (by kernel_rfl) (fun _ _ _ h => h) (Or.inl ⟨by rfl, fun w hSw => ?_⟩) (by assumption) ?_
  rotate_left
  · (try dsimp only at hSw); go_simp; (try with_reducible rfl)
  try simp only [List.getElem_toArray, List.getElem_cons_succ, List.getElem_cons_zero, Act.put, List.setIfInBounds_toArray, List.set_cons_zero, List.set_cons_succ]
  refine wpAnyH_take (i := 5) (v := ?_) rfl (by kernel_rfl) (by kernel_rfl) (by kernel_rfl) (fun _ _ _ h => h) (Or.inl ⟨by rfl, fun w hSw => ?_⟩) (by assumption) ?_
  rotate_left
  · (try dsimp only at hSw); go_simp; (try with_reducible rfl)
  try simp only [List.getElem_toArray, List.getElem_cons_succ, List.getElem_cons_zero, Act.put, List.setIfInBounds_toArray, List.set_cons_zero, List.set_cons_succ]
  refine wpAnyH_take (i := 6) (v := ?_) rfl (by kernel_rfl) (by kernel_rfl) (by kernel_rfl) (fun _ _ _ h => h) (Or.inl ⟨by rfl, fun w hSw => ?_⟩) (by assumption) ?_
  rotate_left
  · (try dsimp only at hSw); go_simp; (try with_reducible rfl)
  try simp only [List.getElem_toArray, List.getElem_cons_succ, List.getElem_cons_zero, Act.put, List.setIfInBounds_toArray, List.set_cons_zero, List.set_cons_succ]
  refine wpAnyH_take (i := 7) (v := ?_) rfl (by kernel_rfl) (by kernel_rfl) (by kernel_rfl) (fun _ _ _ h => h) (Or.inl ⟨by rfl, fun w hSw => ?_⟩) (by assumption) ?_
  rotate_left
  · (try dsimp only at hSw); go_simp; (try with_reducible rfl)
  try simp only [List.getElem_toArray, List.getElem_cons_succ, List.getElem_cons_zero, Act.put, List.setIfInBounds_toArray, List.set_cons_zero, List.set_cons_succ]
  refine wpAnyH_take (i := 9) (v := ?_) rfl (by kernel_rfl) (by kernel_rfl) (by kernel_rfl) (fun _ _ _ h => h) (Or.inl ⟨by rfl, fun w hSw => ?_⟩) (by assumption) ?_
  rotate_left
  · (try dsimp only at hSw); go_simp; (try with_reducible rfl)
  try simp only [List.getElem_toArray, List.getElem_cons_succ, List.getElem_cons_zero, Act.put, List.setIfInBounds_toArray, List.set_cons_zero, List.set_cons_succ]
  refine wpAnyH_take (i := 11) (v := ?_) rfl (by kernel_rfl) (by kernel_rfl) (by kernel_rfl) (fun _ _ _ h => h) (Or.inl ⟨by rfl, fun w hSw => ?_⟩) (by assumption) ?_
  rotate_left
  · (try dsimp only at hSw); go_simp; (try with_reducible rfl)
  try simp only [List.getElem_toArray, List.getElem_cons_succ, List.getElem_cons_zero, Act.put, List.setIfInBounds_toArray, List.set_cons_zero, List.set_cons_succ]
  refine wpAnyH_ready (rs := [8]) (by kernel_rfl) (by simp) ?_
  refine AllReadyH.cons rfl (fun K hK => ?_) ?_
  rotate_left
  · exact AllReadyH.nil
  go_simp
  (go_at_call 9; (with_reducible refine (CM.out _).mono ?_); rintro e w6 ⟨rfl, hb⟩; have R6 := Lib.hid (R5.out.trans (hb.mono R5.out.size)); clear hb)
  refine hK.out _ _ ?_ (fun hHeld => ?_)
  · exact HS.out _ R6.out
  clear hK K
  try simp only [List.getElem_toArray, List.getElem_cons_succ, List.getElem_cons_zero, Act.put, List.setIfInBounds_toArray, List.set_cons_zero, List.set_cons_succ]
  refine wpAnyH_ready (rs := [10]) (by kernel_rfl) (by simp) ?_
  refine AllReadyH.cons rfl (fun K hK => ?_) ?_
  rotate_left
  · exact AllReadyH.nil
  go_simp
  (go_at_call 10; (with_reducible refine (CX.out _).mono ?_); rintro e w7 ⟨u7, rfl, ho, hb⟩; have R7 := Lib.hid (R6.out.trans (hb.mono R6.out.size)); have b7 := Lib.hid hb.size; have O7 := Lib.hid ho; clear ho hb)
  refine hK.out _ _ ?_ (fun hHeld => ?_)
  · exact HS.out _ R7.out
  clear hK K
  try simp only [List.getElem_toArray, List.getElem_cons_succ, List.getElem_cons_zero, Act.put, List.setIfInBounds_toArray, List.set_cons_zero, List.set_cons_succ]
  refine wpAnyH_ready (rs := [12]) (by kernel_rfl) (by simp) ?_
  refine AllReadyH.cons rfl (fun K hK => ?_) ?_
  rotate_left
  · exact AllReadyH.nil
  go_simp
  (go_at_call 10; (with_reducible refine (CY.out _).mono ?_); rintro e w8 ⟨p8, c8, rfl, h8, hr, hb⟩; have R8 := Lib.hid (R7.out.trans (hb.mono R7.out.size)); have O8 := Lib.hid (own_below O7.out hb); have b8 := Lib.hid (Nat.le_trans b7.out hb.size); have K8 := Lib.hid hr; clear hr hb)
  refine hK.out _ _ ?_ (fun hHeld => ?_)
  · exact HS.out _ R8.out
  clear hK K
  try simp only [List.getElem_toArray, List.getElem_cons_succ, List.getElem_cons_zero, Act.put, List.setIfInBounds_toArray, List.set_cons_zero, List.set_cons_succ]
  refine wpAnyH_ready (rs := [13]) (by kernel_rfl) (by simp) ?_
  refine AllReadyH.cons rfl (fun K hK => ?_) ?_
  rotate_left
  · exact AllReadyH.nil
  (refine step_rows (by kernel_rfl) _ _ rfl w6.heap.size _ (big x) rfl O8.out b8.out _ (big y) rfl K8.out HXY.out ?_; intro u9 w9 HO9 HB9; have R9 := Lib.hid (R8.out.trans (HB9.out.mono R6.out.size)))
  refine hK.out _ _ ?_ (fun hHeld => ?_)
  · exact HS.out _ R9.out
  clear hK K
  try simp only [List.getElem_toArray, List.getElem_cons_succ, List.getElem_cons_zero, Act.put, List.setIfInBounds_toArray, List.set_cons_zero, List.set_cons_succ]
  refine wpAnyH_ready (rs := [14]) (by kernel_rfl) (by simp) ?_
  refine AllReadyH.cons rfl (fun K hK => ?_) ?_
  rotate_left
  · exact AllReadyH.nil
  go_simp
  (go_at_call 8; (with_reducible refine (CR2.out _ _ (rowB HO9.out)).mono ?_); rintro e wx ⟨rfl, rfl⟩)
  refine hK.out _ _ ?_ (fun hHeld => ?_)
  · exact hHeld
  clear hK K
  try simp only [List.getElem_toArray, List.getElem_cons_succ, List.getElem_cons_zero, Act.put, List.setIfInBounds_toArray, List.set_cons_zero, List.set_cons_succ]
  refine wpAnyH_take (i := 15) (v := ?_) rfl (by kernel_rfl) (by kernel_rfl) (by kernel_rfl) (fun _ _ _ h => h) (Or.inl ⟨by rfl, fun w hSw => ?_⟩) (by assumption) ?_
  rotate_left
  · (try dsimp only at hSw); go_simp; (try with_reducible rfl)
  try simp only [List.getElem_toArray, List.getElem_cons_succ, List.getElem_cons_zero, Act.put, List.setIfInBounds_toArray, List.set_cons_zero, List.set_cons_succ]
  refine wpAnyH_take (i := 16) (v := ?_) rfl (by kernel_rfl) (by kernel_rfl) (by kernel_rfl) (fun _ _ _ h => h) (Or.inl ⟨by rfl, fun w hSw => ?_⟩) (by assumption) ?_
  rotate_left
  · (try dsimp only at hSw); go_simp; (try with_reducible rfl)
  try simp only [List.getElem_toArray, List.getElem_cons_succ, List.getElem_cons_zero, Act.put, List.setIfInBounds_toArray, List.set_cons_zero, List.set_cons_succ]
  refine wpAnyH_take (i := 17) (v := ?_) rfl (by kernel_rfl) (by kernel_rfl) (by kernel_rfl) (fun _ _ _ h => h) (Or.inl ⟨by rfl, fun w hSw => ?_⟩) (by assumption) ?_
  rotate_left
  · (try dsimp only at hSw); go_simp; (try with_reducible rfl)
  try simp only [List.getElem_toArray, List.getElem_cons_succ, List.getElem_cons_zero, Act.put, List.setIfInBounds_toArray, List.set_cons_zero, List.set_cons_succ]
  refine wpAnyH_take (i := 18) (v := ?_) rfl (by kernel_rfl) (by kernel_rfl) (by kernel_rfl) (fun _ _ _ h => h) (Or.inl ⟨by rfl, fun w hSw => ?_⟩) (by assumption) ?_
  rotate_left
  · (try dsimp only at hSw); go_simp; (try with_reducible rfl)
  try simp only [List.getElem_toArray, List.getElem_cons_succ, List.getElem_cons_zero, Act.put, List.setIfInBounds_toArray, List.set_cons_zero, List.set_cons_succ]
  refine wpAnyH_take (i := 19) (v := ?_) rfl (by kernel_rfl) (by kernel_rfl) (by kernel_rfl) (fun _ _ _ h => h) (Or.inl ⟨by rfl, fun w hSw => ?_⟩) (by assumption) ?_
  rotate_left
  · (try dsimp only at hSw); go_simp; (try with_reducible rfl)
  try simp only [List.getElem_toArray, List.getElem_cons_succ, List.getElem_cons_zero, Act.put, List.setIfInBounds_toArray, List.set_cons_zero, List.set_cons_succ]
  refine wpAnyH_take (i := 20) (v := ?_) rfl (by kernel_rfl) (by kernel_rfl) (by kernel_rfl) (fun _ _ _ h => h) (Or.inl ⟨by rfl, fun w hSw => ?_⟩) (by assumption) ?_
  rotate_left
  · (try dsimp only at hSw); go_simp; (try with_reducible rfl)
  try simp only [List.getElem_toArray, List.getElem_cons_succ, List.getElem_cons_zero, Act.put, List.setIfInBounds_toArray, List.set_cons_zero, List.set_cons_succ]
  refine wpAnyH_take (i := 21) (v := ?_) rfl (by kernel_rfl) (by kernel_rfl) (by kernel_rfl) (fun _ _ _ h => h) (Or.inl ⟨by rfl, fun w hSw => ?_⟩) (by assumption) ?_
  rotate_left
  · (try dsimp only at hSw); go_simp; (try with_reducible rfl)
  try simp only [List.getElem_toArray, List.getElem_cons_succ, List.getElem_cons_zero, Act.put, List.setIfInBounds_toArray, List.set_cons_zero, List.set_cons_succ]
  refine wpAnyH_take (i := 22) (v := ?_) rfl (by kernel_rfl) (by kernel_rfl) (by kernel_rfl) (fun _ _ _ h => h) (Or.inl ⟨by rfl, fun w hSw => ?_⟩) (by assumption) ?_
  rotate_left
  · (try dsimp only at hSw); go_simp; (try with_reducible rfl)
  try simp only [List.getElem_toArray, List.getElem_cons_succ, List.getElem_cons_zero, Act.put, List.setIfInBounds_toArray, List.set_cons_zero, List.set_cons_succ]
  refine wpAnyH_ready (rs := [23]) (by kernel_rfl) (by simp) ?_
  refine AllReadyH.cons rfl (fun K hK => ?_) ?_
  rotate_left
  · exact AllReadyH.nil
  go_simp
  (go_at_call 8; (with_reducible refine (CR.out _ hHeld.1).mono ?_); rintro e wx ⟨rfl, rfl⟩)
  refine hK.out _ _ ?_ (fun hHeld => ?_)
  · exact hHeld
  clear hK K
  try simp only [List.getElem_toArray, List.getElem_cons_succ, List.getElem_cons_zero, Act.put, List.setIfInBounds_toArray, List.set_cons_zero, List.set_cons_succ]
  refine wpAnyH_ready (rs := [24]) (by kernel_rfl) (by simp) ?_
  refine AllReadyH.cons rfl (fun K hK => ?_) ?_
  rotate_left
  · exact AllReadyH.nil
  go_simp
  (go_at_call 10; (with_reducible refine (CD.out _).mono ?_); rintro e w10 ⟨p10, c10, rfl, h10, hr, hb⟩; have R10 := Lib.hid (R9.out.trans (hb.mono R9.out.size)); have K10 := Lib.hid hr; have ht10 := text_run hr; clear hr hb)
  refine hK.out _ _ ?_ (fun hHeld => ?_)
  · exact HS.out _ R10.out
  clear hK K
  try simp only [List.getElem_toArray, List.getElem_cons_succ, List.getElem_cons_zero, Act.put, List.setIfInBounds_toArray, List.set_cons_zero, List.set_cons_succ]
  refine wpAnyH_ready (rs := [25]) (by kernel_rfl) (by simp) ?_
  refine AllReadyH.cons rfl (fun K hK => ?_) ?_
  rotate_left
  · exact AllReadyH.nil
  go_simp
  skip
  refine hK.out _ _ ?_ (fun hHeld => ?_)
  · exact HS.out _ R10.out
  clear hK K
  try simp only [List.getElem_toArray, List.getElem_cons_succ, List.getElem_cons_zero, Act.put, List.setIfInBounds_toArray, List.set_cons_zero, List.set_cons_succ]
  refine wpAnyH_take (i := 26) (v := ?_) rfl (by kernel_rfl) (by kernel_rfl) (by kernel_rfl) (fun _ _ _ h => h) (Or.inl ⟨by rfl, fun w hSw => ?_⟩) (by assumption) ?_
  rotate_left
  · (try dsimp only at hSw); go_simp; (try with_reducible rfl)
  try simp only [List.getElem_toArray, List.getElem_cons_succ, List.getElem_cons_zero, Act.put, List.setIfInBounds_toArray, List.set_cons_zero, List.set_cons_succ]
  refine wpAnyH_take (i := 27) (v := ?_) rfl (by kernel_rfl) (by kernel_rfl) (by kernel_rfl) (fun _ _ _ h => h) (Or.inl ⟨by rfl, fun w hSw => ?_⟩) (by assumption) ?_
  rotate_left
  · (try dsimp only at hSw); go_simp; (try with_reducible rfl)
  try simp only [List.getElem_toArray, List.getElem_cons_succ, List.getElem_cons_zero, Act.put, List.setIfInBounds_toArray, List.set_cons_zero, List.set_cons_succ]
  refine wpAnyH_take (i := 28) (v := ?_) rfl (by kernel_rfl) (by kernel_rfl) (by kernel_rfl) (fun _ _ _ h => h) (Or.inl ⟨by rfl, fun w hSw => ?_⟩) (by assumption) ?_
  rotate_left
  · (try dsimp only at hSw); go_simp; (try with_reducible rfl)
  try simp only [List.getElem_toArray, List.getElem_cons_succ, List.getElem_cons_zero, Act.put, List.setIfInBounds_toArray, List.set_cons_zero, List.set_cons_succ]
  refine wpAnyH_take (i := 29) (v := ?_) rfl (by kernel_rfl) (by kernel_rfl) (by kernel_rfl) (fun _ _ _ h => h) (Or.inl ⟨by rfl, fun w hSw => ?_⟩) (by assumption) ?_
  rotate_left
  · (try dsimp only at hSw); go_simp; (try with_reducible rfl)
  try simp only [List.getElem_toArray, List.getElem_cons_succ, List.getElem_cons_zero, Act.put, List.setIfInBounds_toArray, List.set_cons_zero, List.set_cons_succ]
  refine wpAnyH_ready (rs := [30]) (by kernel_rfl) (by simp) ?_
  refine AllReadyH.cons rfl (fun K hK => ?_) ?_
  rotate_left
  · exact AllReadyH.nil
  go_simp
  (go_at_call 5; (with_reducible refine (CW.out _).mono ?_); rintro e w11 ⟨rfl, hb⟩; have R11 := Lib.hid (R10.out.trans (hb.mono R10.out.size)); clear hb)
  refine hK.out _ _ ?_ (fun hHeld => ?_)
  · exact HS.out _ R11.out
  clear hK K
  try simp only [List.getElem_toArray, List.getElem_cons_succ, List.getElem_cons_zero, Act.put, List.setIfInBounds_toArray, List.set_cons_zero, List.set_cons_succ]
  refine wpAnyH_take (i := 31) (v := ?_) rfl (by kernel_rfl) (by kernel_rfl) (by kernel_rfl) (fun _ _ _ h => h) (Or.inl ⟨by rfl, fun w hSw => ?_⟩) (by assumption) ?_
  rotate_left
  · (try dsimp only at hSw); go_simp; (try with_reducible rfl)
  try simp only [List.getElem_toArray, List.getElem_cons_succ, List.getElem_cons_zero, Act.put, List.setIfInBounds_toArray, List.set_cons_zero, List.set_cons_succ]
  refine wpAnyH_take (i := 32) (v := ?_) rfl (by kernel_rfl) (by kernel_rfl) (by kernel_rfl) (fun _ _ _ h => h) (Or.inl ⟨by rfl, fun w hSw => ?_⟩) (by assumption) ?_
  rotate_left
  · (try dsimp only at hSw); go_simp; (try with_reducible rfl)
  try simp only [List.getElem_toArray, List.getElem_cons_succ, List.getElem_cons_zero, Act.put, List.setIfInBounds_toArray, List.set_cons_zero, List.set_cons_succ]
  refine wpAnyH_done (by kernel_rfl) ?_ _
  go_wp2
  go_ret
  exact ⟨rfl, D5.out.trans (R11.out.mono D5.out.size)⟩
end Go.Proofs.Ytbijiklemkdebaa.Dig
