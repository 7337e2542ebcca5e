/- The statement's function of layer 9 (wire) on a number and a text, behind any bytes: it returns true. Conditions: the bytes lie in memory as their cells say, and are not more than 100; the number is a word of 64 bits; the text is not longer than 1000. (Written by tools/gen_puts.py.) -/
import Derived.Test.YthleonbojmpclaaWirJ
namespace Go.Proofs.Ythleonbojmpclaa.Wir
open Go.RowKit Cmd Bat
set_option linter.unusedVariables false
set_option linter.unusedSimpArgs false

set_option maxHeartbeats 16000000 in
set_option maxRecDepth 100000 in
theorem puts_few (v : Value) (zs : List UInt8) (n : Nat) (s : List UInt8) (w : World) (h : layB.Row w v zs) (hl : zs.length ≤ 100) (hs : s.length ≤ 1000) (hn : n < 18446744073709551616) : Calls Try.prog 3 #[v, .int .u64 n, .string (str s)] w (RetBelow (.bool true) w) := by
  obtain ⟨i0, hi, hz0, hz1, hz2⟩ := info_parts info_byte
  have hrow := h
  obtain ⟨p, cap, rfl, g1, g2, -⟩ := h
  have hE := enc_len hn
  have hE2 := enc_pos n
  have hT : (txt s).length ≤ 1010 := by have := enc_len (n := s.length) (by omega); unfold txt; rw [List.length_append]; omega
  have CW := Lib.hid works_any
  have a1 : (zs ++ enc n).length = zs.length + (enc n).length := List.length_append
  have a2 : (zs ++ txt s).length = zs.length + (txt s).length := List.length_append
  have a3 : (zs ++ big n).length = zs.length + 8 := by rw [List.length_append, big_len]
  have C1 : Hid (∀ W V, layB.Row W V zs → Calls Try.prog 6 #[V, .int .u64 n] W (GivesO (zs ++ enc n) (zs.length + (enc n).length) W)) := Lib.hid fun W V hr => (put_any V zs n W hr (by omega) hn).mono fun e w' h => gives_own h a1
  have C2 : Hid (∀ W V, layB.Row W V zs → Calls Try.prog 7 #[V, .string (str s)] W (GivesO (zs ++ txt s) (zs.length + (txt s).length) W)) := Lib.hid fun W V hr => (puttext_any V zs s W hr (by omega) (by omega)).mono fun e w' h => gives_own h a2
  have C3 : Hid (∀ W V, layB.Row W V zs → Calls Try.prog 8 #[V, .int .u64 n] W (GivesO (zs ++ big n) (zs.length + 8) W)) := Lib.hid fun W V hr => (eight_any V zs n W hr (by omega) hn).mono fun e w' h => gives_own h a3
  have C4 : Hid (∀ W, Calls Try.prog 9 #[.int .u64 n] W (GivesR (enc n) (enc n).length W)) := Lib.hid fun W => (bytes_any n W hn).mono fun e w' h => gives_row h rfl rfl
  have C5 : Hid (∀ W, Calls Try.prog 10 #[.string (str s)] W (GivesR (txt s) (txt s).length W)) := Lib.hid fun W => (text_any s W (by omega)).mono fun e w' h => gives_row h rfl rfl
  have C6 : Hid (∀ W, Calls Try.prog 11 #[.int .u64 n] W (GivesR (big n) 8 W)) := Lib.hid fun W => (big_any n W hn).mono fun e w' h => gives_row h rfl (big_len n)
  have C7 : Hid (∀ W V, layB.Row W V (enc n ++ zs) → Calls Try.prog 12 #[V] W fun e w' => e = .returned (.tuple #[.int .u64 n, .int .i64 (enc n).length, .int .i64 0]) ∧ W = w') := Lib.hid fun W V hr => by
    have := get_any V _ W hr; rw [rd_of_enc hn] at this; exact this
  have C8 : Hid (∀ W V, layB.Row W V (txt s ++ zs) → Calls Try.prog 13 #[V, .int .i64 1000] W fun e w' => e = .returned (.tuple #[.string (str s), .int .i64 (txt s).length, .int .i64 0]) ∧ W = w') := Lib.hid fun W V hr => by
    have := gettext_any V _ 1000 W hr (by rw [List.length_append]; omega) (by decide); rw [gt_txt hs] at this; exact this
  have C9 : Hid (∀ W V, layB.Row W V (big n ++ zs) → Calls Try.prog 14 #[V] W fun e w' => e = .returned (.tuple #[.int .u64 n, .int .i64 0]) ∧ W = w') := Lib.hid fun W V hr => by
    have := geteight_any V _ W hr; rw [eight_big hn] at this; exact this
  have HL : Hid (([] : List UInt8).length + zs.length ≤ 1000000) := Lib.hid (by rw [List.length_nil]; omega)
  have HL1 : Hid ((zs ++ enc n).length + zs.length ≤ 1000000) := Lib.hid (by omega)
  have HL2 : Hid ((zs ++ txt s).length + zs.length ≤ 1000000) := Lib.hid (by omega)
  have HL3 : Hid ((zs ++ big n).length + zs.length ≤ 1000000) := Lib.hid (by omega)
  have q1 := sum_run zs (enc n) (by omega)
  have q2 := sum_run zs (txt s) (by omega)
  have q3 := sum_run zs (big n) (by rw [big_len]; omega)
  have HRow : Hid (∀ W, Below w.heap.size w W → layB.Row W (.slice p zs.length cap) zs) := Lib.hid fun W hb => hrow.on hb
  have HSt : Hid (∀ W, Below w.heap.size w W → (convert 22 9 (.slice p zs.length cap)).run Try.prog W = .ok (.string (str zs)) W) := Lib.hid fun W hb => text_run (hrow.on hb)
  have hz := str_size s
  have a4 : (zs.length : Int) ≤ 100 := by omega
  have a5 : ((enc n).length : Int) ≤ 10 := by omega
  have a6 : ((txt s).length : Int) ≤ 1010 := by omega
  have a7 : (s.length : Int) ≤ 1000 := by omega
  obtain ⟨L, hL⟩ : ∃ L, zs.length = L := ⟨_, rfl⟩
  have HLL := Lib.hid hL.symm
  rw [hL] at C1 C2 C3 g1 HRow HSt a4 ⊢
  generalize (enc n).length = E at C1 C4 C7 hE hE2 a5
  generalize (txt s).length = T at C2 C5 C8 a6
  generalize s.length = S at hz a7
  clear hrow hl hs a1 a2 a3 hT hL
  go_enter Try.func3, Try.ntmps3
  go_wp2_with (first
    | (at_make; refine wpList_make_own _ rfl _ _ 22 rfl w.heap.size 5 i0 _ 1 Try.underlying22 hi hz0 hz1 _ _ _ (L + 40) rfl rfl (by omega) (by rw [hz2]; omega) (by unfold maxLen; omega) (Nat.le_refl _) ?_; intro w1 ho hg; have A1 := Lib.hid ho; have D1 := Lib.hid (Below.grown (Below.refl _ _) hg (Nat.le_refl _) (fun k hk => by cases hk)); clear ho hg)
    | (at_builtin; refine wp_rows rfl _ _ rfl w.heap.size _ [] rfl A1.out D1.out.size (.slice p L cap) zs rfl (HRow.out _ D1.out) HL.out ?_; intro u2 w2 HO2 HB2; have D2 := Lib.hid (D1.out.trans HB2.out))
    | (go_at_call 6; (with_reducible refine (C1.out _ _ (rowB HO2.out)).mono ?_); rintro e w3 ⟨px, cx, rfl, ho, hb⟩; have X3 := Lib.hid ho; have HB3 := Lib.hid hb; clear ho hb; have D3 := Lib.hid (D2.out.trans (HB3.out.mono D2.out.size)))
    | (go_at_call 7; (with_reducible refine (C2.out _ _ ((rowB HO2.out).on HB3.out)).mono ?_); rintro e w4 ⟨py, cy, rfl, ho, hb⟩; have Y4 := Lib.hid ho; have HB4 := Lib.hid hb; clear ho hb; have D4 := Lib.hid (D3.out.trans (HB4.out.mono D3.out.size)))
    | (go_at_call 8; (with_reducible refine (C3.out _ _ (((rowB HO2.out).on HB3.out).on HB4.out)).mono ?_); rintro e w5 ⟨pz, cz, rfl, ho, hb⟩; have Z5 := Lib.hid ho; have HB5 := Lib.hid hb; clear ho hb; have D5 := Lib.hid (D4.out.trans (HB5.out.mono D4.out.size))))
  have X5 := Lib.hid (own_below (own_below X3.out HB4.out) HB5.out)
  have Y5 := Lib.hid (own_below Y4.out HB5.out)
  have HS : Hid (∀ w', Below w5.heap.size w5 w' → (convert 22 9 (.slice p L cap)).run Try.prog w' = .ok (.string (str zs)) w' ∧ (convert 22 9 (.slice px (L + E) cx)).run Try.prog w' = .ok (.string (str (zs ++ enc n))) w' ∧ (convert 22 9 (.slice py (L + T) cy)).run Try.prog w' = .ok (.string (str (zs ++ txt s))) w' ∧ (convert 22 9 (.slice pz (L + 8) cz)).run Try.prog w' = .ok (.string (str (zs ++ big n))) w') := Lib.hid fun W hb => ⟨HSt.out _ (D5.out.trans (hb.mono D5.out.size)), text_own (own_below X5.out hb), text_own (own_below Y5.out hb), text_own (own_below Z5.out hb)⟩
  have R5 := Lib.hid (Below.refl w5.heap.size w5).drew
  refine wp_region_held_drew (S := (fun w' => (convert 22 9 (.slice p L cap)).run Try.prog w' = .ok (.string (str zs)) w' ∧ (convert 22 9 (.slice px (L + E) cx)).run Try.prog w' = .ok (.string (str (zs ++ enc n))) w' ∧ (convert 22 9 (.slice py (L + T) cy)).run Try.prog w' = .ok (.string (str (zs ++ txt s))) w' ∧ (convert 22 9 (.slice pz (L + 8) cz)).run Try.prog w' = .ok (.string (str (zs ++ big n))) w')) (by kernel_rfl) (HS.out _ R5.out) (fun hHeld => ?_)
  refine wpAnyH_take (i := 0) (v := ?_) rfl (by kernel_rfl) (by kernel_rfl) (by kernel_rfl) (fun _ _ _ h => h) (Or.inl ⟨by rfl, fun w hSw => ?_⟩) (by assumption) ?_
  rotate_left
  · (try dsimp only at hSw); go_simp; (try with_reducible rfl)
  try simp only [List.getElem_toArray, List.getElem_cons_succ, List.getElem_cons_zero, Act.put, List.setIfInBounds_toArray, List.set_cons_zero, List.set_cons_succ]
  refine wpAnyH_take (i := 1) (v := ?_) rfl (by kernel_rfl) (by kernel_rfl) (by kernel_rfl) (fun _ _ _ h => h) (Or.inl ⟨by rfl, fun w hSw => ?_⟩) (by assumption) ?_
  rotate_left
  · (try dsimp only at hSw); go_simp; (try with_reducible rfl)
  try simp only [List.getElem_toArray, List.getElem_cons_succ, List.getElem_cons_zero, Act.put, List.setIfInBounds_toArray, List.set_cons_zero, List.set_cons_succ]
  refine wpAnyH_take (i := 2) (v := ?_) rfl (by kernel_rfl) (by kernel_rfl) (by kernel_rfl) (fun _ _ _ h => h) (Or.inl ⟨by rfl, fun w hSw => ?_⟩) (by assumption) ?_
  rotate_left
  · (try dsimp only at hSw); go_simp; (try with_reducible rfl)
  try simp only [List.getElem_toArray, List.getElem_cons_succ, List.getElem_cons_zero, Act.put, List.setIfInBounds_toArray, List.set_cons_zero, List.set_cons_succ]
  refine wpAnyH_take (i := 3) (v := ?_) rfl (by kernel_rfl) (by kernel_rfl) (by kernel_rfl) (fun _ _ _ h => h) (Or.inl ⟨by rfl, fun w hSw => ?_⟩) (by assumption) ?_
  rotate_left
  · (try dsimp only at hSw); go_simp; (try with_reducible rfl)
  try simp only [List.getElem_toArray, List.getElem_cons_succ, List.getElem_cons_zero, Act.put, List.setIfInBounds_toArray, List.set_cons_zero, List.set_cons_succ]
  refine wpAnyH_take (i := 4) (v := ?_) rfl (by kernel_rfl) (by kernel_rfl) (by kernel_rfl) (fun _ _ _ h => h) (Or.inl ⟨by rfl, fun w hSw => ?_⟩) (by assumption) ?_
  rotate_left
  · (try dsimp only at hSw); go_simp; (try with_reducible rfl)
  try simp only [List.getElem_toArray, List.getElem_cons_succ, List.getElem_cons_zero, Act.put, List.setIfInBounds_toArray, List.set_cons_zero, List.set_cons_succ]
  refine wpAnyH_ready (rs := [5]) (by kernel_rfl) (by simp) ?_
  refine AllReadyH.cons rfl (fun K hK => ?_) ?_
  rotate_left
  · exact AllReadyH.nil
  go_simp
  (go_at_call 9; (with_reducible refine (C4.out _).mono ?_); rintro e w6 ⟨pp6, cc6, rfl, hcc6, hr, hb⟩; have R6 := Lib.hid (R5.out.trans (hb.mono R5.out.size)); have ht6 := text_run hr; clear hr hb)
  refine hK.out _ _ ?_ (fun hHeld => ?_)
  · exact HS.out _ R6.out
  clear hK K
  try simp only [List.getElem_toArray, List.getElem_cons_succ, List.getElem_cons_zero, Act.put, List.setIfInBounds_toArray, List.set_cons_zero, List.set_cons_succ]
  refine wpAnyH_ready (rs := [6]) (by kernel_rfl) (by simp) ?_
  refine AllReadyH.cons rfl (fun K hK => ?_) ?_
  rotate_left
  · exact AllReadyH.nil
  go_simp
  skip
  refine hK.out _ _ ?_ (fun hHeld => ?_)
  · exact HS.out _ R6.out
  clear hK K
  try simp only [List.getElem_toArray, List.getElem_cons_succ, List.getElem_cons_zero, Act.put, List.setIfInBounds_toArray, List.set_cons_zero, List.set_cons_succ]
  refine wpAnyH_take (i := 7) (v := ?_) rfl (by kernel_rfl) (by kernel_rfl) (by kernel_rfl) (fun _ _ _ h => h) (Or.inl ⟨by rfl, fun w hSw => ?_⟩) (by assumption) ?_
  rotate_left
  · (try dsimp only at hSw); go_simp; (try with_reducible rfl)
  try simp only [List.getElem_toArray, List.getElem_cons_succ, List.getElem_cons_zero, Act.put, List.setIfInBounds_toArray, List.set_cons_zero, List.set_cons_succ]
  refine wpAnyH_take (i := 8) (v := ?_) rfl (by kernel_rfl) (by kernel_rfl) (by kernel_rfl) (fun _ _ _ h => h) (Or.inl ⟨by rfl, fun w hSw => ?_⟩) (by assumption) ?_
  rotate_left
  · (try dsimp only at hSw); go_simp; (try with_reducible rfl)
  try simp only [List.getElem_toArray, List.getElem_cons_succ, List.getElem_cons_zero, Act.put, List.setIfInBounds_toArray, List.set_cons_zero, List.set_cons_succ]
  refine wpAnyH_take (i := 9) (v := ?_) rfl (by kernel_rfl) (by kernel_rfl) (by kernel_rfl) (fun _ _ _ h => h) (Or.inl ⟨by rfl, fun w hSw => ?_⟩) (by assumption) ?_
  rotate_left
  · (try dsimp only at hSw); go_simp; (try with_reducible rfl)
  try simp only [List.getElem_toArray, List.getElem_cons_succ, List.getElem_cons_zero, Act.put, List.setIfInBounds_toArray, List.set_cons_zero, List.set_cons_succ]
  refine wpAnyH_take (i := 10) (v := ?_) rfl (by kernel_rfl) (by kernel_rfl) (by kernel_rfl) (fun _ _ _ h => h) (Or.inl ⟨by rfl, fun w hSw => ?_⟩) (by assumption) ?_
  rotate_left
  · (try dsimp only at hSw); go_simp; (try with_reducible rfl)
  try simp only [List.getElem_toArray, List.getElem_cons_succ, List.getElem_cons_zero, Act.put, List.setIfInBounds_toArray, List.set_cons_zero, List.set_cons_succ]
  refine wpAnyH_take (i := 11) (v := ?_) rfl (by kernel_rfl) (by kernel_rfl) (by kernel_rfl) (fun _ _ _ h => h) (Or.inl ⟨by rfl, fun w hSw => ?_⟩) (by assumption) ?_
  rotate_left
  · (try dsimp only at hSw); go_simp; (try with_reducible rfl)
  try simp only [List.getElem_toArray, List.getElem_cons_succ, List.getElem_cons_zero, Act.put, List.setIfInBounds_toArray, List.set_cons_zero, List.set_cons_succ]
  refine wpAnyH_take (i := 12) (v := ?_) rfl (by kernel_rfl) (by kernel_rfl) (by kernel_rfl) (fun _ _ _ h => h) (Or.inl ⟨by rfl, fun w hSw => ?_⟩) (by assumption) ?_
  rotate_left
  · (try dsimp only at hSw); go_simp; (try with_reducible rfl)
  try simp only [List.getElem_toArray, List.getElem_cons_succ, List.getElem_cons_zero, Act.put, List.setIfInBounds_toArray, List.set_cons_zero, List.set_cons_succ]
  refine wpAnyH_take (i := 13) (v := ?_) rfl (by kernel_rfl) (by kernel_rfl) (by kernel_rfl) (fun _ _ _ h => h) (Or.inl ⟨by rfl, fun w hSw => ?_⟩) (by assumption) ?_
  rotate_left
  · (try dsimp only at hSw); go_simp; (try with_reducible rfl)
  try simp only [List.getElem_toArray, List.getElem_cons_succ, List.getElem_cons_zero, Act.put, List.setIfInBounds_toArray, List.set_cons_zero, List.set_cons_succ]
  refine wpAnyH_take (i := 14) (v := ?_) rfl (by kernel_rfl) (by kernel_rfl) (by kernel_rfl) (fun _ _ _ h => h) (Or.inl ⟨by rfl, fun w hSw => ?_⟩) (by assumption) ?_
  rotate_left
  · (try dsimp only at hSw); go_simp; (try with_reducible rfl)
  try simp only [List.getElem_toArray, List.getElem_cons_succ, List.getElem_cons_zero, Act.put, List.setIfInBounds_toArray, List.set_cons_zero, List.set_cons_succ]
  refine wpAnyH_ready (rs := [15]) (by kernel_rfl) (by simp) ?_
  refine AllReadyH.cons rfl (fun K hK => ?_) ?_
  rotate_left
  · exact AllReadyH.nil
  go_simp
  (go_at_call 10; (with_reducible refine (C5.out _).mono ?_); rintro e w7 ⟨pp7, cc7, rfl, hcc7, hr, hb⟩; have R7 := Lib.hid (R6.out.trans (hb.mono R6.out.size)); have ht7 := text_run hr; clear hr hb)
  refine hK.out _ _ ?_ (fun hHeld => ?_)
  · exact HS.out _ R7.out
  clear hK K
  try simp only [List.getElem_toArray, List.getElem_cons_succ, List.getElem_cons_zero, Act.put, List.setIfInBounds_toArray, List.set_cons_zero, List.set_cons_succ]
  refine wpAnyH_ready (rs := [16]) (by kernel_rfl) (by simp) ?_
  refine AllReadyH.cons rfl (fun K hK => ?_) ?_
  rotate_left
  · exact AllReadyH.nil
  go_simp
  skip
  refine hK.out _ _ ?_ (fun hHeld => ?_)
  · exact HS.out _ R7.out
  clear hK K
  try simp only [List.getElem_toArray, List.getElem_cons_succ, List.getElem_cons_zero, Act.put, List.setIfInBounds_toArray, List.set_cons_zero, List.set_cons_succ]
  refine wpAnyH_take (i := 17) (v := ?_) rfl (by kernel_rfl) (by kernel_rfl) (by kernel_rfl) (fun _ _ _ h => h) (Or.inl ⟨by rfl, fun w hSw => ?_⟩) (by assumption) ?_
  rotate_left
  · (try dsimp only at hSw); go_simp; (try with_reducible rfl)
  try simp only [List.getElem_toArray, List.getElem_cons_succ, List.getElem_cons_zero, Act.put, List.setIfInBounds_toArray, List.set_cons_zero, List.set_cons_succ]
  refine wpAnyH_take (i := 18) (v := ?_) rfl (by kernel_rfl) (by kernel_rfl) (by kernel_rfl) (fun _ _ _ h => h) (Or.inl ⟨by rfl, fun w hSw => ?_⟩) (by assumption) ?_
  rotate_left
  · (try dsimp only at hSw); go_simp; (try with_reducible rfl)
  try simp only [List.getElem_toArray, List.getElem_cons_succ, List.getElem_cons_zero, Act.put, List.setIfInBounds_toArray, List.set_cons_zero, List.set_cons_succ]
  refine wpAnyH_take (i := 19) (v := ?_) rfl (by kernel_rfl) (by kernel_rfl) (by kernel_rfl) (fun _ _ _ h => h) (Or.inl ⟨by rfl, fun w hSw => ?_⟩) (by assumption) ?_
  rotate_left
  · (try dsimp only at hSw); go_simp; (try with_reducible rfl)
  try simp only [List.getElem_toArray, List.getElem_cons_succ, List.getElem_cons_zero, Act.put, List.setIfInBounds_toArray, List.set_cons_zero, List.set_cons_succ]
  refine wpAnyH_take (i := 20) (v := ?_) rfl (by kernel_rfl) (by kernel_rfl) (by kernel_rfl) (fun _ _ _ h => h) (Or.inl ⟨by rfl, fun w hSw => ?_⟩) (by assumption) ?_
  rotate_left
  · (try dsimp only at hSw); go_simp; (try with_reducible rfl)
  try simp only [List.getElem_toArray, List.getElem_cons_succ, List.getElem_cons_zero, Act.put, List.setIfInBounds_toArray, List.set_cons_zero, List.set_cons_succ]
  refine wpAnyH_take (i := 21) (v := ?_) rfl (by kernel_rfl) (by kernel_rfl) (by kernel_rfl) (fun _ _ _ h => h) (Or.inl ⟨by rfl, fun w hSw => ?_⟩) (by assumption) ?_
  rotate_left
  · (try dsimp only at hSw); go_simp; (try with_reducible rfl)
  try simp only [List.getElem_toArray, List.getElem_cons_succ, List.getElem_cons_zero, Act.put, List.setIfInBounds_toArray, List.set_cons_zero, List.set_cons_succ]
  refine wpAnyH_take (i := 22) (v := ?_) rfl (by kernel_rfl) (by kernel_rfl) (by kernel_rfl) (fun _ _ _ h => h) (Or.inl ⟨by rfl, fun w hSw => ?_⟩) (by assumption) ?_
  rotate_left
  · (try dsimp only at hSw); go_simp; (try with_reducible rfl)
  try simp only [List.getElem_toArray, List.getElem_cons_succ, List.getElem_cons_zero, Act.put, List.setIfInBounds_toArray, List.set_cons_zero, List.set_cons_succ]
  refine wpAnyH_take (i := 23) (v := ?_) rfl (by kernel_rfl) (by kernel_rfl) (by kernel_rfl) (fun _ _ _ h => h) (Or.inl ⟨by rfl, fun w hSw => ?_⟩) (by assumption) ?_
  rotate_left
  · (try dsimp only at hSw); go_simp; (try with_reducible rfl)
  try simp only [List.getElem_toArray, List.getElem_cons_succ, List.getElem_cons_zero, Act.put, List.setIfInBounds_toArray, List.set_cons_zero, List.set_cons_succ]
  refine wpAnyH_take (i := 24) (v := ?_) rfl (by kernel_rfl) (by kernel_rfl) (by kernel_rfl) (fun _ _ _ h => h) (Or.inl ⟨by rfl, fun w hSw => ?_⟩) (by assumption) ?_
  rotate_left
  · (try dsimp only at hSw); go_simp; (try with_reducible rfl)
  try simp only [List.getElem_toArray, List.getElem_cons_succ, List.getElem_cons_zero, Act.put, List.setIfInBounds_toArray, List.set_cons_zero, List.set_cons_succ]
  refine wpAnyH_take (i := 25) (v := ?_) rfl (by kernel_rfl) (by kernel_rfl) (by kernel_rfl) (fun _ _ _ h => h) (Or.inl ⟨by rfl, fun w hSw => ?_⟩) (by assumption) ?_
  rotate_left
  · (try dsimp only at hSw); go_simp; (try with_reducible rfl)
  try simp only [List.getElem_toArray, List.getElem_cons_succ, List.getElem_cons_zero, Act.put, List.setIfInBounds_toArray, List.set_cons_zero, List.set_cons_succ]
  refine wpAnyH_ready (rs := [26]) (by kernel_rfl) (by simp) ?_
  refine AllReadyH.cons rfl (fun K hK => ?_) ?_
  rotate_left
  · exact AllReadyH.nil
  go_simp
  (go_at_call 11; (with_reducible refine (C6.out _).mono ?_); rintro e w8 ⟨pp8, cc8, rfl, hcc8, hr, hb⟩; have R8 := Lib.hid (R7.out.trans (hb.mono R7.out.size)); have ht8 := text_run hr; clear hr hb)
  refine hK.out _ _ ?_ (fun hHeld => ?_)
  · exact HS.out _ R8.out
  clear hK K
  try simp only [List.getElem_toArray, List.getElem_cons_succ, List.getElem_cons_zero, Act.put, List.setIfInBounds_toArray, List.set_cons_zero, List.set_cons_succ]
  refine wpAnyH_ready (rs := [27]) (by kernel_rfl) (by simp) ?_
  refine AllReadyH.cons rfl (fun K hK => ?_) ?_
  rotate_left
  · exact AllReadyH.nil
  go_simp
  skip
  refine hK.out _ _ ?_ (fun hHeld => ?_)
  · exact HS.out _ R8.out
  clear hK K
  try simp only [List.getElem_toArray, List.getElem_cons_succ, List.getElem_cons_zero, Act.put, List.setIfInBounds_toArray, List.set_cons_zero, List.set_cons_succ]
  refine wpAnyH_take (i := 28) (v := ?_) rfl (by kernel_rfl) (by kernel_rfl) (by kernel_rfl) (fun _ _ _ h => h) (Or.inl ⟨by rfl, fun w hSw => ?_⟩) (by assumption) ?_
  rotate_left
  · (try dsimp only at hSw); go_simp; (try with_reducible rfl)
  try simp only [List.getElem_toArray, List.getElem_cons_succ, List.getElem_cons_zero, Act.put, List.setIfInBounds_toArray, List.set_cons_zero, List.set_cons_succ]
  refine wpAnyH_take (i := 29) (v := ?_) rfl (by kernel_rfl) (by kernel_rfl) (by kernel_rfl) (fun _ _ _ h => h) (Or.inl ⟨by rfl, fun w hSw => ?_⟩) (by assumption) ?_
  rotate_left
  · (try dsimp only at hSw); go_simp; (try with_reducible rfl)
  try simp only [List.getElem_toArray, List.getElem_cons_succ, List.getElem_cons_zero, Act.put, List.setIfInBounds_toArray, List.set_cons_zero, List.set_cons_succ]
  refine wpAnyH_take (i := 30) (v := ?_) rfl (by kernel_rfl) (by kernel_rfl) (by kernel_rfl) (fun _ _ _ h => h) (Or.inl ⟨by rfl, fun w hSw => ?_⟩) (by assumption) ?_
  rotate_left
  · (try dsimp only at hSw); go_simp; (try with_reducible rfl)
  try simp only [List.getElem_toArray, List.getElem_cons_succ, List.getElem_cons_zero, Act.put, List.setIfInBounds_toArray, List.set_cons_zero, List.set_cons_succ]
  refine wpAnyH_take (i := 31) (v := ?_) rfl (by kernel_rfl) (by kernel_rfl) (by kernel_rfl) (fun _ _ _ h => h) (Or.inl ⟨by rfl, fun w hSw => ?_⟩) (by assumption) ?_
  rotate_left
  · (try dsimp only at hSw); go_simp; (try with_reducible rfl)
  try simp only [List.getElem_toArray, List.getElem_cons_succ, List.getElem_cons_zero, Act.put, List.setIfInBounds_toArray, List.set_cons_zero, List.set_cons_succ]
  refine wpAnyH_take (i := 32) (v := ?_) rfl (by kernel_rfl) (by kernel_rfl) (by kernel_rfl) (fun _ _ _ h => h) (Or.inl ⟨by rfl, fun w hSw => ?_⟩) (by assumption) ?_
  rotate_left
  · (try dsimp only at hSw); go_simp; (try with_reducible rfl)
  try simp only [List.getElem_toArray, List.getElem_cons_succ, List.getElem_cons_zero, Act.put, List.setIfInBounds_toArray, List.set_cons_zero, List.set_cons_succ]
  refine wpAnyH_take (i := 33) (v := ?_) rfl (by kernel_rfl) (by kernel_rfl) (by kernel_rfl) (fun _ _ _ h => h) (Or.inl ⟨by rfl, fun w hSw => ?_⟩) (by assumption) ?_
  rotate_left
  · (try dsimp only at hSw); go_simp; (try with_reducible rfl)
  try simp only [List.getElem_toArray, List.getElem_cons_succ, List.getElem_cons_zero, Act.put, List.setIfInBounds_toArray, List.set_cons_zero, List.set_cons_succ]
  refine wpAnyH_take (i := 34) (v := ?_) rfl (by kernel_rfl) (by kernel_rfl) (by kernel_rfl) (fun _ _ _ h => h) (Or.inl ⟨by rfl, fun w hSw => ?_⟩) (by assumption) ?_
  rotate_left
  · (try dsimp only at hSw); go_simp; (try with_reducible rfl)
  try simp only [List.getElem_toArray, List.getElem_cons_succ, List.getElem_cons_zero, Act.put, List.setIfInBounds_toArray, List.set_cons_zero, List.set_cons_succ]
  refine wpAnyH_take (i := 35) (v := ?_) rfl (by kernel_rfl) (by kernel_rfl) (by kernel_rfl) (fun _ _ _ h => h) (Or.inl ⟨by rfl, fun w hSw => ?_⟩) (by assumption) ?_
  rotate_left
  · (try dsimp only at hSw); go_simp; (try with_reducible rfl)
  try simp only [List.getElem_toArray, List.getElem_cons_succ, List.getElem_cons_zero, Act.put, List.setIfInBounds_toArray, List.set_cons_zero, List.set_cons_succ]
  refine wpAnyH_take (i := 36) (v := ?_) rfl (by kernel_rfl) (by kernel_rfl) (by kernel_rfl) (fun _ _ _ h => h) (Or.inl ⟨by rfl, fun w hSw => ?_⟩) (by assumption) ?_
  rotate_left
  · (try dsimp only at hSw); go_simp; (try with_reducible rfl)
  try simp only [List.getElem_toArray, List.getElem_cons_succ, List.getElem_cons_zero, Act.put, List.setIfInBounds_toArray, List.set_cons_zero, List.set_cons_succ]
  refine wpAnyH_take (i := 37) (v := ?_) rfl (by kernel_rfl) (by kernel_rfl) (by kernel_rfl) (fun _ _ _ h => h) (Or.inl ⟨by rfl, fun w hSw => ?_⟩) (by assumption) ?_
  rotate_left
  · (try dsimp only at hSw); go_simp; (try with_reducible rfl)
  try simp only [List.getElem_toArray, List.getElem_cons_succ, List.getElem_cons_zero, Act.put, List.setIfInBounds_toArray, List.set_cons_zero, List.set_cons_succ]
  refine wpAnyH_done (by kernel_rfl) ?_ _
  have X8 := Lib.hid (own_below X5.out R8.out)
  have Y8 := Lib.hid (own_below Y5.out R8.out)
  have Z8 := Lib.hid (own_below Z5.out R8.out)
  have D8 := Lib.hid (D5.out.trans (R8.out.mono D5.out.size))
  have b2 : Hid (w2.heap.size ≤ w8.heap.size) := Lib.hid (Nat.le_trans HB3.out.size (Nat.le_trans HB4.out.size (Nat.le_trans HB5.out.size R8.out.size)))
  have b3 : Hid (w3.heap.size ≤ w8.heap.size) := Lib.hid (Nat.le_trans HB4.out.size (Nat.le_trans HB5.out.size R8.out.size))
  have b4 : Hid (w4.heap.size ≤ w8.heap.size) := Lib.hid (Nat.le_trans HB5.out.size R8.out.size)
  go_wp2_with (first
    | (at_builtin; refine wp_rowsg rfl _ _ rfl w2.heap.size _ (zs ++ enc n) rfl X8.out b2.out (.slice p L cap) zs rfl (HRow.out _ D8.out) HL1.out ?_; intro u9 w9 HO9 HB9 HG9; have D9 := Lib.hid (D8.out.trans (HB9.out.mono D2.out.size)); have Y9 := Lib.hid (own_apart X3.out (Nat.le_refl _) Y8.out HG9.out); have Z9 := Lib.hid (own_apart X3.out HB4.out.size Z8.out HG9.out); obtain ⟨V9, hc9, hr9⟩ := cut_own HLL.out HO9.out; have G9 := Lib.hid (C7.out _ _ hr9); clear hr9; have b39 := Lib.hid (Nat.le_trans b3.out HG9.out.size); have b49 := Lib.hid (Nat.le_trans b4.out HG9.out.size))
    | (go_at_call 12; (with_reducible refine G9.out.mono ?_); rintro e x9 ⟨rfl, rfl⟩)
    | (at_builtin; refine wp_rowsg rfl _ _ rfl w3.heap.size _ (zs ++ txt s) rfl Y9.out b39.out (.slice p L cap) zs rfl (HRow.out _ D9.out) HL2.out ?_; intro u10 w10 HO10 HB10 HG10; have D10 := Lib.hid (D9.out.trans (HB10.out.mono D3.out.size)); have Z10 := Lib.hid (own_apart Y4.out (Nat.le_refl _) Z9.out HG10.out); obtain ⟨V10, hc10, hr10⟩ := cut_own HLL.out HO10.out; have G10 := Lib.hid (C8.out _ _ hr10); clear hr10; have b410 := Lib.hid (Nat.le_trans b49.out HG10.out.size))
    | (go_at_call 13; (with_reducible refine G10.out.mono ?_); rintro e x10 ⟨rfl, rfl⟩)
    | (at_builtin; refine wp_rowsg rfl _ _ rfl w4.heap.size _ (zs ++ big n) rfl Z10.out b410.out (.slice p L cap) zs rfl (HRow.out _ D10.out) HL3.out ?_; intro u11 w11 HO11 HB11 HG11; have D11 := Lib.hid (D10.out.trans (HB11.out.mono D4.out.size)); obtain ⟨V11, hc11, hr11⟩ := cut_own HLL.out HO11.out; have G11 := Lib.hid (C9.out _ _ hr11); clear hr11)
    | (go_at_call 14; (with_reducible refine G11.out.mono ?_); rintro e x11 ⟨rfl, rfl⟩)
    | (go_at_call 9; (with_reducible refine (C4.out _).mono ?_); rintro e w12 ⟨p12, c12, rfl, -, -, hb⟩; have D12 := Lib.hid (D11.out.trans (hb.mono D11.out.size)); clear hb)
    | (go_at_call 10; (with_reducible refine (C5.out _).mono ?_); rintro e w13 ⟨p13, c13, rfl, -, -, hb⟩; have D13 := Lib.hid (D12.out.trans (hb.mono D12.out.size)); clear hb)
    | (go_at_call 5; (with_reducible refine (CW.out _).mono ?_); rintro e w14 ⟨rfl, hb⟩; have D14 := Lib.hid (D13.out.trans (hb.mono D13.out.size)); clear hb))
  go_ret
  exact ⟨rfl, D14.out⟩
end Go.Proofs.Ythleonbojmpclaa.Wir
