/- The statement's function of layer 9 (wire), the other ways. Conditions: as in the text before. (Written by tools/gen_wire.py.) -/
import Derived.Test.YthleonbojmpclaaWirH
namespace Go.Proofs.Ythleonbojmpclaa.Wir
open Go.RowKit Cmd Bat
set_option linter.unusedVariables false
set_option linter.unusedSimpArgs false

set_option maxHeartbeats 16000000 in
set_option maxRecDepth 100000 in
theorem gets_end (v : Value) (zs : List UInt8) (most : Nat) (w : World) (h : layB.Row w v zs) (hl : zs.length ≤ 1000) (hm : most ≤ 255) (n j : Nat) (hrd : rd zs 0 0 = (n, j, 0)) (hn : n < 18446744073709551616) (hj : j ≤ zs.length) (hlong : ¬ most < n) (hend : zs.length - j < n) (h8 : zs.length < 8) : Calls Try.prog 4 #[v, .int .u8 most] w (RetBelow (.bool true) w) := by
  have hrow := h
  obtain ⟨p, cap, rfl, g1, g2, -⟩ := h
  have HRow : Hid (∀ W, Below w.heap.size w W → layB.Row W (.slice p zs.length cap) zs) := Lib.hid fun W hb => hrow.on hb
  have CW := Lib.hid works_any
  have hg := gt_end hrd hlong hend
  have hn1 : ¬ (most : Int) < n := by omega
  have hn2 : (zs.length : Int) - j < n := by omega
  have C1 : Hid (∀ W V, layB.Row W V zs → Calls Try.prog 12 #[V] W fun e w' => e = .returned (.tuple #[.int .u64 (n : Int), .int .i64 (j : Int), .int .i64 0]) ∧ W = w') := Lib.hid fun W V hr => by
    have := get_any V zs W hr; rw [hrd] at this; exact this
  have C2 : Hid (∀ W V, layB.Row W V zs → Calls Try.prog 15 #[V] W fun e w' => e = .returned (.tuple #[.int .u64 (n : Int), .int .i64 (j : Int), .int .i64 0]) ∧ W = w') := Lib.hid fun W V hr => by
    have := read_any V zs W hr; rw [hrd] at this; exact this
  have C3 : Hid (∀ W V, layB.Row W V zs → Calls Try.prog 13 #[V, .int .i64 most] W fun e w' => e = .returned (.tuple #[.string ⟨#[]⟩, .int .i64 0, .int .i64 4]) ∧ W = w') := Lib.hid fun W V hr => by
    have := gettext_any V zs most W hr (by omega) (by omega); rw [hg] at this; exact this
  have C4 : Hid (∀ W V, layB.Row W V zs → Calls Try.prog 14 #[V] W fun e w' => e = .returned (.tuple #[.int .u64 0, .int .i64 4]) ∧ W = w') := Lib.hid fun W V hr => by
    have := geteight_any V zs W hr; rw [eight_short h8] at this; exact this
  have hl8 : (zs.length : Int) < 8 := by omega
  have HL : Hid (([] : List UInt8).length + zs.length ≤ 1000000) := Lib.hid (by rw [List.length_nil]; omega)
  have hl' : (zs.length : Int) ≤ 1000 := by omega
  have hm' : (most : Int) ≤ 255 := by omega
  have A0 := Lib.hid (made_row w w.heap.size (Nat.le_refl _))
  have B0 := Lib.hid (below_one w (.cells #[] 5))
  have AL := Lib.hid (fun W h o => alloc_le (n := w.heap.size) (w := W) h o)
  have BL := Lib.hid (fun W h o => below_one' (n := w.heap.size) (w := W) h o)
  have MR := Lib.hid (fun W h => made_row W w.heap.size h)
  clear hrow hrd hg h8
  go_enter Try.func4, Try.ntmps4
  go_wp2_with (first
    | (at_builtin; refine wp_rows rfl _ _ rfl w.heap.size _ [] rfl A0.out (AL.out _ (Nat.le_refl _) _) (.slice p zs.length cap) zs rfl (HRow.out _ B0.out) HL.out ?_; intro v1 w1 HO1 HB1; have D1 := Lib.hid (B0.out.trans HB1.out); have A1 := Lib.hid (MR.out _ D1.out.size); have D1' := Lib.hid (D1.out.trans (BL.out _ D1.out.size (.cells #[] 5))))
    | (at_builtin; refine wp_rows rfl _ _ rfl w.heap.size _ [] rfl A1.out (AL.out _ D1.out.size _) (.slice p zs.length cap) zs rfl (HRow.out _ D1'.out) HL.out ?_; intro v2 w2 HO2 HB2; have D2 := Lib.hid (D1'.out.trans HB2.out))
    | (go_at_call 12; (with_reducible refine (C1.out _ _ (rowB HO1.out)).mono ?_); rintro e x1 ⟨rfl, rfl⟩)
    | (go_at_call 15; (with_reducible refine (C2.out _ _ (HRow.out _ D1.out)).mono ?_); rintro e x1 ⟨rfl, rfl⟩)
    | (go_at_call 13; (with_reducible refine (C3.out _ _ (rowB HO2.out)).mono ?_); rintro e x2 ⟨rfl, rfl⟩)
    | (go_at_call 14; (with_reducible refine (C4.out _ _ (HRow.out _ D2.out)).mono ?_); rintro e x2 ⟨rfl, rfl⟩)
    | (go_at_call 5; (with_reducible refine (CW.out _).mono ?_); rintro e w3 ⟨rfl, hb⟩; have D3 := Lib.hid (D2.out.trans (hb.mono D2.out.size)); clear hb))
  go_ret
  exact ⟨rfl, D3.out⟩

set_option maxHeartbeats 16000000 in
set_option maxRecDepth 100000 in
theorem gets_end8 (v : Value) (zs : List UInt8) (most : Nat) (w : World) (h : layB.Row w v zs) (hl : zs.length ≤ 1000) (hm : most ≤ 255) (n j : Nat) (hrd : rd zs 0 0 = (n, j, 0)) (hn : n < 18446744073709551616) (hj : j ≤ zs.length) (hlong : ¬ most < n) (hend : zs.length - j < n) (h8 : ¬ zs.length < 8) : Calls Try.prog 4 #[v, .int .u8 most] w (RetBelow (.bool true) w) := by
  have hrow := h
  obtain ⟨p, cap, rfl, g1, g2, -⟩ := h
  have HRow : Hid (∀ W, Below w.heap.size w W → layB.Row W (.slice p zs.length cap) zs) := Lib.hid fun W hb => hrow.on hb
  have CW := Lib.hid works_any
  have hg := gt_end hrd hlong hend
  have hn1 : ¬ (most : Int) < n := by omega
  have hn2 : (zs.length : Int) - j < n := by omega
  have C1 : Hid (∀ W V, layB.Row W V zs → Calls Try.prog 12 #[V] W fun e w' => e = .returned (.tuple #[.int .u64 (n : Int), .int .i64 (j : Int), .int .i64 0]) ∧ W = w') := Lib.hid fun W V hr => by
    have := get_any V zs W hr; rw [hrd] at this; exact this
  have C2 : Hid (∀ W V, layB.Row W V zs → Calls Try.prog 15 #[V] W fun e w' => e = .returned (.tuple #[.int .u64 (n : Int), .int .i64 (j : Int), .int .i64 0]) ∧ W = w') := Lib.hid fun W V hr => by
    have := read_any V zs W hr; rw [hrd] at this; exact this
  have C3 : Hid (∀ W V, layB.Row W V zs → Calls Try.prog 13 #[V, .int .i64 most] W fun e w' => e = .returned (.tuple #[.string ⟨#[]⟩, .int .i64 0, .int .i64 4]) ∧ W = w') := Lib.hid fun W V hr => by
    have := gettext_any V zs most W hr (by omega) (by omega); rw [hg] at this; exact this
  have C4 : Hid (∀ W V, layB.Row W V zs → Calls Try.prog 14 #[V] W fun e w' => e = .returned (.tuple #[.int .u64 ((un (zs.take 8) : Nat) : Int), .int .i64 0]) ∧ W = w') := Lib.hid fun W V hr => by
    have := geteight_any V zs W hr; rw [eight_long h8] at this; exact this
  have C5 : Hid (∀ W, Calls Try.prog 11 #[.int .u64 ((un (zs.take 8) : Nat) : Int)] W (GivesR (zs.take 8) 8 W)) := Lib.hid fun W =>
    (big_any _ W (un_word zs)).mono fun e w' h => gives_row h (big_of_un (by rw [List.length_take]; omega)) (by rw [List.length_take]; omega)
  obtain ⟨V8, hc8, ht8⟩ := cut_eight p zs.length cap (by omega) g1 g2
  have HT8 : Hid (∀ W, Below w.heap.size w W → (convert 22 9 V8).run Try.prog W = .ok (.string (str (zs.take 8))) W) := Lib.hid fun W hb => ht8 zs rfl W (HRow.out W hb)
  have hl8 : ¬ (zs.length : Int) < 8 := by omega
  generalize zs.take 8 = e8 at C4 C5 HT8
  generalize un e8 = u8v at C4 C5
  clear ht8
  have HL : Hid (([] : List UInt8).length + zs.length ≤ 1000000) := Lib.hid (by rw [List.length_nil]; omega)
  have hl' : (zs.length : Int) ≤ 1000 := by omega
  have hm' : (most : Int) ≤ 255 := by omega
  have A0 := Lib.hid (made_row w w.heap.size (Nat.le_refl _))
  have B0 := Lib.hid (below_one w (.cells #[] 5))
  have AL := Lib.hid (fun W h o => alloc_le (n := w.heap.size) (w := W) h o)
  have BL := Lib.hid (fun W h o => below_one' (n := w.heap.size) (w := W) h o)
  have MR := Lib.hid (fun W h => made_row W w.heap.size h)
  clear hrow hrd hg h8
  go_enter Try.func4, Try.ntmps4
  go_wp2_with (first
    | (at_builtin; refine wp_rows rfl _ _ rfl w.heap.size _ [] rfl A0.out (AL.out _ (Nat.le_refl _) _) (.slice p zs.length cap) zs rfl (HRow.out _ B0.out) HL.out ?_; intro v1 w1 HO1 HB1; have D1 := Lib.hid (B0.out.trans HB1.out); have A1 := Lib.hid (MR.out _ D1.out.size); have D1' := Lib.hid (D1.out.trans (BL.out _ D1.out.size (.cells #[] 5))))
    | (at_builtin; refine wp_rows rfl _ _ rfl w.heap.size _ [] rfl A1.out (AL.out _ D1.out.size _) (.slice p zs.length cap) zs rfl (HRow.out _ D1'.out) HL.out ?_; intro v2 w2 HO2 HB2; have D2 := Lib.hid (D1'.out.trans HB2.out))
    | (go_at_call 12; (with_reducible refine (C1.out _ _ (rowB HO1.out)).mono ?_); rintro e x1 ⟨rfl, rfl⟩)
    | (go_at_call 15; (with_reducible refine (C2.out _ _ (HRow.out _ D1.out)).mono ?_); rintro e x1 ⟨rfl, rfl⟩)
    | (go_at_call 13; (with_reducible refine (C3.out _ _ (rowB HO2.out)).mono ?_); rintro e x2 ⟨rfl, rfl⟩)
    | (go_at_call 14; (with_reducible refine (C4.out _ _ (HRow.out _ D2.out)).mono ?_); rintro e x2 ⟨rfl, rfl⟩)
    | (go_at_call 5; (with_reducible refine (CW.out _).mono ?_); rintro e w3 ⟨rfl, hb⟩; have D3 := Lib.hid (D2.out.trans (hb.mono D2.out.size)); clear hb))
  have D2d := Lib.hid D2.out.drew
  refine wp_region_held_drew (S := (fun w' => (convert 22 9 V8).run Try.prog w' = .ok (.string (str e8)) w')) (by kernel_rfl) (HT8.out _ D2d.out) (fun hHeld => ?_)
  refine wpAnyH_take (i := 0) (v := ?_) rfl (by kernel_rfl) (by kernel_rfl) (by kernel_rfl) (fun _ _ _ h => h) (Or.inl ⟨by rfl, fun w hSw => ?_⟩) (by assumption) ?_
  rotate_left
  · (try dsimp only at hSw); go_simp; (try with_reducible rfl)
  try simp only [List.getElem_toArray, List.getElem_cons_succ, List.getElem_cons_zero, Act.put, List.setIfInBounds_toArray, List.set_cons_zero, List.set_cons_succ]
  refine wpAnyH_take (i := 3) (v := ?_) rfl (by kernel_rfl) (by kernel_rfl) (by kernel_rfl) (fun _ _ _ h => h) (Or.inl ⟨by rfl, fun w hSw => ?_⟩) (by assumption) ?_
  rotate_left
  · (try dsimp only at hSw); go_simp; (try with_reducible rfl)
  try simp only [List.getElem_toArray, List.getElem_cons_succ, List.getElem_cons_zero, Act.put, List.setIfInBounds_toArray, List.set_cons_zero, List.set_cons_succ]
  refine wpAnyH_take (i := 4) (v := ?_) rfl (by kernel_rfl) (by kernel_rfl) (by kernel_rfl) (fun _ _ _ h => h) (Or.inl ⟨by rfl, fun w hSw => ?_⟩) (by assumption) ?_
  rotate_left
  · (try dsimp only at hSw); go_simp; (try with_reducible rfl)
  try simp only [List.getElem_toArray, List.getElem_cons_succ, List.getElem_cons_zero, Act.put, List.setIfInBounds_toArray, List.set_cons_zero, List.set_cons_succ]
  refine wpAnyH_take (i := 5) (v := ?_) rfl (by kernel_rfl) (by kernel_rfl) (by kernel_rfl) (fun _ _ _ h => h) (Or.inl ⟨by rfl, fun w hSw => ?_⟩) (by assumption) ?_
  rotate_left
  · (try dsimp only at hSw); go_simp; (try with_reducible rfl)
  try simp only [List.getElem_toArray, List.getElem_cons_succ, List.getElem_cons_zero, Act.put, List.setIfInBounds_toArray, List.set_cons_zero, List.set_cons_succ]
  refine wpAnyH_ready (rs := [1]) (by kernel_rfl) (by simp) ?_
  refine AllReadyH.cons rfl (fun K hK => ?_) ?_
  rotate_left
  · exact AllReadyH.nil
  go_simp
  (go_at_call 11; (with_reducible refine (C5.out _).mono ?_); rintro e w3 ⟨pB, cB, rfl, hcB, hrB, hb⟩; have D3 := Lib.hid (D2d.out.trans (hb.mono D2d.out.size)); have htB := text_run hrB; clear hrB hb)
  refine hK.out _ _ ?_ (fun hHeld => ?_)
  · exact HT8.out _ D3.out
  clear hK K
  try simp only [List.getElem_toArray, List.getElem_cons_succ, List.getElem_cons_zero, Act.put, List.setIfInBounds_toArray, List.set_cons_zero, List.set_cons_succ]
  refine wpAnyH_ready (rs := [2]) (by kernel_rfl) (by simp) ?_
  refine AllReadyH.cons rfl (fun K hK => ?_) ?_
  rotate_left
  · exact AllReadyH.nil
  go_simp
  skip
  refine hK.out _ _ ?_ (fun hHeld => ?_)
  · exact HT8.out _ D3.out
  clear hK K
  try simp only [List.getElem_toArray, List.getElem_cons_succ, List.getElem_cons_zero, Act.put, List.setIfInBounds_toArray, List.set_cons_zero, List.set_cons_succ]
  refine wpAnyH_take (i := 6) (v := ?_) rfl (by kernel_rfl) (by kernel_rfl) (by kernel_rfl) (fun _ _ _ h => h) (Or.inl ⟨by rfl, fun w hSw => ?_⟩) (by assumption) ?_
  rotate_left
  · (try dsimp only at hSw); go_simp; (try with_reducible rfl)
  try simp only [List.getElem_toArray, List.getElem_cons_succ, List.getElem_cons_zero, Act.put, List.setIfInBounds_toArray, List.set_cons_zero, List.set_cons_succ]
  refine wpAnyH_take (i := 7) (v := ?_) rfl (by kernel_rfl) (by kernel_rfl) (by kernel_rfl) (fun _ _ _ h => h) (Or.inl ⟨by rfl, fun w hSw => ?_⟩) (by assumption) ?_
  rotate_left
  · (try dsimp only at hSw); go_simp; (try with_reducible rfl)
  try simp only [List.getElem_toArray, List.getElem_cons_succ, List.getElem_cons_zero, Act.put, List.setIfInBounds_toArray, List.set_cons_zero, List.set_cons_succ]
  refine wpAnyH_take (i := 8) (v := ?_) rfl (by kernel_rfl) (by kernel_rfl) (by kernel_rfl) (fun _ _ _ h => h) (Or.inl ⟨by rfl, fun w hSw => ?_⟩) (by assumption) ?_
  rotate_left
  · (try dsimp only at hSw); go_simp; (try with_reducible rfl)
  try simp only [List.getElem_toArray, List.getElem_cons_succ, List.getElem_cons_zero, Act.put, List.setIfInBounds_toArray, List.set_cons_zero, List.set_cons_succ]
  refine wpAnyH_take (i := 9) (v := ?_) rfl (by kernel_rfl) (by kernel_rfl) (by kernel_rfl) (fun _ _ _ h => h) (Or.inl ⟨by rfl, fun w hSw => ?_⟩) (by assumption) ?_
  rotate_left
  · (try dsimp only at hSw); go_simp; (try with_reducible rfl)
  try simp only [List.getElem_toArray, List.getElem_cons_succ, List.getElem_cons_zero, Act.put, List.setIfInBounds_toArray, List.set_cons_zero, List.set_cons_succ]
  refine wpAnyH_take (i := 10) (v := ?_) rfl (by kernel_rfl) (by kernel_rfl) (by kernel_rfl) (fun _ _ _ h => h) (Or.inl ⟨by rfl, fun w hSw => ?_⟩) (by assumption) ?_
  rotate_left
  · (try dsimp only at hSw); go_simp; (try with_reducible rfl)
  try simp only [List.getElem_toArray, List.getElem_cons_succ, List.getElem_cons_zero, Act.put, List.setIfInBounds_toArray, List.set_cons_zero, List.set_cons_succ]
  refine wpAnyH_take (i := 11) (v := ?_) rfl (by kernel_rfl) (by kernel_rfl) (by kernel_rfl) (fun _ _ _ h => h) (Or.inl ⟨by rfl, fun w hSw => ?_⟩) (by assumption) ?_
  rotate_left
  · (try dsimp only at hSw); go_simp; (try with_reducible rfl)
  try simp only [List.getElem_toArray, List.getElem_cons_succ, List.getElem_cons_zero, Act.put, List.setIfInBounds_toArray, List.set_cons_zero, List.set_cons_succ]
  refine wpAnyH_ready (rs := [12]) (by kernel_rfl) (by simp) ?_
  refine AllReadyH.cons rfl (fun K hK => ?_) ?_
  rotate_left
  · exact AllReadyH.nil
  go_simp
  (go_at_call 5; (with_reducible refine (CW.out _).mono ?_); rintro e w4 ⟨rfl, hb⟩; have D4 := Lib.hid (D3.out.trans (hb.mono D3.out.size)); clear hb)
  refine hK.out _ _ ?_ (fun hHeld => ?_)
  · exact HT8.out _ D4.out
  clear hK K
  try simp only [List.getElem_toArray, List.getElem_cons_succ, List.getElem_cons_zero, Act.put, List.setIfInBounds_toArray, List.set_cons_zero, List.set_cons_succ]
  refine wpAnyH_take (i := 13) (v := ?_) rfl (by kernel_rfl) (by kernel_rfl) (by kernel_rfl) (fun _ _ _ h => h) (Or.inl ⟨by rfl, fun w hSw => ?_⟩) (by assumption) ?_
  rotate_left
  · (try dsimp only at hSw); go_simp; (try with_reducible rfl)
  try simp only [List.getElem_toArray, List.getElem_cons_succ, List.getElem_cons_zero, Act.put, List.setIfInBounds_toArray, List.set_cons_zero, List.set_cons_succ]
  refine wpAnyH_take (i := 14) (v := ?_) rfl (by kernel_rfl) (by kernel_rfl) (by kernel_rfl) (fun _ _ _ h => h) (Or.inl ⟨by rfl, fun w hSw => ?_⟩) (by assumption) ?_
  rotate_left
  · (try dsimp only at hSw); go_simp; (try with_reducible rfl)
  try simp only [List.getElem_toArray, List.getElem_cons_succ, List.getElem_cons_zero, Act.put, List.setIfInBounds_toArray, List.set_cons_zero, List.set_cons_succ]
  refine wpAnyH_done (by kernel_rfl) ?_ _
  go_wp2
  go_ret
  exact ⟨rfl, D4.out⟩

set_option maxHeartbeats 16000000 in
set_option maxRecDepth 100000 in
theorem gets_ok (v : Value) (zs : List UInt8) (most : Nat) (w : World) (h : layB.Row w v zs) (hl : zs.length ≤ 1000) (hm : most ≤ 255) (n j : Nat) (hrd : rd zs 0 0 = (n, j, 0)) (hn : n < 18446744073709551616) (hj : j ≤ zs.length) (hlong : ¬ most < n) (hend : ¬ zs.length - j < n) (h8 : zs.length < 8) : Calls Try.prog 4 #[v, .int .u8 most] w (RetBelow (.bool true) w) := by
  have hrow := h
  obtain ⟨p, cap, rfl, g1, g2, -⟩ := h
  have HRow : Hid (∀ W, Below w.heap.size w W → layB.Row W (.slice p zs.length cap) zs) := Lib.hid fun W hb => hrow.on hb
  have CW := Lib.hid works_any
  have hg := gt_ok hrd hlong hend
  have hn1 : ¬ (most : Int) < n := by omega
  have hn2 : ¬ (zs.length : Int) - j < n := by omega
  have C1 : Hid (∀ W V, layB.Row W V zs → Calls Try.prog 12 #[V] W fun e w' => e = .returned (.tuple #[.int .u64 (n : Int), .int .i64 (j : Int), .int .i64 0]) ∧ W = w') := Lib.hid fun W V hr => by
    have := get_any V zs W hr; rw [hrd] at this; exact this
  have C2 : Hid (∀ W V, layB.Row W V zs → Calls Try.prog 15 #[V] W fun e w' => e = .returned (.tuple #[.int .u64 (n : Int), .int .i64 (j : Int), .int .i64 0]) ∧ W = w') := Lib.hid fun W V hr => by
    have := read_any V zs W hr; rw [hrd] at this; exact this
  have C3 : Hid (∀ W V, layB.Row W V zs → Calls Try.prog 13 #[V, .int .i64 most] W fun e w' => e = .returned (.tuple #[.string (str ((zs.take (j + n)).drop j)), .int .i64 ((j : Int) + n), .int .i64 0]) ∧ W = w') := Lib.hid fun W V hr => by
    have := gettext_any V zs most W hr (by omega) (by omega); rw [hg] at this; exact this
  have C4 : Hid (∀ W V, layB.Row W V zs → Calls Try.prog 14 #[V] W fun e w' => e = .returned (.tuple #[.int .u64 0, .int .i64 4]) ∧ W = w') := Lib.hid fun W V hr => by
    have := geteight_any V zs W hr; rw [eight_short h8] at this; exact this
  have hl8 : (zs.length : Int) < 8 := by omega
  obtain ⟨VT, hcT, htT⟩ := cut_text p zs.length cap j n (by omega) g1 g2
  have HTT : Hid (∀ W, Below w.heap.size w W → (convert 22 9 VT).run Try.prog W = .ok (.string (str ((zs.take (j + n)).drop j))) W) := Lib.hid fun W hb => htT zs rfl W (HRow.out W hb)
  have HX : Hid (zs.length + zs.length ≤ 1000000) := Lib.hid (by omega)
  generalize (zs.take (j + n)).drop j = eT at C3 HTT
  clear htT
  have HL : Hid (([] : List UInt8).length + zs.length ≤ 1000000) := Lib.hid (by rw [List.length_nil]; omega)
  have hl' : (zs.length : Int) ≤ 1000 := by omega
  have hm' : (most : Int) ≤ 255 := by omega
  have A0 := Lib.hid (made_row w w.heap.size (Nat.le_refl _))
  have B0 := Lib.hid (below_one w (.cells #[] 5))
  have AL := Lib.hid (fun W h o => alloc_le (n := w.heap.size) (w := W) h o)
  have BL := Lib.hid (fun W h o => below_one' (n := w.heap.size) (w := W) h o)
  have MR := Lib.hid (fun W h => made_row W w.heap.size h)
  clear hrow hrd hg h8
  go_enter Try.func4, Try.ntmps4
  go_wp2_with (first
    | (at_builtin; refine wp_rows rfl _ _ rfl w.heap.size _ [] rfl A0.out (AL.out _ (Nat.le_refl _) _) (.slice p zs.length cap) zs rfl (HRow.out _ B0.out) HL.out ?_; intro v1 w1 HO1 HB1; have D1 := Lib.hid (B0.out.trans HB1.out); have A1 := Lib.hid (MR.out _ D1.out.size); have D1' := Lib.hid (D1.out.trans (BL.out _ D1.out.size (.cells #[] 5))))
    | (at_builtin; refine wp_rows rfl _ _ rfl w.heap.size _ [] rfl A1.out (AL.out _ D1.out.size _) (.slice p zs.length cap) zs rfl (HRow.out _ D1'.out) HL.out ?_; intro v2 w2 HO2 HB2; have D2 := Lib.hid (D1'.out.trans HB2.out); have htw := HTT.out _ D2.out)
    | (go_at_call 12; (with_reducible refine (C1.out _ _ (rowB HO1.out)).mono ?_); rintro e x1 ⟨rfl, rfl⟩)
    | (go_at_call 15; (with_reducible refine (C2.out _ _ (HRow.out _ D1.out)).mono ?_); rintro e x1 ⟨rfl, rfl⟩)
    | (go_at_call 13; (with_reducible refine (C3.out _ _ (rowB HO2.out)).mono ?_); rintro e x2 ⟨rfl, rfl⟩)
    | (go_at_call 14; (with_reducible refine (C4.out _ _ (HRow.out _ D2.out)).mono ?_); rintro e x2 ⟨rfl, rfl⟩)
    | (go_at_call 5; (with_reducible refine (CW.out _).mono ?_); rintro e w3 ⟨rfl, hb⟩; have D3 := Lib.hid (D2.out.trans (hb.mono D2.out.size)); clear hb))
  go_ret
  exact ⟨rfl, D3.out⟩

set_option maxHeartbeats 16000000 in
set_option maxRecDepth 100000 in
theorem gets_ok8 (v : Value) (zs : List UInt8) (most : Nat) (w : World) (h : layB.Row w v zs) (hl : zs.length ≤ 1000) (hm : most ≤ 255) (n j : Nat) (hrd : rd zs 0 0 = (n, j, 0)) (hn : n < 18446744073709551616) (hj : j ≤ zs.length) (hlong : ¬ most < n) (hend : ¬ zs.length - j < n) (h8 : ¬ zs.length < 8) : Calls Try.prog 4 #[v, .int .u8 most] w (RetBelow (.bool true) w) := by
  have hrow := h
  obtain ⟨p, cap, rfl, g1, g2, -⟩ := h
  have HRow : Hid (∀ W, Below w.heap.size w W → layB.Row W (.slice p zs.length cap) zs) := Lib.hid fun W hb => hrow.on hb
  have CW := Lib.hid works_any
  have hg := gt_ok hrd hlong hend
  have hn1 : ¬ (most : Int) < n := by omega
  have hn2 : ¬ (zs.length : Int) - j < n := by omega
  have C1 : Hid (∀ W V, layB.Row W V zs → Calls Try.prog 12 #[V] W fun e w' => e = .returned (.tuple #[.int .u64 (n : Int), .int .i64 (j : Int), .int .i64 0]) ∧ W = w') := Lib.hid fun W V hr => by
    have := get_any V zs W hr; rw [hrd] at this; exact this
  have C2 : Hid (∀ W V, layB.Row W V zs → Calls Try.prog 15 #[V] W fun e w' => e = .returned (.tuple #[.int .u64 (n : Int), .int .i64 (j : Int), .int .i64 0]) ∧ W = w') := Lib.hid fun W V hr => by
    have := read_any V zs W hr; rw [hrd] at this; exact this
  have C3 : Hid (∀ W V, layB.Row W V zs → Calls Try.prog 13 #[V, .int .i64 most] W fun e w' => e = .returned (.tuple #[.string (str ((zs.take (j + n)).drop j)), .int .i64 ((j : Int) + n), .int .i64 0]) ∧ W = w') := Lib.hid fun W V hr => by
    have := gettext_any V zs most W hr (by omega) (by omega); rw [hg] at this; exact this
  have C4 : Hid (∀ W V, layB.Row W V zs → Calls Try.prog 14 #[V] W fun e w' => e = .returned (.tuple #[.int .u64 ((un (zs.take 8) : Nat) : Int), .int .i64 0]) ∧ W = w') := Lib.hid fun W V hr => by
    have := geteight_any V zs W hr; rw [eight_long h8] at this; exact this
  have C5 : Hid (∀ W, Calls Try.prog 11 #[.int .u64 ((un (zs.take 8) : Nat) : Int)] W (GivesR (zs.take 8) 8 W)) := Lib.hid fun W =>
    (big_any _ W (un_word zs)).mono fun e w' h => gives_row h (big_of_un (by rw [List.length_take]; omega)) (by rw [List.length_take]; omega)
  obtain ⟨V8, hc8, ht8⟩ := cut_eight p zs.length cap (by omega) g1 g2
  have HT8 : Hid (∀ W, Below w.heap.size w W → (convert 22 9 V8).run Try.prog W = .ok (.string (str (zs.take 8))) W) := Lib.hid fun W hb => ht8 zs rfl W (HRow.out W hb)
  have hl8 : ¬ (zs.length : Int) < 8 := by omega
  generalize zs.take 8 = e8 at C4 C5 HT8
  generalize un e8 = u8v at C4 C5
  clear ht8
  obtain ⟨VT, hcT, htT⟩ := cut_text p zs.length cap j n (by omega) g1 g2
  have HTT : Hid (∀ W, Below w.heap.size w W → (convert 22 9 VT).run Try.prog W = .ok (.string (str ((zs.take (j + n)).drop j))) W) := Lib.hid fun W hb => htT zs rfl W (HRow.out W hb)
  have HX : Hid (zs.length + zs.length ≤ 1000000) := Lib.hid (by omega)
  generalize (zs.take (j + n)).drop j = eT at C3 HTT
  clear htT
  have HL : Hid (([] : List UInt8).length + zs.length ≤ 1000000) := Lib.hid (by rw [List.length_nil]; omega)
  have hl' : (zs.length : Int) ≤ 1000 := by omega
  have hm' : (most : Int) ≤ 255 := by omega
  have A0 := Lib.hid (made_row w w.heap.size (Nat.le_refl _))
  have B0 := Lib.hid (below_one w (.cells #[] 5))
  have AL := Lib.hid (fun W h o => alloc_le (n := w.heap.size) (w := W) h o)
  have BL := Lib.hid (fun W h o => below_one' (n := w.heap.size) (w := W) h o)
  have MR := Lib.hid (fun W h => made_row W w.heap.size h)
  clear hrow hrd hg h8
  go_enter Try.func4, Try.ntmps4
  go_wp2_with (first
    | (at_builtin; refine wp_rows rfl _ _ rfl w.heap.size _ [] rfl A0.out (AL.out _ (Nat.le_refl _) _) (.slice p zs.length cap) zs rfl (HRow.out _ B0.out) HL.out ?_; intro v1 w1 HO1 HB1; have D1 := Lib.hid (B0.out.trans HB1.out); have A1 := Lib.hid (MR.out _ D1.out.size); have D1' := Lib.hid (D1.out.trans (BL.out _ D1.out.size (.cells #[] 5))))
    | (at_builtin; refine wp_rows rfl _ _ rfl w.heap.size _ [] rfl A1.out (AL.out _ D1.out.size _) (.slice p zs.length cap) zs rfl (HRow.out _ D1'.out) HL.out ?_; intro v2 w2 HO2 HB2; have D2 := Lib.hid (D1'.out.trans HB2.out); have htw := HTT.out _ D2.out)
    | (go_at_call 12; (with_reducible refine (C1.out _ _ (rowB HO1.out)).mono ?_); rintro e x1 ⟨rfl, rfl⟩)
    | (go_at_call 15; (with_reducible refine (C2.out _ _ (HRow.out _ D1.out)).mono ?_); rintro e x1 ⟨rfl, rfl⟩)
    | (go_at_call 13; (with_reducible refine (C3.out _ _ (rowB HO2.out)).mono ?_); rintro e x2 ⟨rfl, rfl⟩)
    | (go_at_call 14; (with_reducible refine (C4.out _ _ (HRow.out _ D2.out)).mono ?_); rintro e x2 ⟨rfl, rfl⟩)
    | (go_at_call 5; (with_reducible refine (CW.out _).mono ?_); rintro e w3 ⟨rfl, hb⟩; have D3 := Lib.hid (D2.out.trans (hb.mono D2.out.size)); clear hb))
  have D2d := Lib.hid D2.out.drew
  refine wp_region_held_drew (S := (fun w' => (convert 22 9 V8).run Try.prog w' = .ok (.string (str e8)) w')) (by kernel_rfl) (HT8.out _ D2d.out) (fun hHeld => ?_)
  refine wpAnyH_take (i := 0) (v := ?_) rfl (by kernel_rfl) (by kernel_rfl) (by kernel_rfl) (fun _ _ _ h => h) (Or.inl ⟨by rfl, fun w hSw => ?_⟩) (by assumption) ?_
  rotate_left
  · (try dsimp only at hSw); go_simp; (try with_reducible rfl)
  try simp only [List.getElem_toArray, List.getElem_cons_succ, List.getElem_cons_zero, Act.put, List.setIfInBounds_toArray, List.set_cons_zero, List.set_cons_succ]
  refine wpAnyH_take (i := 3) (v := ?_) rfl (by kernel_rfl) (by kernel_rfl) (by kernel_rfl) (fun _ _ _ h => h) (Or.inl ⟨by rfl, fun w hSw => ?_⟩) (by assumption) ?_
  rotate_left
  · (try dsimp only at hSw); go_simp; (try with_reducible rfl)
  try simp only [List.getElem_toArray, List.getElem_cons_succ, List.getElem_cons_zero, Act.put, List.setIfInBounds_toArray, List.set_cons_zero, List.set_cons_succ]
  refine wpAnyH_take (i := 4) (v := ?_) rfl (by kernel_rfl) (by kernel_rfl) (by kernel_rfl) (fun _ _ _ h => h) (Or.inl ⟨by rfl, fun w hSw => ?_⟩) (by assumption) ?_
  rotate_left
  · (try dsimp only at hSw); go_simp; (try with_reducible rfl)
  try simp only [List.getElem_toArray, List.getElem_cons_succ, List.getElem_cons_zero, Act.put, List.setIfInBounds_toArray, List.set_cons_zero, List.set_cons_succ]
  refine wpAnyH_take (i := 5) (v := ?_) rfl (by kernel_rfl) (by kernel_rfl) (by kernel_rfl) (fun _ _ _ h => h) (Or.inl ⟨by rfl, fun w hSw => ?_⟩) (by assumption) ?_
  rotate_left
  · (try dsimp only at hSw); go_simp; (try with_reducible rfl)
  try simp only [List.getElem_toArray, List.getElem_cons_succ, List.getElem_cons_zero, Act.put, List.setIfInBounds_toArray, List.set_cons_zero, List.set_cons_succ]
  refine wpAnyH_ready (rs := [1]) (by kernel_rfl) (by simp) ?_
  refine AllReadyH.cons rfl (fun K hK => ?_) ?_
  rotate_left
  · exact AllReadyH.nil
  go_simp
  (go_at_call 11; (with_reducible refine (C5.out _).mono ?_); rintro e w3 ⟨pB, cB, rfl, hcB, hrB, hb⟩; have D3 := Lib.hid (D2d.out.trans (hb.mono D2d.out.size)); have htB := text_run hrB; clear hrB hb)
  refine hK.out _ _ ?_ (fun hHeld => ?_)
  · exact HT8.out _ D3.out
  clear hK K
  try simp only [List.getElem_toArray, List.getElem_cons_succ, List.getElem_cons_zero, Act.put, List.setIfInBounds_toArray, List.set_cons_zero, List.set_cons_succ]
  refine wpAnyH_ready (rs := [2]) (by kernel_rfl) (by simp) ?_
  refine AllReadyH.cons rfl (fun K hK => ?_) ?_
  rotate_left
  · exact AllReadyH.nil
  go_simp
  skip
  refine hK.out _ _ ?_ (fun hHeld => ?_)
  · exact HT8.out _ D3.out
  clear hK K
  try simp only [List.getElem_toArray, List.getElem_cons_succ, List.getElem_cons_zero, Act.put, List.setIfInBounds_toArray, List.set_cons_zero, List.set_cons_succ]
  refine wpAnyH_take (i := 6) (v := ?_) rfl (by kernel_rfl) (by kernel_rfl) (by kernel_rfl) (fun _ _ _ h => h) (Or.inl ⟨by rfl, fun w hSw => ?_⟩) (by assumption) ?_
  rotate_left
  · (try dsimp only at hSw); go_simp; (try with_reducible rfl)
  try simp only [List.getElem_toArray, List.getElem_cons_succ, List.getElem_cons_zero, Act.put, List.setIfInBounds_toArray, List.set_cons_zero, List.set_cons_succ]
  refine wpAnyH_take (i := 7) (v := ?_) rfl (by kernel_rfl) (by kernel_rfl) (by kernel_rfl) (fun _ _ _ h => h) (Or.inl ⟨by rfl, fun w hSw => ?_⟩) (by assumption) ?_
  rotate_left
  · (try dsimp only at hSw); go_simp; (try with_reducible rfl)
  try simp only [List.getElem_toArray, List.getElem_cons_succ, List.getElem_cons_zero, Act.put, List.setIfInBounds_toArray, List.set_cons_zero, List.set_cons_succ]
  refine wpAnyH_take (i := 8) (v := ?_) rfl (by kernel_rfl) (by kernel_rfl) (by kernel_rfl) (fun _ _ _ h => h) (Or.inl ⟨by rfl, fun w hSw => ?_⟩) (by assumption) ?_
  rotate_left
  · (try dsimp only at hSw); go_simp; (try with_reducible rfl)
  try simp only [List.getElem_toArray, List.getElem_cons_succ, List.getElem_cons_zero, Act.put, List.setIfInBounds_toArray, List.set_cons_zero, List.set_cons_succ]
  refine wpAnyH_take (i := 9) (v := ?_) rfl (by kernel_rfl) (by kernel_rfl) (by kernel_rfl) (fun _ _ _ h => h) (Or.inl ⟨by rfl, fun w hSw => ?_⟩) (by assumption) ?_
  rotate_left
  · (try dsimp only at hSw); go_simp; (try with_reducible rfl)
  try simp only [List.getElem_toArray, List.getElem_cons_succ, List.getElem_cons_zero, Act.put, List.setIfInBounds_toArray, List.set_cons_zero, List.set_cons_succ]
  refine wpAnyH_take (i := 10) (v := ?_) rfl (by kernel_rfl) (by kernel_rfl) (by kernel_rfl) (fun _ _ _ h => h) (Or.inl ⟨by rfl, fun w hSw => ?_⟩) (by assumption) ?_
  rotate_left
  · (try dsimp only at hSw); go_simp; (try with_reducible rfl)
  try simp only [List.getElem_toArray, List.getElem_cons_succ, List.getElem_cons_zero, Act.put, List.setIfInBounds_toArray, List.set_cons_zero, List.set_cons_succ]
  refine wpAnyH_take (i := 11) (v := ?_) rfl (by kernel_rfl) (by kernel_rfl) (by kernel_rfl) (fun _ _ _ h => h) (Or.inl ⟨by rfl, fun w hSw => ?_⟩) (by assumption) ?_
  rotate_left
  · (try dsimp only at hSw); go_simp; (try with_reducible rfl)
  try simp only [List.getElem_toArray, List.getElem_cons_succ, List.getElem_cons_zero, Act.put, List.setIfInBounds_toArray, List.set_cons_zero, List.set_cons_succ]
  refine wpAnyH_ready (rs := [12]) (by kernel_rfl) (by simp) ?_
  refine AllReadyH.cons rfl (fun K hK => ?_) ?_
  rotate_left
  · exact AllReadyH.nil
  go_simp
  (go_at_call 5; (with_reducible refine (CW.out _).mono ?_); rintro e w4 ⟨rfl, hb⟩; have D4 := Lib.hid (D3.out.trans (hb.mono D3.out.size)); clear hb)
  refine hK.out _ _ ?_ (fun hHeld => ?_)
  · exact HT8.out _ D4.out
  clear hK K
  try simp only [List.getElem_toArray, List.getElem_cons_succ, List.getElem_cons_zero, Act.put, List.setIfInBounds_toArray, List.set_cons_zero, List.set_cons_succ]
  refine wpAnyH_take (i := 13) (v := ?_) rfl (by kernel_rfl) (by kernel_rfl) (by kernel_rfl) (fun _ _ _ h => h) (Or.inl ⟨by rfl, fun w hSw => ?_⟩) (by assumption) ?_
  rotate_left
  · (try dsimp only at hSw); go_simp; (try with_reducible rfl)
  try simp only [List.getElem_toArray, List.getElem_cons_succ, List.getElem_cons_zero, Act.put, List.setIfInBounds_toArray, List.set_cons_zero, List.set_cons_succ]
  refine wpAnyH_take (i := 14) (v := ?_) rfl (by kernel_rfl) (by kernel_rfl) (by kernel_rfl) (fun _ _ _ h => h) (Or.inl ⟨by rfl, fun w hSw => ?_⟩) (by assumption) ?_
  rotate_left
  · (try dsimp only at hSw); go_simp; (try with_reducible rfl)
  try simp only [List.getElem_toArray, List.getElem_cons_succ, List.getElem_cons_zero, Act.put, List.setIfInBounds_toArray, List.set_cons_zero, List.set_cons_succ]
  refine wpAnyH_done (by kernel_rfl) ?_ _
  go_wp2
  go_ret
  exact ⟨rfl, D4.out⟩

end Go.Proofs.Ythleonbojmpclaa.Wir
