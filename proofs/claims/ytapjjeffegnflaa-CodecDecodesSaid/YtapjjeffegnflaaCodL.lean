/- What bytesOf, Encode and Size (layer 11, codec) give: a record's bytes, sealed. Conditions: the record's lists lie in memory as their cells say; texts of a length that Go reads. (Written by tools/gen_enc.py.) -/
import Derived.Test.YtapjjeffegnflaaCodF
import Derived.Test.YtapjjeffegnflaaCodE
namespace Go.Proofs.Ytapjjeffegnflaa.Cod
open Go.RowKit F64 Cmd Bat Ids Rec Wir Dig
set_option linter.unusedVariables false
set_option linter.unusedSimpArgs false

/-! ### Numbers, ids -/
set_option maxRecDepth 100000 in
theorem put_i (v : Value) (zs : List UInt8) (x : Int) (w : World) (h : layB.Row w v zs) (hl : zs.length ≤ 100000) (h0 : 0 ≤ x) (h1 : x < 9223372036854775808) : Calls Try.prog 62 #[v, .int .u64 x] w (GivesB (zs ++ encI x) w) := by
  have := put_any v zs x.toNat w h hl (by omega)
  rw [Int.toNat_of_nonneg h0] at this
  exact this
set_option maxRecDepth 100000 in
theorem putnum_any (v : Value) (zs : List UInt8) (x : Int) (w : World) (h : layB.Row w v zs) (hl : zs.length ≤ 100000) (h0 : 0 ≤ x) (h1 : x < 9223372036854775808) : Calls Try.prog 40 #[v, .int .i64 x] w (GivesB (zs ++ encI x) w) := by
  have C := Lib.hid (put_i v zs x w h hl h0 h1)
  have wx := u64_of h0 h1
  clear h
  go_enter Try.func40, Try.ntmps40
  go_wp2_with (go_at_call 62; (with_reducible refine C.out.mono ?_); rintro e w1 ⟨u, rfl, ho, hb⟩; have HO := Lib.hid ho; have HB := Lib.hid hb; clear ho hb)
  go_ret
  exact ⟨_, rfl, HO.out, HB.out⟩
set_option maxHeartbeats 4000000 in
set_option maxRecDepth 100000 in
theorem putid_any (v : Value) (zs : List UInt8) (x y : Int) (w : World) (h : layB.Row w v zs) (hl : zs.length ≤ 90000) (hx : okN x) (hy : okN y) : Calls Try.prog 41 #[v, .agg #[.int .i64 x, .int .i64 y]] w (GivesB (zs ++ idB (x, y)) w) := by
  have B0 := Lib.hid (Cmd.below_one w (.cells #[.int .i64 x, .int .i64 y] 23))
  have C1 : Hid (∀ W, Below w.heap.size w W → Calls Try.prog 40 #[v, .int .i64 x] W (GivesB (zs ++ encI x) W)) := Lib.hid fun W hb => putnum_any v zs x W (h.on hb) (by omega) hx.1 hx.2
  have C2 : Hid (∀ u W, layB.Row W u (zs ++ encI x) → Calls Try.prog 40 #[u, .int .i64 y] W (GivesB ((zs ++ encI x) ++ encI y) W)) := Lib.hid fun u W hr => putnum_any u _ y W hr (by rw [List.length_append]; have := encI_len hx; omega) hy.1 hy.2
  have HE : Hid ((zs ++ encI x) ++ encI y = zs ++ idB (x, y)) := Lib.hid (by unfold idB; rw [List.append_assoc])
  generalize encI x = ex at C1 C2 HE
  generalize encI y = ey at C2 HE
  clear h hl hx hy
  go_enter Try.func41, Try.ntmps41
  go_wp2_with fail
  have D0 : Hid (((w.alloc (.cells #[.int .i64 x, .int .i64 y] 23)).drew.cell? ⟨w.heap.size, 0, none⟩ = some (.int .i64 x)) ∧ ((w.alloc (.cells #[.int .i64 x, .int .i64 y] 23)).drew.cell? ⟨w.heap.size, 1, none⟩ = some (.int .i64 y))) := Lib.hid ⟨by simp [go_sem], by simp [go_sem]⟩
  have lw : Hid (w.heap.size < (w.alloc (.cells #[.int .i64 x, .int .i64 y] 23)).drew.heap.size) := Lib.hid (by simp)
  have R0 : Hid (Below w.heap.size w (w.alloc (.cells #[.int .i64 x, .int .i64 y] 23)).drew) := Lib.hid B0.out.drew
  generalize (w.alloc (.cells #[.int .i64 x, .int .i64 y] 23)) = W0 at *
  refine wp_region_held_drew (S := (fun w' => w'.cell? ⟨w.heap.size, 0, none⟩ = some (.int .i64 x) ∧ w'.cell? ⟨w.heap.size, 1, none⟩ = some (.int .i64 y))) (by kernel_rfl) D0.out (fun hHeld => ?_)
  refine wpAnyH_take (i := 0) (v := ?_) rfl (by kernel_rfl) (by kernel_rfl) (by kernel_rfl) (fun _ _ _ h => h) (Or.inl ⟨by rfl, fun w hSw => ?_⟩) (by assumption) ?_
  rotate_left
  · (try dsimp only at hSw); go_simp; (try with_reducible rfl)
  try simp only [List.getElem_toArray, List.getElem_cons_succ, List.getElem_cons_zero, Act.put, List.setIfInBounds_toArray, List.set_cons_zero, List.set_cons_succ]
  refine wpAnyH_take (i := 1) (v := ?_) rfl (by kernel_rfl) (by kernel_rfl) (by kernel_rfl) (fun _ _ _ h => h) (Or.inl ⟨by rfl, fun w hSw => ?_⟩) (by assumption) ?_
  rotate_left
  · (try dsimp only at hSw); go_simp; (try with_reducible rfl)
  try simp only [List.getElem_toArray, List.getElem_cons_succ, List.getElem_cons_zero, Act.put, List.setIfInBounds_toArray, List.set_cons_zero, List.set_cons_succ]
  refine wpAnyH_take (i := 2) (v := ?_) rfl (by kernel_rfl) (by kernel_rfl) (by kernel_rfl) (fun _ _ _ h => h) (Or.inl ⟨by rfl, fun w hSw => ?_⟩) (by assumption) ?_
  rotate_left
  · (try dsimp only at hSw); go_simp; (try with_reducible rfl)
  try simp only [List.getElem_toArray, List.getElem_cons_succ, List.getElem_cons_zero, Act.put, List.setIfInBounds_toArray, List.set_cons_zero, List.set_cons_succ]
  refine wpAnyH_take (i := 4) (v := ?_) rfl (by kernel_rfl) (by kernel_rfl) (by kernel_rfl) (fun _ _ _ h => h) (Or.inl ⟨by rfl, fun w hSw => ?_⟩) (by assumption) ?_
  rotate_left
  · (try dsimp only at hSw); go_simp; (try with_reducible rfl)
  try simp only [List.getElem_toArray, List.getElem_cons_succ, List.getElem_cons_zero, Act.put, List.setIfInBounds_toArray, List.set_cons_zero, List.set_cons_succ]
  refine wpAnyH_take (i := 5) (v := ?_) rfl (by kernel_rfl) (by kernel_rfl) (by kernel_rfl) (fun _ _ _ h => h) (Or.inl ⟨by rfl, fun w hSw => ?_⟩) (by assumption) ?_
  rotate_left
  · (try dsimp only at hSw); go_simp; (try with_reducible rfl)
  try simp only [List.getElem_toArray, List.getElem_cons_succ, List.getElem_cons_zero, Act.put, List.setIfInBounds_toArray, List.set_cons_zero, List.set_cons_succ]
  refine wpAnyH_ready (rs := [3]) (by kernel_rfl) (by simp) ?_
  refine AllReadyH.cons rfl (fun K hK => ?_) ?_
  rotate_left
  · exact AllReadyH.nil
  go_simp
  (go_at_call 40; (with_reducible refine (C1.out _ R0.out).mono ?_); rintro e w1 ⟨u1, rfl, ho, hb⟩; have R1 := Lib.hid (R0.out.trans (hb.mono R0.out.size)); have N1 := Lib.hid (rowB ho); have hb1 := Lib.hid hb; have lw1 := Lib.hid (Nat.lt_of_lt_of_le lw.out hb.size); clear ho hb)
  refine hK.out _ _ ?_ (fun hHeld => ?_)
  · exact ⟨(hb1.out.cell (p := ⟨w.heap.size, 0, none⟩) lw.out).trans hHeld.1, (hb1.out.cell (p := ⟨w.heap.size, 1, none⟩) lw.out).trans hHeld.2⟩
  clear hK K
  try simp only [List.getElem_toArray, List.getElem_cons_succ, List.getElem_cons_zero, Act.put, List.setIfInBounds_toArray, List.set_cons_zero, List.set_cons_succ]
  refine wpAnyH_ready (rs := [6]) (by kernel_rfl) (by simp) ?_
  refine AllReadyH.cons rfl (fun K hK => ?_) ?_
  rotate_left
  · exact AllReadyH.nil
  go_simp
  (go_at_call 40; (with_reducible refine (C2.out _ _ N1.out).mono ?_); rintro e w2 ⟨u2, rfl, ho, hb⟩; have R2 := Lib.hid (R1.out.trans (hb.mono R1.out.size)); have O2 := Lib.hid (own_mono ho R1.out.size); have hb2 := Lib.hid hb; clear ho hb)
  refine hK.out _ _ ?_ (fun hHeld => ?_)
  · exact ⟨(hb2.out.cell (p := ⟨w.heap.size, 0, none⟩) lw1.out).trans hHeld.1, (hb2.out.cell (p := ⟨w.heap.size, 1, none⟩) lw1.out).trans hHeld.2⟩
  clear hK K
  try simp only [List.getElem_toArray, List.getElem_cons_succ, List.getElem_cons_zero, Act.put, List.setIfInBounds_toArray, List.set_cons_zero, List.set_cons_succ]
  refine wpAnyH_take (i := 7) (v := ?_) rfl (by kernel_rfl) (by kernel_rfl) (by kernel_rfl) (fun _ _ _ h => h) (Or.inl ⟨by rfl, fun w hSw => ?_⟩) (by assumption) ?_
  rotate_left
  · (try dsimp only at hSw); go_simp; (try with_reducible rfl)
  try simp only [List.getElem_toArray, List.getElem_cons_succ, List.getElem_cons_zero, Act.put, List.setIfInBounds_toArray, List.set_cons_zero, List.set_cons_succ]
  refine wpAnyH_done (by kernel_rfl) ?_ _
  go_wp2_with fail
  go_ret
  exact ⟨_, rfl, by rw [← HE.out]; exact O2.out, R2.out⟩

/-! ### A command -/
set_option maxRecDepth 100000 in
theorem hasbits_any (k : Int) (w : World) : Calls Try.prog 64 #[.int .i64 k] w fun e w' => e = .returned (.bool (hasV k)) ∧ w = w' := by
  by_cases h2 : k = 2
  · subst h2
    go_enter Try.func64, Try.ntmps64
    go_wp2_with fail
    go_ret
    exact ⟨rfl, rfl⟩
  · have h4 : (k == 2) = false := by rw [beq_eq_false_iff_ne]; exact h2
    have HE : Hid (hasV k = decide (k = 4)) := Lib.hid (by unfold hasV; rw [h4, Bool.false_or]; rfl)
    by_cases h5 : k = 4
    · subst h5
      go_enter Try.func64, Try.ntmps64
      go_wp2_with fail
      go_ret
      exact ⟨rfl, rfl⟩
    · have h6 : (k == 4) = false := by rw [beq_eq_false_iff_ne]; exact h5
      go_enter Try.func64, Try.ntmps64
      go_wp2_with fail
      go_ret
      exact ⟨by rw [HE.out, decide_eq_false h5]; rfl, rfl⟩
theorem real_bits (b : Nat) (w : World) : Calls Try.prog 65 #[.float .f64 b] w fun e w' => e = .returned (.int .u64 (canon b)) ∧ w = w' := _root_.Go.Proofs.Ytapjjeffegnflaa.bits_any b w
set_option maxHeartbeats 4000000 in
set_option maxRecDepth 100000 in
theorem putcmd_any (v : Value) (zs : List UInt8) (k : Int) (s : List UInt8) (f : Nat) (w : World) (h : layB.Row w v zs) (hl : zs.length ≤ 90000) (hk : okN k) (hs : s.length ≤ 1000) (hf : f < 18446744073709551616) : Calls Try.prog 42 #[v, .agg #[.int .i64 k, .string (str s), .float .f64 f]] w (GivesB (zs ++ cmdB (k, s, f)) w) := by
  have B0 := Lib.hid (Cmd.below_one w (.cells #[.int .i64 k, .string (str s), .float .f64 f] 59))
  have hk1 := encI_len hk
  have ht1 := txt_len s (by omega)
  have ht2 : (txt s).length ≤ 1010 := by have := enc_len (n := s.length) (by omega); unfold txt; rw [List.length_append]; omega
  have C1 : Hid (∀ W, Below w.heap.size w W → Calls Try.prog 40 #[v, .int .i64 k] W (GivesB (zs ++ encI k) W)) := Lib.hid fun W hb => putnum_any v zs k W (h.on hb) (by omega) hk.1 hk.2
  have C2 : Hid (∀ u W, layB.Row W u (zs ++ encI k) → Calls Try.prog 63 #[u, .string (str s)] W (GivesB ((zs ++ encI k) ++ txt s) W)) := Lib.hid fun u W hr => puttext_any u _ s W hr (by rw [List.length_append]; omega) (by omega)
  have C3 := Lib.hid (fun W => hasbits_any k W)
  have C4 := Lib.hid (fun W => real_bits f W)
  have C5 : Hid (∀ u W, layB.Row W u ((zs ++ encI k) ++ txt s) → Calls Try.prog 38 #[u, .int .u64 (canon f)] W (GivesB (((zs ++ encI k) ++ txt s) ++ big (canon f)) W)) := Lib.hid fun u W hr => eight_any u _ _ W hr (by simp only [List.length_append]; omega) (canon_lt hf)
  have HE : Hid ((hasV k = false → (zs ++ encI k) ++ txt s = zs ++ cmdB (k, s, f)) ∧ (hasV k = true → ((zs ++ encI k) ++ txt s) ++ big (canon f) = zs ++ cmdB (k, s, f))) := Lib.hid (by unfold cmdB; constructor <;> intro hv <;> simp only [hv] <;> simp)
  generalize encI k = ex at C1 C2 C5 HE
  generalize txt s = ey at C2 C5 HE
  generalize canon f = cf at C4 C5 HE
  generalize hhv : hasV k = hv at C3 HE
  clear h hl hk hs hf hk1 ht1 ht2 hhv
  go_enter Try.func42, Try.ntmps42
  go_wp2_with fail
  have D0 : Hid (((w.alloc (.cells #[.int .i64 k, .string (str s), .float .f64 f] 59)).drew.cell? ⟨w.heap.size, 0, none⟩ = some (.int .i64 k)) ∧ ((w.alloc (.cells #[.int .i64 k, .string (str s), .float .f64 f] 59)).drew.cell? ⟨w.heap.size, 1, none⟩ = some (.string (str s))) ∧ ((w.alloc (.cells #[.int .i64 k, .string (str s), .float .f64 f] 59)).drew.cell? ⟨w.heap.size, 2, none⟩ = some (.float .f64 f))) := Lib.hid ⟨by simp [go_sem], by simp [go_sem], by simp [go_sem]⟩
  have lw : Hid (w.heap.size < (w.alloc (.cells #[.int .i64 k, .string (str s), .float .f64 f] 59)).drew.heap.size) := Lib.hid (by simp)
  have R0 : Hid (Below w.heap.size w (w.alloc (.cells #[.int .i64 k, .string (str s), .float .f64 f] 59)).drew) := Lib.hid B0.out.drew
  generalize (w.alloc (.cells #[.int .i64 k, .string (str s), .float .f64 f] 59)) = W0 at *
  refine wp_region_held_drew (S := (fun w' => w'.cell? ⟨w.heap.size, 0, none⟩ = some (.int .i64 k) ∧ w'.cell? ⟨w.heap.size, 1, none⟩ = some (.string (str s)) ∧ w'.cell? ⟨w.heap.size, 2, none⟩ = some (.float .f64 f))) (by kernel_rfl) D0.out (fun hHeld => ?_)
  refine wpAnyH_take (i := 0) (v := ?_) rfl (by kernel_rfl) (by kernel_rfl) (by kernel_rfl) (fun _ _ _ h => h) (Or.inl ⟨by rfl, fun w hSw => ?_⟩) (by assumption) ?_
  rotate_left
  · (try dsimp only at hSw); go_simp; (try with_reducible rfl)
  try simp only [List.getElem_toArray, List.getElem_cons_succ, List.getElem_cons_zero, Act.put, List.setIfInBounds_toArray, List.set_cons_zero, List.set_cons_succ]
  refine wpAnyH_take (i := 1) (v := ?_) rfl (by kernel_rfl) (by kernel_rfl) (by kernel_rfl) (fun _ _ _ h => h) (Or.inl ⟨by rfl, fun w hSw => ?_⟩) (by assumption) ?_
  rotate_left
  · (try dsimp only at hSw); go_simp; (try with_reducible rfl)
  try simp only [List.getElem_toArray, List.getElem_cons_succ, List.getElem_cons_zero, Act.put, List.setIfInBounds_toArray, List.set_cons_zero, List.set_cons_succ]
  refine wpAnyH_take (i := 2) (v := ?_) rfl (by kernel_rfl) (by kernel_rfl) (by kernel_rfl) (fun _ _ _ h => h) (Or.inl ⟨by rfl, fun w hSw => ?_⟩) (by assumption) ?_
  rotate_left
  · (try dsimp only at hSw); go_simp; (try with_reducible rfl)
  try simp only [List.getElem_toArray, List.getElem_cons_succ, List.getElem_cons_zero, Act.put, List.setIfInBounds_toArray, List.set_cons_zero, List.set_cons_succ]
  refine wpAnyH_take (i := 4) (v := ?_) rfl (by kernel_rfl) (by kernel_rfl) (by kernel_rfl) (fun _ _ _ h => h) (Or.inl ⟨by rfl, fun w hSw => ?_⟩) (by assumption) ?_
  rotate_left
  · (try dsimp only at hSw); go_simp; (try with_reducible rfl)
  try simp only [List.getElem_toArray, List.getElem_cons_succ, List.getElem_cons_zero, Act.put, List.setIfInBounds_toArray, List.set_cons_zero, List.set_cons_succ]
  refine wpAnyH_take (i := 5) (v := ?_) rfl (by kernel_rfl) (by kernel_rfl) (by kernel_rfl) (fun _ _ _ h => h) (Or.inl ⟨by rfl, fun w hSw => ?_⟩) (by assumption) ?_
  rotate_left
  · (try dsimp only at hSw); go_simp; (try with_reducible rfl)
  try simp only [List.getElem_toArray, List.getElem_cons_succ, List.getElem_cons_zero, Act.put, List.setIfInBounds_toArray, List.set_cons_zero, List.set_cons_succ]
  refine wpAnyH_ready (rs := [3]) (by kernel_rfl) (by simp) ?_
  refine AllReadyH.cons rfl (fun K hK => ?_) ?_
  rotate_left
  · exact AllReadyH.nil
  go_simp
  (go_at_call 40; (with_reducible refine (C1.out _ R0.out).mono ?_); rintro e w1 ⟨u1, rfl, ho, hb⟩; have R1 := Lib.hid (R0.out.trans (hb.mono R0.out.size)); have N1 := Lib.hid (rowB ho); have hb1 := Lib.hid hb; have lw1 := Lib.hid (Nat.lt_of_lt_of_le lw.out hb.size); clear ho hb)
  refine hK.out _ _ ?_ (fun hHeld => ?_)
  · exact ⟨(hb1.out.cell (p := ⟨w.heap.size, 0, none⟩) lw.out).trans hHeld.1, (hb1.out.cell (p := ⟨w.heap.size, 1, none⟩) lw.out).trans hHeld.2.1, (hb1.out.cell (p := ⟨w.heap.size, 2, none⟩) lw.out).trans hHeld.2.2⟩
  clear hK K
  try simp only [List.getElem_toArray, List.getElem_cons_succ, List.getElem_cons_zero, Act.put, List.setIfInBounds_toArray, List.set_cons_zero, List.set_cons_succ]
  refine wpAnyH_ready (rs := [6]) (by kernel_rfl) (by simp) ?_
  refine AllReadyH.cons rfl (fun K hK => ?_) ?_
  rotate_left
  · exact AllReadyH.nil
  go_simp
  (go_at_call 63; (with_reducible refine (C2.out _ _ N1.out).mono ?_); rintro e w2 ⟨u2, rfl, ho, hb⟩; have R2 := Lib.hid (R1.out.trans (hb.mono R1.out.size)); have O2 := Lib.hid (own_mono ho R1.out.size); have hb2 := Lib.hid hb; clear ho hb)
  refine hK.out _ _ ?_ (fun hHeld => ?_)
  · exact ⟨(hb2.out.cell (p := ⟨w.heap.size, 0, none⟩) lw1.out).trans hHeld.1, (hb2.out.cell (p := ⟨w.heap.size, 1, none⟩) lw1.out).trans hHeld.2.1, (hb2.out.cell (p := ⟨w.heap.size, 2, none⟩) lw1.out).trans hHeld.2.2⟩
  clear hK K
  try simp only [List.getElem_toArray, List.getElem_cons_succ, List.getElem_cons_zero, Act.put, List.setIfInBounds_toArray, List.set_cons_zero, List.set_cons_succ]
  refine wpAnyH_take (i := 7) (v := ?_) rfl (by kernel_rfl) (by kernel_rfl) (by kernel_rfl) (fun _ _ _ h => h) (Or.inl ⟨by rfl, fun w hSw => ?_⟩) (by assumption) ?_
  rotate_left
  · (try dsimp only at hSw); go_simp; (try with_reducible rfl)
  try simp only [List.getElem_toArray, List.getElem_cons_succ, List.getElem_cons_zero, Act.put, List.setIfInBounds_toArray, List.set_cons_zero, List.set_cons_succ]
  refine wpAnyH_done (by kernel_rfl) ?_ _
  obtain ⟨d0, d1, d2⟩ := hHeld
  have C6 := Lib.hid (C5.out _ _ (rowB O2.out))
  cases hv
  · go_wp2_with (first
      | (go_at_call 64; (with_reducible refine (C3.out _).mono ?_); rintro e w3 ⟨rfl, rfl⟩))
    go_ret
    exact ⟨_, rfl, by rw [← HE.out.1 (by simp)]; exact O2.out, R2.out⟩
  · go_wp2_with (first
      | (go_at_call 64; (with_reducible refine (C3.out _).mono ?_); rintro e w3 ⟨rfl, rfl⟩)
      | (go_at_call 65; (with_reducible refine (C4.out _).mono ?_); rintro e w3 ⟨rfl, rfl⟩)
      | (go_at_call 38; (with_reducible refine C6.out.mono ?_); rintro e w4 ⟨u4, rfl, ho, hb⟩; have R4 := Lib.hid (R2.out.trans (hb.mono R2.out.size)); have O4 := Lib.hid (own_mono ho R2.out.size); clear ho hb))
    go_ret
    exact ⟨_, rfl, by rw [← HE.out.2 (by simp)]; exact O4.out, R4.out⟩

/-! ### bytesOf -/
structure Small (a b q : Int) (ds : List Idn) (cs : List Cmdn) : Prop where
  fine : Fine a b q ds cs
  cmds : cs.length ≤ 8
  txts : ∀ x ∈ cs, x.2.1.length ≤ 12
theorem Small.endLen {a b q : Int} {ds : List Idn} {cs : List Cmdn} (h : Small a b q ds cs) (k : Nat) : (endB a b q ds cs k).length ≤ 80000 := by
  have h1 := h.fine.midLen ds.length
  have h2 := flat_le cmdB 1030 (cs.take k) fun x hx => cmdB_len (h.fine.cms x (List.mem_of_mem_take hx))
  have h3 : (cs.take k).length ≤ cs.length := by rw [List.length_take]; omega
  have h4 := h.cmds
  have h5 : (cs.take k).length * 1030 ≤ 8 * 1030 := Nat.mul_le_mul_right _ (by omega)
  have h6 := enc_len (n := cs.length) (by omega)
  unfold endB cmdsB
  rw [List.length_append, List.length_append]
  omega
theorem small_of {a b q : Int} {ds : List Idn} {cs : List Cmdn} (h : rErr a b q ds cs = 0) (hw : ∀ c ∈ cs, c.2.2 < 18446744073709551616) : Small a b q ds cs := by
  have M := may_of h
  exact ⟨fine_of h hw, M.cmds, fun c hc => (right_ok (M.cms c hc) (hw c hc)).1.2.2.1⟩
theorem mid_step' {a b q : Int} {ds : List Idn} {n k : Nat} (h : k < ds.length) {x y : Int} (e : nth ds k = (x, y)) : midB a b q ds n k ++ idB (x, y) = midB a b q ds n (k + 1) := by
  rw [← mid_step h e]; unfold idB; rw [List.append_assoc]
theorem end_step' {a b q : Int} {ds : List Idn} {cs : List Cmdn} {k : Nat} (h : k < cs.length) {x : Int} {s : List UInt8} {f : Nat} (e : layC.at cs k = (x, s, f)) : endB a b q ds cs k ++ cmdB (x, s, f) = endB a b q ds cs (k + 1) := by
  unfold endB; rw [cmdsB_take h, e]; simp
set_option maxHeartbeats 16000000 in
set_option maxRecDepth 100000 in
theorem bytesof_r (a b q : Int) (v u : Value) (ds : List Idn) (cs : List Cmdn) (w : World) (h : RowAt w v ds) (g : layC.Row w u cs) (W : Small a b q ds cs) :
    Calls Try.prog 18 #[.agg #[.int .i64 a, .int .i64 b, .int .i64 q, v, u]] w (GivesB (recB a b q ds cs) w) := by
  have B0 := BoxR.start 27 w a b q v u
  have hv : ∃ p cap, v = .slice p ds.length cap := by obtain ⟨p, cap, e, _⟩ := h; exact ⟨p, cap, e⟩
  have hu : ∃ p cap, u = .slice p cs.length cap := by obtain ⟨p, cap, e, _⟩ := g; exact ⟨p, cap, e⟩
  obtain ⟨p1, c1, rfl⟩ := hv
  obtain ⟨p2, c2, rfl⟩ := hu
  have HB0 := Lib.hid B0
  have HBx := Lib.hid (fun W (hb : Below (w.alloc (cellsR 27 a b q (.slice p1 ds.length c1) (.slice p2 cs.length c2))).heap.size (w.alloc (cellsR 27 a b q (.slice p1 ds.length c1) (.slice p2 cs.length c2))) W) => B0.on hb)
  have HDs := Lib.hid (fun W (hb : Below w.heap.size w W) => h.on hb)
  have HCs := Lib.hid (fun W (hb : Below w.heap.size w W) => g.on hb)
  have W' := Lib.hid W
  obtain ⟨⟨⟨a0, a1⟩, ⟨b0, b1⟩, ⟨q0, q1⟩, hdl, -, -, -⟩, hcl, -⟩ := W
  have CI : Hid (∀ W, Calls Try.prog 41 #[.slice none 0 0, .agg #[.int .i64 a, .int .i64 b]] W (GivesB (encI a ++ encI b) W)) := Lib.hid fun W => putid_any _ [] a b W (Wir.nil_row W) (by simp) ⟨a0, a1⟩ ⟨b0, b1⟩
  have CQ : Hid (∀ o W, layB.Row W o (encI a ++ encI b) → Calls Try.prog 40 #[o, .int .i64 q] W (GivesB ((encI a ++ encI b) ++ encI q) W)) := Lib.hid fun o W hr => putnum_any o _ q W hr (by have := encI_len W'.out.fine.a; have := encI_len W'.out.fine.b; rw [List.length_append]; omega) q0 q1
  have CD : Hid (∀ o W, layB.Row W o ((encI a ++ encI b) ++ encI q) → Calls Try.prog 40 #[o, .int .i64 (ds.length : Int)] W (GivesB (midB a b q ds ds.length 0) W)) := Lib.hid fun o W hr => by
    rw [← mid_start]
    exact putnum_any o _ _ W hr (by have := encI_len W'.out.fine.a; have := encI_len W'.out.fine.b; have := encI_len W'.out.fine.q; simp only [List.length_append]; omega) (by omega) (by omega)
  have CC : Hid (∀ o W, layB.Row W o (midB a b q ds ds.length ds.length) → Calls Try.prog 40 #[o, .int .i64 (cs.length : Int)] W (GivesB (endB a b q ds cs 0) W)) := Lib.hid fun o W hr => by
    rw [← end_start]
    exact putnum_any o _ _ W hr (by have := W'.out.fine.midLen ds.length; omega) (by omega) (by omega)
  clear B0 h g
  unfold cellsR at HBx HB0
  go_enter Try.func18, Try.ntmps18
  go_wp2_with fail
  generalize hW0 : (w.alloc (Obj.cells #[.int .i64 a, .int .i64 b, .int .i64 q, .slice p1 ds.length c1, .slice p2 cs.length c2] 27)) = W0 at HBx HB0
  have l0 : Hid (w.heap.size ≤ W0.heap.size) := Lib.hid HB0.out.below.size
  have HS1 : Hid (∀ w', Below W0.heap.size W0 w' → w'.cell? ⟨w.heap.size, 0, none⟩ = some (.int .i64 a) ∧ w'.cell? ⟨w.heap.size, 1, none⟩ = some (.int .i64 b) ∧ w'.cell? ⟨w.heap.size, 2, none⟩ = some (.int .i64 q) ∧ w'.cell? ⟨w.heap.size, 3, none⟩ = some (.slice p1 ds.length c1) ∧ w'.cell? ⟨w.heap.size, 4, none⟩ = some (.slice p2 cs.length c2)) := Lib.hid fun W hb => (HBx.out W hb).five
  have Rr := Lib.hid (Below.refl W0.heap.size W0)
  clear hW0
  have R0 := Lib.hid Rr.out.drew
  refine wp_region_held_drew (S := (fun w' => w'.cell? ⟨w.heap.size, 0, none⟩ = some (.int .i64 a) ∧ w'.cell? ⟨w.heap.size, 1, none⟩ = some (.int .i64 b) ∧ w'.cell? ⟨w.heap.size, 2, none⟩ = some (.int .i64 q) ∧ w'.cell? ⟨w.heap.size, 3, none⟩ = some (.slice p1 ds.length c1) ∧ w'.cell? ⟨w.heap.size, 4, none⟩ = some (.slice p2 cs.length c2))) (by kernel_rfl) (HS1.out _ R0.out) (fun hHeld => ?_)
  refine wpAnyH_take (i := 0) (v := ?_) rfl (by kernel_rfl) (by kernel_rfl) (by kernel_rfl) (fun _ _ _ h => h) (Or.inl ⟨by rfl, fun w hSw => ?_⟩) (by assumption) ?_
  rotate_left
  · (try dsimp only at hSw); go_simp; (try with_reducible rfl)
  try simp only [List.getElem_toArray, List.getElem_cons_succ, List.getElem_cons_zero, Act.put, List.setIfInBounds_toArray, List.set_cons_zero, List.set_cons_succ]
  refine wpAnyH_take (i := 1) (v := ?_) rfl (by kernel_rfl) (by kernel_rfl) (by kernel_rfl) (fun _ _ _ h => h) (Or.inl ⟨by rfl, fun w hSw => ?_⟩) (by assumption) ?_
  rotate_left
  · (try dsimp only at hSw); go_simp; (try with_reducible rfl)
  try simp only [List.getElem_toArray, List.getElem_cons_succ, List.getElem_cons_zero, Act.put, List.setIfInBounds_toArray, List.set_cons_zero, List.set_cons_succ]
  refine wpAnyH_take (i := 3) (v := ?_) rfl (by kernel_rfl) (by kernel_rfl) (by kernel_rfl) (fun _ _ _ h => h) (Or.inl ⟨by rfl, fun w hSw => ?_⟩) (by assumption) ?_
  rotate_left
  · (try dsimp only at hSw); go_simp; (try with_reducible rfl)
  try simp only [List.getElem_toArray, List.getElem_cons_succ, List.getElem_cons_zero, Act.put, List.setIfInBounds_toArray, List.set_cons_zero, List.set_cons_succ]
  refine wpAnyH_take (i := 4) (v := ?_) rfl (by kernel_rfl) (by kernel_rfl) (by kernel_rfl) (fun _ _ _ h => h) (Or.inl ⟨by rfl, fun w hSw => ?_⟩) (by assumption) ?_
  rotate_left
  · (try dsimp only at hSw); go_simp; (try with_reducible rfl)
  try simp only [List.getElem_toArray, List.getElem_cons_succ, List.getElem_cons_zero, Act.put, List.setIfInBounds_toArray, List.set_cons_zero, List.set_cons_succ]
  refine wpAnyH_ready (rs := [2]) (by kernel_rfl) (by simp) ?_
  refine AllReadyH.cons rfl (fun K hK => ?_) ?_
  rotate_left
  · exact AllReadyH.nil
  go_simp
  (go_at_call 41; (with_reducible refine (CI.out _).mono ?_); rintro e w1 ⟨u1, rfl, ho, hb⟩; have R1 := Lib.hid (R0.out.trans (hb.mono R0.out.size)); have C2 := Lib.hid (CQ.out _ _ (rowB ho)); clear ho hb)
  refine hK.out _ _ ?_ (fun hHeld => ?_)
  · exact HS1.out _ R1.out
  clear hK K
  try simp only [List.getElem_toArray, List.getElem_cons_succ, List.getElem_cons_zero, Act.put, List.setIfInBounds_toArray, List.set_cons_zero, List.set_cons_succ]
  refine wpAnyH_ready (rs := [5]) (by kernel_rfl) (by simp) ?_
  refine AllReadyH.cons rfl (fun K hK => ?_) ?_
  rotate_left
  · exact AllReadyH.nil
  go_simp
  (go_at_call 40; (with_reducible refine C2.out.mono ?_); rintro e w2 ⟨u2, rfl, ho, hb⟩; have R2 := Lib.hid (R1.out.trans (hb.mono R1.out.size)); have C3 := Lib.hid (CD.out _ _ (rowB ho)); clear ho hb)
  refine hK.out _ _ ?_ (fun hHeld => ?_)
  · exact HS1.out _ R2.out
  clear hK K
  try simp only [List.getElem_toArray, List.getElem_cons_succ, List.getElem_cons_zero, Act.put, List.setIfInBounds_toArray, List.set_cons_zero, List.set_cons_succ]
  refine wpAnyH_take (i := 6) (v := ?_) rfl (by kernel_rfl) (by kernel_rfl) (by kernel_rfl) (fun _ _ _ h => h) (Or.inl ⟨by rfl, fun w hSw => ?_⟩) (by assumption) ?_
  rotate_left
  · (try dsimp only at hSw); go_simp; (try with_reducible rfl)
  try simp only [List.getElem_toArray, List.getElem_cons_succ, List.getElem_cons_zero, Act.put, List.setIfInBounds_toArray, List.set_cons_zero, List.set_cons_succ]
  refine wpAnyH_done (by kernel_rfl) ?_ _
  obtain ⟨x0, x1, x2, x3, x4⟩ := HS1.out _ R2.out
  go_wp2_with (first
    | (go_at_call 40; (with_reducible refine C3.out.mono ?_); rintro e w3 ⟨u3, rfl, ho, hb⟩; have R3 := Lib.hid (R2.out.trans (hb.mono R2.out.size)); have HM3 := Lib.hid (own_mono ho R2.out.size); obtain ⟨s0, s1, s2, s3, s4⟩ := HS1.out _ R3.out; clear ho hb))
  have hdp := ids_parts (HDs.out w (Below.refl _ _))
  have hcp := cmds_parts (HCs.out w (Below.refl _ _))
  have DW : Hid (∀ W, Below W0.heap.size W0 W → Below w.heap.size w W) := Lib.hid fun W hb => HB0.out.below.trans (hb.mono l0.out)
  clear HDs HCs C2 C3 x0 x1 x2 x3 x4 s0 s1 s2 s3 s4
  go_loopw [3, 22] (fun o i wr => ∃ k : Nat, k ≤ ds.length ∧ i = .int .i64 k ∧ Hid (Below W0.heap.size W0 wr) ∧ Hid (OwnB wr W0.heap.size o (midB a b q ds ds.length k))) (fun _ i _ => ds.length - (intOf i).toNat)
  case atStart => exact ⟨0, Nat.zero_le _, rfl, R3, HM3⟩
  case round =>
    obtain ⟨k, hk, rfl, Rl, HMl⟩ := hrel
    obtain ⟨x0, x1, x2, x3, x4⟩ := HS1.out wr Rl.out
    have k0 : (0 : Int) ≤ k := by omega
    by_cases hkn : k < ds.length
    · obtain ⟨B, off, rfl, HI⟩ := hdp.resolve_left (by omega)
      obtain ⟨x, y, hxy⟩ : ∃ x y, nth ds k = (x, y) := ⟨_, _, rfl⟩
      have hok := W'.out.fine.id hkn hxy
      have y0 : wr.cell? ⟨B, off + k * 2, none⟩ = some (.int .i64 x) := by have := (HI.on (DW.out wr Rl.out)).fst k hkn; rw [hxy] at this; exact this
      have y1 : wr.cell? ⟨B, off + k * 2 + 1, none⟩ = some (.int .i64 y) := by have := (HI.on (DW.out wr Rl.out)).snd k hkn; rw [hxy] at this; exact this
      have CP := Lib.hid (fun W (hb : Below wr.heap.size wr W) => putid_any _ _ x y W (rowB (own_below HMl.out hb)) (by have := W'.out.fine.midLen k; omega) hok.1 hok.2)
      simp only [mid_step' hkn hxy] at CP
      have kn : (k : Int) < ds.length := by omega
      have HBt := Lib.hid (Cmd.below_one wr (.cells #[.int .i64 x, .int .i64 y] 23))
      have HCP := Lib.hid (CP.out _ HBt.out)
      clear HI hxy hok CP
      go_wp2_with (first
        | (go_at_call 41; (with_reducible refine HCP.out.mono ?_); rintro e w5 ⟨u5, rfl, ho, hb⟩; have R5 := Lib.hid ((Rl.out.trans (HBt.out.mono Rl.out.size)).trans (hb.mono (Nat.le_trans Rl.out.size HBt.out.size))); have HM5 := Lib.hid (own_mono ho (Nat.le_trans Rl.out.size HBt.out.size)); clear ho hb))
      go_roundw
      case rel => exact ⟨k + 1, by omega, by go_num, R5, HM5⟩
      case measure => simp [intOf]; omega
    · obtain rfl : k = ds.length := by omega
      have kn : ¬ ((ds.length : Nat) : Int) < ds.length := by omega
      have C4 := Lib.hid (CC.out _ _ (rowB HMl.out))
      go_wp2_with (first
        | (go_at_call 40; (with_reducible refine C4.out.mono ?_); rintro e w6 ⟨u6, rfl, ho, hb⟩; have R6 := Lib.hid (Rl.out.trans (hb.mono Rl.out.size)); have HM6 := Lib.hid (own_mono ho Rl.out.size); obtain ⟨s0, s1, s2, s3, s4⟩ := HS1.out _ R6.out; clear ho hb))
      clear x0 x1 x2 x3 x4 s0 s1 s2 s3 s4 kn hk k0 C4 HMl Rl hdp
      go_loopw [3, 38] (fun o i wr => ∃ k : Nat, k ≤ cs.length ∧ i = .int .i64 k ∧ Hid (Below W0.heap.size W0 wr) ∧ Hid (OwnB wr W0.heap.size o (endB a b q ds cs k))) (fun _ i _ => cs.length - (intOf i).toNat)
      case atStart => exact ⟨0, Nat.zero_le _, rfl, R6, HM6⟩
      case round =>
        obtain ⟨wq, hwq⟩ : ∃ wq, wq = wr := ⟨_, rfl⟩
        obtain ⟨k, hk, rfl, Rl, HMl⟩ := hrel
        subst hwq
        obtain ⟨x0, x1, x2, x3, x4⟩ := HS1.out wq Rl.out
        have k0 : (0 : Int) ≤ k := by omega
        by_cases hkn : k < cs.length
        · obtain ⟨B, off, rfl, HI⟩ := hcp.resolve_left (by omega)
          obtain ⟨x, s, f, hxy⟩ : ∃ x s f, layC.at cs k = (x, s, f) := ⟨_, _, _, rfl⟩
          have hok := W'.out.fine.cm hkn hxy
          obtain ⟨y0, y1, y2⟩ : wq.cell? ⟨B, off + k * 3, none⟩ = some (.int .i64 x) ∧ wq.cell? ⟨B, off + k * 3 + 1, none⟩ = some (.string (str s)) ∧ wq.cell? ⟨B, off + k * 3 + 2, none⟩ = some (.float .f64 f) := by
            have := (HI.on (DW.out wq Rl.out)).2 k hkn; rw [hxy] at this; exact this
          have CP := Lib.hid (fun W (hb : Below wq.heap.size wq W) => putcmd_any _ _ x s f W (rowB (own_below HMl.out hb)) (by have := W'.out.endLen k; omega) hok.1 hok.2.1 hok.2.2)
          simp only [end_step' hkn hxy] at CP
          have kn : (k : Int) < cs.length := by omega
          have HBt := Lib.hid (Cmd.below_one wq (.cells #[.int .i64 x, .string (str s), .float .f64 f] 59))
          have HCP := Lib.hid (CP.out _ HBt.out)
          clear HI hxy hok CP
          go_wp2_with (first
            | (go_at_call 42; (with_reducible refine HCP.out.mono ?_); rintro e w7 ⟨u7, rfl, ho, hb⟩; have R7 := Lib.hid ((Rl.out.trans (HBt.out.mono Rl.out.size)).trans (hb.mono (Nat.le_trans Rl.out.size HBt.out.size))); have HM7 := Lib.hid (own_mono ho (Nat.le_trans Rl.out.size HBt.out.size)); clear ho hb))
          go_roundw
          case rel => exact ⟨k + 1, by omega, by go_num, R7, HM7⟩
          case measure => simp [intOf]; omega
        · obtain rfl : k = cs.length := by omega
          have kn : ¬ ((cs.length : Nat) : Int) < cs.length := by omega
          go_wp2_with fail
          go_ret
          exact ⟨_, rfl, by rw [← end_all]; exact own_mono HMl.out l0.out, DW.out _ Rl.out⟩

/-! ### Encode, Size -/
theorem recB_len {a b q : Int} {ds : List Idn} {cs : List Cmdn} (h : Small a b q ds cs) : (recB a b q ds cs).length ≤ 80000 := by rw [← end_all]; exact h.endLen _
/-- What Encode gives: the bytes, or what is wrong. -/
def GivesEnc (a b q : Int) (ds : List Idn) (cs : List Cmdn) (w : World) (E : Ending) (w' : World) : Prop :=
  ∃ v e, E = .returned (.tuple #[v, .int .i64 e]) ∧ Below w.heap.size w w' ∧ e = rErr a b q ds cs ∧ ((e = 0 ∧ OwnB w' w.heap.size v (sealt (recB a b q ds cs))) ∨ (e ≠ 0 ∧ v = .slice none 0 0))
set_option maxHeartbeats 4000000 in
set_option maxRecDepth 100000 in
theorem enc_r (a b q : Int) (v u : Value) (ds : List Idn) (cs : List Cmdn) (w : World) (h : RowAt w v ds) (g : layC.Row w u cs) (hw : ∀ x ∈ cs, wfC x) :
    Calls Try.prog 7 #[.agg #[.int .i64 a, .int .i64 b, .int .i64 q, v, u]] w (GivesEnc a b q ds cs w) := by
  have B0 := Lib.hid (BoxR.start 27 w a b q v u)
  have C1 : Hid (∀ W, Below w.heap.size w W → Calls Try.prog 16 #[.agg #[.int .i64 a, .int .i64 b, .int .i64 q, v, u]] W (RetBelow (.int .i64 (rErr a b q ds cs)) W)) := Lib.hid fun W hb => check_r a b q v u ds cs W (h.on hb) (g.on hb) hw
  have C2 : Hid (rErr a b q ds cs = 0 → ∀ W, Below w.heap.size w W → Calls Try.prog 18 #[.agg #[.int .i64 a, .int .i64 b, .int .i64 q, v, u]] W (GivesB (recB a b q ds cs) W)) := Lib.hid fun h0 W hb => bytesof_r a b q v u ds cs W (h.on hb) (g.on hb) (small_of h0 fun c hc => (hw c hc).1)
  have C3 : Hid (rErr a b q ds cs = 0 → ∀ o W, layB.Row W o (recB a b q ds cs) → Calls Try.prog 17 #[o] W (GivesB (sealt (recB a b q ds cs)) W)) := Lib.hid fun h0 o W hr => seal_any o _ W hr (by have := recB_len (small_of h0 fun c hc => (hw c hc).1); omega)
  have HE : Hid (∀ e, e = rErr a b q ds cs → e = rErr a b q ds cs) := Lib.hid fun _ h => h
  have hv : ∃ p n cap, v = .slice p n cap := by obtain ⟨p, cap, e, _⟩ := h; exact ⟨p, _, cap, e⟩
  have hu : ∃ p n cap, u = .slice p n cap := by obtain ⟨p, cap, e, _⟩ := g; exact ⟨p, _, cap, e⟩
  obtain ⟨p1, n1, c1, rfl⟩ := hv
  obtain ⟨p2, n2, c2, rfl⟩ := hu
  clear h g hw
  unfold GivesEnc
  generalize recB a b q ds cs = zb at C2 C3 ⊢
  generalize sealt zb = zs at C3 ⊢
  generalize rErr a b q ds cs = x at C1 C2 C3 HE ⊢
  unfold cellsR at B0
  by_cases hx : x = 0
  · subst hx
    have D2 := Lib.hid (C2.out rfl)
    have D3 := Lib.hid (C3.out rfl)
    clear C2 C3
    go_enter Try.func7, Try.ntmps7
    go_wp2_with (first
      | (go_at_call 16; (with_reducible refine (C1.out _ B0.out.below).mono ?_); rintro e w1 ⟨rfl, hb⟩; have B1 := Lib.hid (B0.out.on hb); obtain ⟨x0, x1, x2, x3, x4⟩ := B1.out.five; clear hb)
      | (go_at_call 18; (with_reducible refine (D2.out _ B1.out.below).mono ?_); rintro e w2 ⟨u2, rfl, ho, hb⟩; have R2 := Lib.hid (B1.out.below.trans (hb.mono B1.out.below.size)); have C4 := Lib.hid (D3.out _ _ (rowB ho)); clear ho hb)
      | (go_at_call 17; (with_reducible refine C4.out.mono ?_); rintro e w3 ⟨u3, rfl, ho, hb⟩; have R3 := Lib.hid (R2.out.trans (hb.mono R2.out.size)); have O3 := Lib.hid (own_mono ho R2.out.size); clear ho hb))
    go_ret2
    exact ⟨_, _, rfl, R3.out, rfl, .inl ⟨rfl, O3.out⟩⟩
  · have hx1 : (x != 0) = true := by rw [bne_iff_ne]; exact hx
    go_enter Try.func7, Try.ntmps7
    go_wp2_with (first
      | (go_at_call 16; (with_reducible refine (C1.out _ B0.out.below).mono ?_); rintro e w1 ⟨rfl, hb⟩; have B1 := Lib.hid (B0.out.on hb); clear hb))
    go_ret2
    exact ⟨_, _, rfl, B1.out.below, rfl, .inr ⟨hx, rfl⟩⟩
set_option maxHeartbeats 4000000 in
set_option maxRecDepth 100000 in
theorem size_r (a b q : Int) (v u : Value) (ds : List Idn) (cs : List Cmdn) (w : World) (h : RowAt w v ds) (g : layC.Row w u cs) (hw : ∀ x ∈ cs, wfC x) :
    Calls Try.prog 9 #[.agg #[.int .i64 a, .int .i64 b, .int .i64 q, v, u]] w (RetBelow (.int .i64 (if rErr a b q ds cs = 0 then ((sealt (recB a b q ds cs)).length : Int) else 0)) w) := by
  have B0 := Lib.hid (BoxR.start 27 w a b q v u)
  have C1 : Hid (∀ W, Below w.heap.size w W → Calls Try.prog 7 #[.agg #[.int .i64 a, .int .i64 b, .int .i64 q, v, u]] W (GivesEnc a b q ds cs W)) := Lib.hid fun W hb => enc_r a b q v u ds cs W (h.on hb) (g.on hb) hw
  have hv : ∃ p n cap, v = .slice p n cap := by obtain ⟨p, cap, e, _⟩ := h; exact ⟨p, _, cap, e⟩
  have hu : ∃ p n cap, u = .slice p n cap := by obtain ⟨p, cap, e, _⟩ := g; exact ⟨p, _, cap, e⟩
  obtain ⟨p1, n1, c1, rfl⟩ := hv
  obtain ⟨p2, n2, c2, rfl⟩ := hu
  clear h g hw
  unfold GivesEnc at C1
  generalize sealt (recB a b q ds cs) = zs at C1 ⊢
  generalize rErr a b q ds cs = x at C1 ⊢
  obtain ⟨L, hL⟩ : ∃ L : Int, L = (if x = 0 then (zs.length : Int) else 0) := ⟨_, rfl⟩
  rw [← hL]
  have HL := Lib.hid hL
  clear hL
  unfold cellsR at B0
  go_enter Try.func9, Try.ntmps9
  go_wp2_with (first
    | (go_at_call 7; (with_reducible refine (C1.out _ B0.out.below).mono ?_); rintro e w1 ⟨v1, e1, rfl, hb, rfl, hv⟩; have R1 := Lib.hid (B0.out.below.trans (hb.mono B0.out.below.size)); have hn : ∃ p n c, v1 = .slice p n c ∧ (n : Int) = (if e1 = 0 then (zs.length : Int) else 0) := (by rcases hv with ⟨h0, ho⟩ | ⟨h0, rfl⟩; (· obtain ⟨p, c, rfl, -⟩ := own_len ho; exact ⟨p, _, c, rfl, by rw [if_pos h0]⟩); (· exact ⟨none, 0, 0, rfl, by rw [if_neg h0]; rfl⟩)); obtain ⟨p, n, c, rfl, hn⟩ := hn; have HN := Lib.hid (hn.trans HL.out.symm); clear hb hv hn))
  go_ret
  exact ⟨ret_int HN.out, R1.out⟩
end Go.Proofs.Ytapjjeffegnflaa.Cod
