/- The statements' small play of layer 12 (cell); the statement's function on a cell and a command: it returns true. Conditions: words of 64 bits; texts of a length that Go reads; the library's tables as they are laid. (Written by tools/gen_celc.py.) -/
import Derived.Test.YtobechecnkmpaaaDoorCelD
namespace Go.Proofs.YtobechecnkmpaaaDoor.Cel
open Go.RowKit Go.Lib F64 Cmd
set_option linter.unusedVariables false
set_option linter.unusedSimpArgs false

theorem text_1 : text 4607182418800017408 = [49, 112, 48] := by
  have hr : rung 4607182418800017408 = (1022 + 1) * 4503599627370496 + (4503599627370496 - 4503599627370496) := by decide
  have hn : neg 4607182418800017408 = false := by decide
  have hv : val (rung 4607182418800017408) = 1 * 2 ^ K 1074 := by
    rw [hr, val_normK (by omega) (by omega), show (4503599627370496 : Nat) = 1 * 2 ^ 52 by decide, Nat.mul_assoc, pw_split 52 (K 1022) (K 1074) (by rw [K_eq, K_eq])]
  have h := text_of (b := 4607182418800017408) (by rw [hr]; omega) (by rw [hr]; omega) hv (by decide)
  rw [hn] at h
  have e1 : itoa (sgn false 1) = [49] := by
    show itoa ((1 : Nat) : Int) = _
    rw [itoa_nonneg, Dec.dd_small (by omega)]; rfl
  have e2 : itoa (((1074 : Nat) : Int) - 1074) = [48] := by
    rw [show ((1074 : Nat) : Int) - 1074 = ((0 : Nat) : Int) by omega, itoa_nonneg, Dec.dd_small (by omega)]; rfl
  rw [e1, K_eq, e2] at h
  exact h
theorem play_do : doC (false, 0) 4 [97] 4607182418800017408 = ((true, 4607182418800017408), (true, 4607182418800017408)) := by
  have hr : cRight 4 [97] 4607182418800017408 = true := by decide
  have hs : sumc (fz (false, 0)).2 4607182418800017408 = 4607182418800017408 := by
    unfold sumc fz
    simp only [Bool.false_eq_true, if_false]
    rw [sum_comm, sum_zero (by decide) (by decide), if_neg (by decide)]
    simp only []
    decide
  unfold doC
  rw [hr, hs]; rfl
theorem fit_one {f : Bool} {z : Nat} (h : Fit f z (true, 4607182418800017408)) : f = true ∧ z = 4607182418800017408 := by
  refine ⟨h.found, ?_⟩
  rcases canon_num h.val with h1 | ⟨-, h2⟩
  · exact h1
  · exact absurd h2 (by decide)
set_option maxHeartbeats 4000000 in
set_option maxRecDepth 100000 in
theorem xplay_any (w : World) (hE : Env w) : Calls Tryd.prog 13 #[] w (RetBelow (.bool true) w) := by
  have CD : Hid (Calls Tryd.prog 6 #[.agg #[.bool false, .float .f64 0], .agg #[.int .i64 4, .string ⟨#[97]⟩, .float .f64 4607182418800017408]] w fun E w' => E = .returned (.tuple #[.agg #[.bool true, .float .f64 4607182418800017408], .agg #[.bool true, .float .f64 4607182418800017408]]) ∧ Below w.heap.size w w') := Lib.hid ((ddo_any (false, 0) 4 [97] 4607182418800017408 w (by decide) (by decide) (by decide)).mono fun E w' ⟨f, z, g, y, h1, h2, h3, h4⟩ => by
    rw [play_do] at h2 h3
    obtain ⟨rfl, rfl⟩ := fit_one h2
    obtain ⟨rfl, rfl⟩ := fit_one h3
    exact ⟨h1, h4⟩)
  have CT : Hid (∀ W, Below w.heap.size w W → Calls Tryd.prog 11 #[.agg #[.bool true, .float .f64 4607182418800017408]] W (RetBelow (.string ⟨#[49, 112, 48]⟩) W)) := Lib.hid fun W hb => (dtext_any (true, 4607182418800017408) W (by decide) (hE.on hb)).mono fun E w' h => by rw [show textC (true, 4607182418800017408) = text 4607182418800017408 from rfl, text_1] at h; exact h
  have CN : Hid (∀ W, Below w.heap.size w W → Calls Tryd.prog 11 #[.agg #[.bool false, .float .f64 0]] W (RetBelow (.string ⟨#[110, 111, 110, 101]⟩) W)) := Lib.hid fun W hb => (dtext_any (false, 0) W (by decide) (hE.on hb)).mono fun E w' h => h
  have CS : Hid (∀ W, Calls Tryd.prog 10 #[.agg #[.bool true, .float .f64 4607182418800017408], .agg #[.bool true, .float .f64 4607182418800017408]] W (RetBelow (.bool true) W)) := Lib.hid fun W => (dsame_any (true, 4607182418800017408) (true, 4607182418800017408) W (by decide) (by decide)).mono fun E w' h => by rw [alike_same (Alike.refl _)] at h; exact h
  have hfe : ∀ (w : World), (Op.equalIn 9999 22 (.float .f64 4607182418800017408) (.float .f64 4607182418800017408)).run Tryd.prog w = .ok true w := fun w => by kernel_rfl
  clear hE
  go_enter Tryd.func13, Tryd.ntmps13
  go_wp2_with (first
    | (go_at_call 6; (with_reducible refine CD.out.mono ?_); rintro E w1 ⟨rfl, hb⟩; have D1 := Lib.hid ((hb.alloc hb.size (.cells #[.bool true, .float .f64 4607182418800017408] 24)).alloc (by have := hb.size; simp only [World.size_alloc]; omega) (.cells #[.bool true, .float .f64 4607182418800017408] 24)); have P1 := Lib.hid (Bx2.start w1 true 4607182418800017408 true 4607182418800017408); obtain ⟨a0, a1, -, -⟩ := P1.out.a.facts; obtain ⟨b0, b1, -, -⟩ := P1.out.b.facts; clear hb)
    | (go_at_call 11; (with_reducible refine (CT.out _ D1.out).mono ?_); rintro E w2 ⟨rfl, hb⟩; have D2 := Lib.hid (D1.out.trans (hb.mono D1.out.size)); have P2 := Lib.hid (P1.out.on hb); obtain ⟨c0, c1, -, -⟩ := P2.out.a.facts; obtain ⟨d0, d1, -, -⟩ := P2.out.b.facts; clear hb)
    | (go_at_call 11; (with_reducible refine (CN.out _ D2.out).mono ?_); rintro E w3 ⟨rfl, hb⟩; have D3 := Lib.hid (D2.out.trans (hb.mono D2.out.size)); have P3 := Lib.hid (P2.out.on hb); obtain ⟨e0, e1, -, -⟩ := P3.out.a.facts; obtain ⟨f0, f1, -, -⟩ := P3.out.b.facts; clear hb)
    | (go_at_call 10; (with_reducible refine (CS.out _).mono ?_); rintro E w4 ⟨rfl, hb⟩; have D4 := Lib.hid (D3.out.trans (hb.mono D3.out.size)); clear hb))
  go_ret
  exact ⟨rfl, D4.out⟩

/-! ### A cell, a command -/
theorem fit_same {f g : Bool} {z y : Nat} {c : Cell2} (h : Fit f z c) (k : Fit g y c) : sameC (f, z) (g, y) = true := alike_same (h.alike.trans k.alike.symm)
set_option maxHeartbeats 16000000 in
set_option maxRecDepth 100000 in
theorem does_any (f : Bool) (z : Nat) (k : Int) (s : List UInt8) (x : Nat) (w : World) (hc : z < 18446744073709551616) (hx : x < 18446744073709551616) (hl : (s.length : Int) ≤ 9223372036854775807) (hE : Env w) : Calls Tryd.prog 3 #[.agg #[.bool f, .float .f64 z], .agg #[.int .i64 k, .string (str s), .float .f64 x]] w (RetBelow (.bool true) w) := by
  have CP : Hid (∀ W, Below w.heap.size w W → Calls Tryd.prog 13 #[] W (RetBelow (.bool true) W)) := Lib.hid fun W hb => xplay_any W (hE.on hb)
  have CT : Hid (∀ W, Below w.heap.size w W → Calls Tryd.prog 11 #[.agg #[.bool f, .float .f64 z]] W (RetBelow (.string (str (textC (f, z)))) W)) := Lib.hid fun W hb => dtext_any (f, z) W hc (hE.on hb)
  have CR : Hid (∀ W, Calls Tryd.prog 12 #[.agg #[.bool f, .float .f64 z]] W (RetBelow (.string (str (textC (f, z)))) W)) := Lib.hid fun W => rctext (f, z) W hc
  have CD : Hid (∀ W, Calls Tryd.prog 6 #[.agg #[.bool f, .float .f64 z], .agg #[.int .i64 k, .string (str s), .float .f64 x]] W (GivesDo (doC (f, z) k s x) W)) := Lib.hid fun W => ddo_any (f, z) k s x W hc hx hl
  have CF : Hid (∀ W, Calls Tryd.prog 7 #[.agg #[.bool f, .float .f64 z], .agg #[.int .i64 k, .string (str s), .float .f64 x]] W (GivesDo (doC (f, z) k s x) W)) := Lib.hid fun W => refdo_any (f, z) k s x W hc hx hl
  have HC := Lib.hid hc
  have B0 := Lib.hid (Cx.start w f z k s x)
  obtain ⟨a0, a1, a2, a3, a4⟩ := B0.out.facts
  generalize textC (f, z) = T at CT CR
  generalize doC (f, z) k s x = R at CD CF
  clear hc hx hl hE
  go_enter Tryd.func3, Tryd.ntmps3
  go_wp2_with (first
    | (go_at_call 6; (with_reducible refine (CD.out _).mono ?_); rintro E w1 ⟨f1, z1, f2, z2, rfl, h1, h2, hb⟩; have X1 := Lib.hid h1; have X2 := Lib.hid h2; have B1 := Lib.hid (B0.out.on hb); have P1 := Lib.hid (Bx2.start w1 f1 z1 f2 z2); have B2 := Lib.hid (B1.out.on P1.out.below); obtain ⟨b0, b1, b2, b3, b4⟩ := B2.out.facts; clear hb h1 h2)
    | (go_at_call 7; (with_reducible refine (CF.out _).mono ?_); rintro E w2 ⟨f3, z3, f4, z4, rfl, h1, h2, hb⟩; have X3 := Lib.hid h1; have X4 := Lib.hid h2; have B3 := Lib.hid (B2.out.on hb); have P2 := Lib.hid (P1.out.on hb); have P3 := Lib.hid (Bx2.start w2 f3 z3 f4 z4); have B4 := Lib.hid (B3.out.on P3.out.below); have P4a := Lib.hid (P2.out.a.on P3.out.below); have P4b := Lib.hid (P2.out.b.on P3.out.below); clear hb h1 h2))
  generalize hW3 : ((w2.alloc (.cells #[.bool f3, .float .f64 z3] 24)).alloc (.cells #[.bool f4, .float .f64 z4] 24)) = w3 at B4 P3 P4a P4b ⊢
  clear hW3
  have HS : Hid (∀ w', Below w3.heap.size w3 w' → w'.cell? ⟨w.heap.size, 0, none⟩ = some (.bool f) ∧ w'.cell? ⟨w.heap.size, 1, none⟩ = some (.float .f64 z) ∧ w'.cell? ⟨w1.heap.size, 0, none⟩ = some (.bool f1) ∧ w'.cell? ⟨w1.heap.size, 1, none⟩ = some (.float .f64 z1) ∧ w'.cell? ⟨w1.heap.size + 1, 0, none⟩ = some (.bool f2) ∧ w'.cell? ⟨w1.heap.size + 1, 1, none⟩ = some (.float .f64 z2) ∧ w'.cell? ⟨w2.heap.size, 0, none⟩ = some (.bool f3) ∧ w'.cell? ⟨w2.heap.size, 1, none⟩ = some (.float .f64 z3) ∧ w'.cell? ⟨w2.heap.size + 1, 0, none⟩ = some (.bool f4) ∧ w'.cell? ⟨w2.heap.size + 1, 1, none⟩ = some (.float .f64 z4)) := Lib.hid fun W hb => ⟨(B4.out.on hb).facts.1, (B4.out.on hb).facts.2.1, (P4a.out.on hb).facts.1, (P4a.out.on hb).facts.2.1, (P4b.out.on hb).facts.1, (P4b.out.on hb).facts.2.1, (P3.out.on hb).a.facts.1, (P3.out.on hb).a.facts.2.1, (P3.out.on hb).b.facts.1, (P3.out.on hb).b.facts.2.1⟩
  have C1 : Hid (∀ W, Calls Tryd.prog 8 #[.agg #[.bool f1, .float .f64 z1], .agg #[.bool f3, .float .f64 z3]] W (RetBelow (.bool true) W)) := Lib.hid fun W => by have := rcsame (f1, z1) (f3, z3) W X1.out.lt X3.out.lt; rw [fit_same X1.out X3.out] at this; exact this
  have C2 : Hid (∀ W, Calls Tryd.prog 8 #[.agg #[.bool f2, .float .f64 z2], .agg #[.bool f4, .float .f64 z4]] W (RetBelow (.bool true) W)) := Lib.hid fun W => by have := rcsame (f2, z2) (f4, z4) W X2.out.lt X4.out.lt; rw [fit_same X2.out X4.out] at this; exact this
  have C3 : Hid (∀ W, Calls Tryd.prog 9 #[.agg #[.bool f1, .float .f64 z1]] W (RetBelow (.bool true) W)) := Lib.hid fun W => rcplain f1 z1 W X1.out.lt X1.out.plain
  have C4 : Hid (∀ W, Calls Tryd.prog 9 #[.agg #[.bool f2, .float .f64 z2]] W (RetBelow (.bool true) W)) := Lib.hid fun W => rcplain f2 z2 W X2.out.lt X2.out.plain
  have C5 : Hid (∀ W, Calls Tryd.prog 10 #[.agg #[.bool f1, .float .f64 z1], .agg #[.bool f3, .float .f64 z3]] W (RetBelow (.bool true) W)) := Lib.hid fun W => by have := dsame_any (f1, z1) (f3, z3) W X1.out.lt X3.out.lt; rw [fit_same X1.out X3.out] at this; exact this
  obtain ⟨t, ht⟩ : ∃ t, sameC (f, z) (f1, z1) = t := ⟨_, rfl⟩
  have C6 : Hid (∀ W, Calls Tryd.prog 10 #[.agg #[.bool f, .float .f64 z], .agg #[.bool f1, .float .f64 z1]] W (RetBelow (.bool t) W)) := Lib.hid fun W => by rw [← ht]; exact dsame_any (f, z) (f1, z1) W HC.out X1.out.lt
  have C7 : Hid (∀ W, Calls Tryd.prog 8 #[.agg #[.bool f, .float .f64 z], .agg #[.bool f1, .float .f64 z1]] W (RetBelow (.bool t) W)) := Lib.hid fun W => by rw [← ht]; exact rcsame (f, z) (f1, z1) W HC.out X1.out.lt
  have er : ∀ w, (binOp .eql 4 (.bool t) (.bool t)).run Tryd.prog w = .ok (.bool true) w := fun w => by rw [run_eql_bool _ _ _ _ Tryd.underlying4]; simp
  clear ht
  have R0 := Lib.hid (Below.refl w3.heap.size w3).drew
  refine wp_region_held_drew (S := (fun w' => w'.cell? ⟨w.heap.size, 0, none⟩ = some (.bool f) ∧ w'.cell? ⟨w.heap.size, 1, none⟩ = some (.float .f64 z) ∧ w'.cell? ⟨w1.heap.size, 0, none⟩ = some (.bool f1) ∧ w'.cell? ⟨w1.heap.size, 1, none⟩ = some (.float .f64 z1) ∧ w'.cell? ⟨w1.heap.size + 1, 0, none⟩ = some (.bool f2) ∧ w'.cell? ⟨w1.heap.size + 1, 1, none⟩ = some (.float .f64 z2) ∧ w'.cell? ⟨w2.heap.size, 0, none⟩ = some (.bool f3) ∧ w'.cell? ⟨w2.heap.size, 1, none⟩ = some (.float .f64 z3) ∧ w'.cell? ⟨w2.heap.size + 1, 0, none⟩ = some (.bool f4) ∧ w'.cell? ⟨w2.heap.size + 1, 1, none⟩ = some (.float .f64 z4))) (by kernel_rfl) (HS.out _ R0.out) (fun hHeld => ?_)
  refine wpAnyH_take (i := 0) (v := ?_) rfl (by kernel_rfl) (by kernel_rfl) (by kernel_rfl) (fun _ _ _ h => h) (Or.inl ⟨by rfl, fun w hSw => ?_⟩) (by assumption) ?_
  rotate_left
  · (try dsimp only at hSw); go_simp; (try with_reducible rfl)
  try simp only [List.getElem_toArray, List.getElem_cons_succ, List.getElem_cons_zero, Act.put, List.setIfInBounds_toArray, List.set_cons_zero, List.set_cons_succ]
  refine wpAnyH_take (i := 1) (v := ?_) rfl (by kernel_rfl) (by kernel_rfl) (by kernel_rfl) (fun _ _ _ h => h) (Or.inl ⟨by rfl, fun w hSw => ?_⟩) (by assumption) ?_
  rotate_left
  · (try dsimp only at hSw); go_simp; (try with_reducible rfl)
  try simp only [List.getElem_toArray, List.getElem_cons_succ, List.getElem_cons_zero, Act.put, List.setIfInBounds_toArray, List.set_cons_zero, List.set_cons_succ]
  refine wpAnyH_ready (rs := [2]) (by kernel_rfl) (by simp) ?_
  refine AllReadyH.cons rfl (fun K hK => ?_) ?_
  rotate_left
  · exact AllReadyH.nil
  go_simp
  (go_at_call 8; (with_reducible refine (C1.out _).mono ?_); rintro e v1 ⟨rfl, hb⟩; have R1 := Lib.hid (R0.out.trans (hb.mono R0.out.size)); clear hb)
  refine hK.out _ _ ?_ (fun hHeld => ?_)
  · exact HS.out _ R1.out
  clear hK K
  try simp only [List.getElem_toArray, List.getElem_cons_succ, List.getElem_cons_zero, Act.put, List.setIfInBounds_toArray, List.set_cons_zero, List.set_cons_succ]
  refine wpAnyH_take (i := 3) (v := ?_) rfl (by kernel_rfl) (by kernel_rfl) (by kernel_rfl) (fun _ _ _ h => h) (Or.inl ⟨by rfl, fun w hSw => ?_⟩) (by assumption) ?_
  rotate_left
  · (try dsimp only at hSw); go_simp; (try with_reducible rfl)
  try simp only [List.getElem_toArray, List.getElem_cons_succ, List.getElem_cons_zero, Act.put, List.setIfInBounds_toArray, List.set_cons_zero, List.set_cons_succ]
  refine wpAnyH_take (i := 4) (v := ?_) rfl (by kernel_rfl) (by kernel_rfl) (by kernel_rfl) (fun _ _ _ h => h) (Or.inl ⟨by rfl, fun w hSw => ?_⟩) (by assumption) ?_
  rotate_left
  · (try dsimp only at hSw); go_simp; (try with_reducible rfl)
  try simp only [List.getElem_toArray, List.getElem_cons_succ, List.getElem_cons_zero, Act.put, List.setIfInBounds_toArray, List.set_cons_zero, List.set_cons_succ]
  refine wpAnyH_take (i := 5) (v := ?_) rfl (by kernel_rfl) (by kernel_rfl) (by kernel_rfl) (fun _ _ _ h => h) (Or.inl ⟨by rfl, fun w hSw => ?_⟩) (by assumption) ?_
  rotate_left
  · (try dsimp only at hSw); go_simp; (try with_reducible rfl)
  try simp only [List.getElem_toArray, List.getElem_cons_succ, List.getElem_cons_zero, Act.put, List.setIfInBounds_toArray, List.set_cons_zero, List.set_cons_succ]
  refine wpAnyH_ready (rs := [6]) (by kernel_rfl) (by simp) ?_
  refine AllReadyH.cons rfl (fun K hK => ?_) ?_
  rotate_left
  · exact AllReadyH.nil
  go_simp
  (go_at_call 8; (with_reducible refine (C2.out _).mono ?_); rintro e v2 ⟨rfl, hb⟩; have R2 := Lib.hid (R1.out.trans (hb.mono R1.out.size)); clear hb)
  refine hK.out _ _ ?_ (fun hHeld => ?_)
  · exact HS.out _ R2.out
  clear hK K
  try simp only [List.getElem_toArray, List.getElem_cons_succ, List.getElem_cons_zero, Act.put, List.setIfInBounds_toArray, List.set_cons_zero, List.set_cons_succ]
  refine wpAnyH_take (i := 7) (v := ?_) rfl (by kernel_rfl) (by kernel_rfl) (by kernel_rfl) (fun _ _ _ h => h) (Or.inl ⟨by rfl, fun w hSw => ?_⟩) (by assumption) ?_
  rotate_left
  · (try dsimp only at hSw); go_simp; (try with_reducible rfl)
  try simp only [List.getElem_toArray, List.getElem_cons_succ, List.getElem_cons_zero, Act.put, List.setIfInBounds_toArray, List.set_cons_zero, List.set_cons_succ]
  refine wpAnyH_take (i := 8) (v := ?_) rfl (by kernel_rfl) (by kernel_rfl) (by kernel_rfl) (fun _ _ _ h => h) (Or.inl ⟨by rfl, fun w hSw => ?_⟩) (by assumption) ?_
  rotate_left
  · (try dsimp only at hSw); go_simp; (try with_reducible rfl)
  try simp only [List.getElem_toArray, List.getElem_cons_succ, List.getElem_cons_zero, Act.put, List.setIfInBounds_toArray, List.set_cons_zero, List.set_cons_succ]
  refine wpAnyH_take (i := 9) (v := ?_) rfl (by kernel_rfl) (by kernel_rfl) (by kernel_rfl) (fun _ _ _ h => h) (Or.inl ⟨by rfl, fun w hSw => ?_⟩) (by assumption) ?_
  rotate_left
  · (try dsimp only at hSw); go_simp; (try with_reducible rfl)
  try simp only [List.getElem_toArray, List.getElem_cons_succ, List.getElem_cons_zero, Act.put, List.setIfInBounds_toArray, List.set_cons_zero, List.set_cons_succ]
  refine wpAnyH_ready (rs := [10]) (by kernel_rfl) (by simp) ?_
  refine AllReadyH.cons rfl (fun K hK => ?_) ?_
  rotate_left
  · exact AllReadyH.nil
  go_simp
  (go_at_call 9; (with_reducible refine (C3.out _).mono ?_); rintro e v3 ⟨rfl, hb⟩; have R3 := Lib.hid (R2.out.trans (hb.mono R2.out.size)); clear hb)
  refine hK.out _ _ ?_ (fun hHeld => ?_)
  · exact HS.out _ R3.out
  clear hK K
  try simp only [List.getElem_toArray, List.getElem_cons_succ, List.getElem_cons_zero, Act.put, List.setIfInBounds_toArray, List.set_cons_zero, List.set_cons_succ]
  refine wpAnyH_take (i := 11) (v := ?_) rfl (by kernel_rfl) (by kernel_rfl) (by kernel_rfl) (fun _ _ _ h => h) (Or.inl ⟨by rfl, fun w hSw => ?_⟩) (by assumption) ?_
  rotate_left
  · (try dsimp only at hSw); go_simp; (try with_reducible rfl)
  try simp only [List.getElem_toArray, List.getElem_cons_succ, List.getElem_cons_zero, Act.put, List.setIfInBounds_toArray, List.set_cons_zero, List.set_cons_succ]
  refine wpAnyH_take (i := 12) (v := ?_) rfl (by kernel_rfl) (by kernel_rfl) (by kernel_rfl) (fun _ _ _ h => h) (Or.inl ⟨by rfl, fun w hSw => ?_⟩) (by assumption) ?_
  rotate_left
  · (try dsimp only at hSw); go_simp; (try with_reducible rfl)
  try simp only [List.getElem_toArray, List.getElem_cons_succ, List.getElem_cons_zero, Act.put, List.setIfInBounds_toArray, List.set_cons_zero, List.set_cons_succ]
  refine wpAnyH_take (i := 13) (v := ?_) rfl (by kernel_rfl) (by kernel_rfl) (by kernel_rfl) (fun _ _ _ h => h) (Or.inl ⟨by rfl, fun w hSw => ?_⟩) (by assumption) ?_
  rotate_left
  · (try dsimp only at hSw); go_simp; (try with_reducible rfl)
  try simp only [List.getElem_toArray, List.getElem_cons_succ, List.getElem_cons_zero, Act.put, List.setIfInBounds_toArray, List.set_cons_zero, List.set_cons_succ]
  refine wpAnyH_ready (rs := [14]) (by kernel_rfl) (by simp) ?_
  refine AllReadyH.cons rfl (fun K hK => ?_) ?_
  rotate_left
  · exact AllReadyH.nil
  go_simp
  (go_at_call 9; (with_reducible refine (C4.out _).mono ?_); rintro e v4 ⟨rfl, hb⟩; have R4 := Lib.hid (R3.out.trans (hb.mono R3.out.size)); clear hb)
  refine hK.out _ _ ?_ (fun hHeld => ?_)
  · exact HS.out _ R4.out
  clear hK K
  try simp only [List.getElem_toArray, List.getElem_cons_succ, List.getElem_cons_zero, Act.put, List.setIfInBounds_toArray, List.set_cons_zero, List.set_cons_succ]
  refine wpAnyH_take (i := 15) (v := ?_) rfl (by kernel_rfl) (by kernel_rfl) (by kernel_rfl) (fun _ _ _ h => h) (Or.inl ⟨by rfl, fun w hSw => ?_⟩) (by assumption) ?_
  rotate_left
  · (try dsimp only at hSw); go_simp; (try with_reducible rfl)
  try simp only [List.getElem_toArray, List.getElem_cons_succ, List.getElem_cons_zero, Act.put, List.setIfInBounds_toArray, List.set_cons_zero, List.set_cons_succ]
  refine wpAnyH_take (i := 16) (v := ?_) rfl (by kernel_rfl) (by kernel_rfl) (by kernel_rfl) (fun _ _ _ h => h) (Or.inl ⟨by rfl, fun w hSw => ?_⟩) (by assumption) ?_
  rotate_left
  · (try dsimp only at hSw); go_simp; (try with_reducible rfl)
  try simp only [List.getElem_toArray, List.getElem_cons_succ, List.getElem_cons_zero, Act.put, List.setIfInBounds_toArray, List.set_cons_zero, List.set_cons_succ]
  refine wpAnyH_take (i := 17) (v := ?_) rfl (by kernel_rfl) (by kernel_rfl) (by kernel_rfl) (fun _ _ _ h => h) (Or.inl ⟨by rfl, fun w hSw => ?_⟩) (by assumption) ?_
  rotate_left
  · (try dsimp only at hSw); go_simp; (try with_reducible rfl)
  try simp only [List.getElem_toArray, List.getElem_cons_succ, List.getElem_cons_zero, Act.put, List.setIfInBounds_toArray, List.set_cons_zero, List.set_cons_succ]
  refine wpAnyH_take (i := 18) (v := ?_) rfl (by kernel_rfl) (by kernel_rfl) (by kernel_rfl) (fun _ _ _ h => h) (Or.inl ⟨by rfl, fun w hSw => ?_⟩) (by assumption) ?_
  rotate_left
  · (try dsimp only at hSw); go_simp; (try with_reducible rfl)
  try simp only [List.getElem_toArray, List.getElem_cons_succ, List.getElem_cons_zero, Act.put, List.setIfInBounds_toArray, List.set_cons_zero, List.set_cons_succ]
  refine wpAnyH_ready (rs := [19]) (by kernel_rfl) (by simp) ?_
  refine AllReadyH.cons rfl (fun K hK => ?_) ?_
  rotate_left
  · exact AllReadyH.nil
  go_simp
  (go_at_call 10; (with_reducible refine (C5.out _).mono ?_); rintro e v5 ⟨rfl, hb⟩; have R5 := Lib.hid (R4.out.trans (hb.mono R4.out.size)); clear hb)
  refine hK.out _ _ ?_ (fun hHeld => ?_)
  · exact HS.out _ R5.out
  clear hK K
  try simp only [List.getElem_toArray, List.getElem_cons_succ, List.getElem_cons_zero, Act.put, List.setIfInBounds_toArray, List.set_cons_zero, List.set_cons_succ]
  refine wpAnyH_take (i := 20) (v := ?_) rfl (by kernel_rfl) (by kernel_rfl) (by kernel_rfl) (fun _ _ _ h => h) (Or.inl ⟨by rfl, fun w hSw => ?_⟩) (by assumption) ?_
  rotate_left
  · (try dsimp only at hSw); go_simp; (try with_reducible rfl)
  try simp only [List.getElem_toArray, List.getElem_cons_succ, List.getElem_cons_zero, Act.put, List.setIfInBounds_toArray, List.set_cons_zero, List.set_cons_succ]
  refine wpAnyH_take (i := 21) (v := ?_) rfl (by kernel_rfl) (by kernel_rfl) (by kernel_rfl) (fun _ _ _ h => h) (Or.inl ⟨by rfl, fun w hSw => ?_⟩) (by assumption) ?_
  rotate_left
  · (try dsimp only at hSw); go_simp; (try with_reducible rfl)
  try simp only [List.getElem_toArray, List.getElem_cons_succ, List.getElem_cons_zero, Act.put, List.setIfInBounds_toArray, List.set_cons_zero, List.set_cons_succ]
  refine wpAnyH_take (i := 22) (v := ?_) rfl (by kernel_rfl) (by kernel_rfl) (by kernel_rfl) (fun _ _ _ h => h) (Or.inl ⟨by rfl, fun w hSw => ?_⟩) (by assumption) ?_
  rotate_left
  · (try dsimp only at hSw); go_simp; (try with_reducible rfl)
  try simp only [List.getElem_toArray, List.getElem_cons_succ, List.getElem_cons_zero, Act.put, List.setIfInBounds_toArray, List.set_cons_zero, List.set_cons_succ]
  refine wpAnyH_take (i := 24) (v := ?_) rfl (by kernel_rfl) (by kernel_rfl) (by kernel_rfl) (fun _ _ _ h => h) (Or.inl ⟨by rfl, fun w hSw => ?_⟩) (by assumption) ?_
  rotate_left
  · (try dsimp only at hSw); go_simp; (try with_reducible rfl)
  try simp only [List.getElem_toArray, List.getElem_cons_succ, List.getElem_cons_zero, Act.put, List.setIfInBounds_toArray, List.set_cons_zero, List.set_cons_succ]
  refine wpAnyH_ready (rs := [23]) (by kernel_rfl) (by simp) ?_
  refine AllReadyH.cons rfl (fun K hK => ?_) ?_
  rotate_left
  · exact AllReadyH.nil
  go_simp
  (go_at_call 11; (with_reducible refine (CT.out _ (B4.out.below.trans (R5.out.mono B4.out.below.size))).mono ?_); rintro e v6 ⟨rfl, hb⟩; have R6 := Lib.hid (R5.out.trans (hb.mono R5.out.size)); clear hb)
  refine hK.out _ _ ?_ (fun hHeld => ?_)
  · exact HS.out _ R6.out
  clear hK K
  try simp only [List.getElem_toArray, List.getElem_cons_succ, List.getElem_cons_zero, Act.put, List.setIfInBounds_toArray, List.set_cons_zero, List.set_cons_succ]
  refine wpAnyH_ready (rs := [25]) (by kernel_rfl) (by simp) ?_
  refine AllReadyH.cons rfl (fun K hK => ?_) ?_
  rotate_left
  · exact AllReadyH.nil
  go_simp
  (go_at_call 12; (with_reducible refine (CR.out _).mono ?_); rintro e v7 ⟨rfl, hb⟩; have R7 := Lib.hid (R6.out.trans (hb.mono R6.out.size)); clear hb)
  refine hK.out _ _ ?_ (fun hHeld => ?_)
  · exact HS.out _ R7.out
  clear hK K
  try simp only [List.getElem_toArray, List.getElem_cons_succ, List.getElem_cons_zero, Act.put, List.setIfInBounds_toArray, List.set_cons_zero, List.set_cons_succ]
  refine wpAnyH_take (i := 26) (v := ?_) rfl (by kernel_rfl) (by kernel_rfl) (by kernel_rfl) (fun _ _ _ h => h) (Or.inl ⟨by rfl, fun w hSw => ?_⟩) (by assumption) ?_
  rotate_left
  · (try dsimp only at hSw); go_simp; (try with_reducible rfl)
  try simp only [List.getElem_toArray, List.getElem_cons_succ, List.getElem_cons_zero, Act.put, List.setIfInBounds_toArray, List.set_cons_zero, List.set_cons_succ]
  refine wpAnyH_take (i := 27) (v := ?_) rfl (by kernel_rfl) (by kernel_rfl) (by kernel_rfl) (fun _ _ _ h => h) (Or.inl ⟨by rfl, fun w hSw => ?_⟩) (by assumption) ?_
  rotate_left
  · (try dsimp only at hSw); go_simp; (try with_reducible rfl)
  try simp only [List.getElem_toArray, List.getElem_cons_succ, List.getElem_cons_zero, Act.put, List.setIfInBounds_toArray, List.set_cons_zero, List.set_cons_succ]
  refine wpAnyH_take (i := 28) (v := ?_) rfl (by kernel_rfl) (by kernel_rfl) (by kernel_rfl) (fun _ _ _ h => h) (Or.inl ⟨by rfl, fun w hSw => ?_⟩) (by assumption) ?_
  rotate_left
  · (try dsimp only at hSw); go_simp; (try with_reducible rfl)
  try simp only [List.getElem_toArray, List.getElem_cons_succ, List.getElem_cons_zero, Act.put, List.setIfInBounds_toArray, List.set_cons_zero, List.set_cons_succ]
  refine wpAnyH_take (i := 29) (v := ?_) rfl (by kernel_rfl) (by kernel_rfl) (by kernel_rfl) (fun _ _ _ h => h) (Or.inl ⟨by rfl, fun w hSw => ?_⟩) (by assumption) ?_
  rotate_left
  · (try dsimp only at hSw); go_simp; (try with_reducible rfl)
  try simp only [List.getElem_toArray, List.getElem_cons_succ, List.getElem_cons_zero, Act.put, List.setIfInBounds_toArray, List.set_cons_zero, List.set_cons_succ]
  refine wpAnyH_take (i := 30) (v := ?_) rfl (by kernel_rfl) (by kernel_rfl) (by kernel_rfl) (fun _ _ _ h => h) (Or.inl ⟨by rfl, fun w hSw => ?_⟩) (by assumption) ?_
  rotate_left
  · (try dsimp only at hSw); go_simp; (try with_reducible rfl)
  try simp only [List.getElem_toArray, List.getElem_cons_succ, List.getElem_cons_zero, Act.put, List.setIfInBounds_toArray, List.set_cons_zero, List.set_cons_succ]
  refine wpAnyH_take (i := 32) (v := ?_) rfl (by kernel_rfl) (by kernel_rfl) (by kernel_rfl) (fun _ _ _ h => h) (Or.inl ⟨by rfl, fun w hSw => ?_⟩) (by assumption) ?_
  rotate_left
  · (try dsimp only at hSw); go_simp; (try with_reducible rfl)
  try simp only [List.getElem_toArray, List.getElem_cons_succ, List.getElem_cons_zero, Act.put, List.setIfInBounds_toArray, List.set_cons_zero, List.set_cons_succ]
  refine wpAnyH_take (i := 33) (v := ?_) rfl (by kernel_rfl) (by kernel_rfl) (by kernel_rfl) (fun _ _ _ h => h) (Or.inl ⟨by rfl, fun w hSw => ?_⟩) (by assumption) ?_
  rotate_left
  · (try dsimp only at hSw); go_simp; (try with_reducible rfl)
  try simp only [List.getElem_toArray, List.getElem_cons_succ, List.getElem_cons_zero, Act.put, List.setIfInBounds_toArray, List.set_cons_zero, List.set_cons_succ]
  refine wpAnyH_ready (rs := [31]) (by kernel_rfl) (by simp) ?_
  refine AllReadyH.cons rfl (fun K hK => ?_) ?_
  rotate_left
  · exact AllReadyH.nil
  go_simp
  (go_at_call 10; (with_reducible refine (C6.out _).mono ?_); rintro e v8 ⟨rfl, hb⟩; have R8 := Lib.hid (R7.out.trans (hb.mono R7.out.size)); clear hb)
  refine hK.out _ _ ?_ (fun hHeld => ?_)
  · exact HS.out _ R8.out
  clear hK K
  try simp only [List.getElem_toArray, List.getElem_cons_succ, List.getElem_cons_zero, Act.put, List.setIfInBounds_toArray, List.set_cons_zero, List.set_cons_succ]
  refine wpAnyH_ready (rs := [34]) (by kernel_rfl) (by simp) ?_
  refine AllReadyH.cons rfl (fun K hK => ?_) ?_
  rotate_left
  · exact AllReadyH.nil
  go_simp
  (go_at_call 8; (with_reducible refine (C7.out _).mono ?_); rintro e v9 ⟨rfl, hb⟩; have R9 := Lib.hid (R8.out.trans (hb.mono R8.out.size)); clear hb)
  refine hK.out _ _ ?_ (fun hHeld => ?_)
  · exact HS.out _ R9.out
  clear hK K
  try simp only [List.getElem_toArray, List.getElem_cons_succ, List.getElem_cons_zero, Act.put, List.setIfInBounds_toArray, List.set_cons_zero, List.set_cons_succ]
  refine wpAnyH_take (i := 35) (v := ?_) rfl (by kernel_rfl) (by kernel_rfl) (by kernel_rfl) (fun _ _ _ h => h) (Or.inl ⟨by rfl, fun w hSw => ?_⟩) (by assumption) ?_
  rotate_left
  · (try dsimp only at hSw); go_simp; (try with_reducible rfl)
  try simp only [List.getElem_toArray, List.getElem_cons_succ, List.getElem_cons_zero, Act.put, List.setIfInBounds_toArray, List.set_cons_zero, List.set_cons_succ]
  refine wpAnyH_take (i := 36) (v := ?_) rfl (by kernel_rfl) (by kernel_rfl) (by kernel_rfl) (fun _ _ _ h => h) (Or.inl ⟨by rfl, fun w hSw => ?_⟩) (by assumption) ?_
  rotate_left
  · (try dsimp only at hSw); go_simp; (try with_reducible rfl)
  try simp only [List.getElem_toArray, List.getElem_cons_succ, List.getElem_cons_zero, Act.put, List.setIfInBounds_toArray, List.set_cons_zero, List.set_cons_succ]
  refine wpAnyH_take (i := 37) (v := ?_) rfl (by kernel_rfl) (by kernel_rfl) (by kernel_rfl) (fun _ _ _ h => h) (Or.inl ⟨by rfl, fun w hSw => ?_⟩) (by assumption) ?_
  rotate_left
  · (try dsimp only at hSw); go_simp; (try with_reducible rfl)
  try simp only [List.getElem_toArray, List.getElem_cons_succ, List.getElem_cons_zero, Act.put, List.setIfInBounds_toArray, List.set_cons_zero, List.set_cons_succ]
  refine wpAnyH_ready (rs := [38]) (by kernel_rfl) (by simp) ?_
  refine AllReadyH.cons rfl (fun K hK => ?_) ?_
  rotate_left
  · exact AllReadyH.nil
  go_simp
  (go_at_call 13; (with_reducible refine (CP.out _ (B4.out.below.trans (R9.out.mono B4.out.below.size))).mono ?_); rintro e v10 ⟨rfl, hb⟩; have R10 := Lib.hid (R9.out.trans (hb.mono R9.out.size)); clear hb)
  refine hK.out _ _ ?_ (fun hHeld => ?_)
  · exact HS.out _ R10.out
  clear hK K
  try simp only [List.getElem_toArray, List.getElem_cons_succ, List.getElem_cons_zero, Act.put, List.setIfInBounds_toArray, List.set_cons_zero, List.set_cons_succ]
  refine wpAnyH_take (i := 39) (v := ?_) rfl (by kernel_rfl) (by kernel_rfl) (by kernel_rfl) (fun _ _ _ h => h) (Or.inl ⟨by rfl, fun w hSw => ?_⟩) (by assumption) ?_
  rotate_left
  · (try dsimp only at hSw); go_simp; (try with_reducible rfl)
  try simp only [List.getElem_toArray, List.getElem_cons_succ, List.getElem_cons_zero, Act.put, List.setIfInBounds_toArray, List.set_cons_zero, List.set_cons_succ]
  refine wpAnyH_take (i := 40) (v := ?_) rfl (by kernel_rfl) (by kernel_rfl) (by kernel_rfl) (fun _ _ _ h => h) (Or.inl ⟨by rfl, fun w hSw => ?_⟩) (by assumption) ?_
  rotate_left
  · (try dsimp only at hSw); go_simp; (try with_reducible rfl)
  try simp only [List.getElem_toArray, List.getElem_cons_succ, List.getElem_cons_zero, Act.put, List.setIfInBounds_toArray, List.set_cons_zero, List.set_cons_succ]
  refine wpAnyH_done (by kernel_rfl) ?_ _
  go_wp2_with fail
  go_ret
  exact ⟨rfl, B4.out.below.trans (R10.out.mono B4.out.below.size)⟩
end Go.Proofs.YtobechecnkmpaaaDoor.Cel
