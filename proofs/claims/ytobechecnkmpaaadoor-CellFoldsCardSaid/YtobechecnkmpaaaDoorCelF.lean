/- The statement's function of layer 12 (cell) on any commands: it returns true. Conditions: the list lies in memory as its cells say; texts of a length that Go reads; the library's tables as they are laid. (Written by tools/gen_celf.py.) -/
import Derived.Test.YtobechecnkmpaaaDoorCelC
namespace Go.Proofs.YtobechecnkmpaaaDoor.Cel
open Go.RowKit F64 Cmd Bat
set_option linter.unusedVariables false
set_option linter.unusedSimpArgs false

set_option maxHeartbeats 16000000 in
set_option maxRecDepth 100000 in
theorem folds_many (p : Option Addr) (n cap : Nat) (w : World) (hn : 200 < n) (hm : n ≤ 9223372036854775807) (hE : Env w) : Calls Tryd.prog 4 #[.slice p n cap] w (RetBelow (.bool true) w) := by
  have CP := Lib.hid (xplay_any w hE)
  have h1 : (200 : Int) < n := by omega
  have h2 : decide ((200 : Int) < n) = true := decide_eq_true h1
  clear hE hn
  go_enter Tryd.func4, Tryd.ntmps4
  go_wp2_with (first
    | (go_at_call 13; (with_reducible refine CP.out.mono ?_); rintro E w1 ⟨rfl, hb⟩; have B1 := Lib.hid hb; clear hb))
  go_ret
  exact ⟨rfl, B1.out⟩
set_option maxHeartbeats 16000000 in
set_option maxRecDepth 100000 in
theorem folds_few (v : Value) (xs : List Cmdn) (w : World) (h : layC.Row w v xs) (hw : ∀ x ∈ xs, wfC x) (hl : xs.length ≤ 200) (hE : Env w) : Calls Tryd.prog 4 #[v] w (RetBelow (.bool true) w) := by
  have CP : Hid (∀ W, Below w.heap.size w W → Calls Tryd.prog 13 #[] W (RetBelow (.bool true) W)) := Lib.hid fun W hb => xplay_any W (hE.on hb)
  have CF : Hid (∀ W, Below w.heap.size w W → Calls Tryd.prog 14 #[v] W (GivesFold (foldC xs) W)) := Lib.hid fun W hb => dfold_any v xs W (h.on hb) hw
  obtain ⟨p, cap, rfl, h1, hd⟩ := h.parts
  obtain ⟨n, hn⟩ : ∃ n, n = xs.length := ⟨_, rfl⟩
  rw [← hn] at h1 hd hl CF ⊢
  have HW := Lib.hid hw
  have HN := Lib.hid hn
  have h2 : ¬ (200 : Int) < n := by omega
  have h3 : decide ((200 : Int) < n) = false := decide_eq_false h2
  have HT : Hid (foldC (xs.take n) = foldC xs) := Lib.hid (by rw [hn, List.take_length])
  have B0 := Lib.hid (Cmd.below_one w (.cells #[.bool false, .float .f64 0] 24))
  have X0 := Lib.hid (Bx.new w false 0)
  clear h hw hn hE
  go_enter Tryd.func4, Tryd.ntmps4
  go_wp2_with fail
  go_loopw [4] (fun i wr => ∃ (k : Nat) (f : Bool) (z : Nat), i = .int .i64 k ∧ k ≤ n ∧ Hid (Below w.heap.size w wr) ∧ Hid (Bx w.heap.size f z wr) ∧ Hid (Fit f z (foldC (xs.take k)))) (fun i _ => n - (intOf i).toNat)
  case atStart => exact ⟨0, false, 0, rfl, Nat.zero_le _, B0, X0, Lib.hid ⟨rfl, rfl, fun _ => rfl, by decide⟩⟩
  case round =>
    obtain ⟨k, f, z, rfl, hk, HB, HX, HF⟩ := hrel
    have k0 : (0 : Int) ≤ k := by omega
    by_cases hkn : k < n
    · have kn : (k : Int) < n := by omega
      obtain ⟨B, off, rfl, HC⟩ := hd.resolve_left (by omega)
      have hkx : k < xs.length := by rw [← HN.out]; exact hkn
      obtain ⟨a, s, x, hx⟩ : ∃ a s x, layC.at xs k = (a, s, x) := ⟨_, _, _, rfl⟩
      have hwf := HW.out _ (layC.at_mem hkx)
      rw [hx] at hwf
      have HS : Hid (∀ w', Below w.heap.size w w' → w'.cell? ⟨B, off + k * 3, none⟩ = some (.int .i64 a) ∧ w'.cell? ⟨B, off + k * 3 + 1, none⟩ = some (.string (str s)) ∧ w'.cell? ⟨B, off + k * 3 + 2, none⟩ = some (.float .f64 x)) := Lib.hid fun W hb => by
        have := (HC.out.on hb).2 k hkx
        rw [hx] at this
        exact this
      have CD : Hid (∀ W, Calls Tryd.prog 7 #[.agg #[.bool f, .float .f64 z], .agg #[.int .i64 a, .string (str s), .float .f64 x]] W (GivesDo (doC (f, z) a s x) W)) := Lib.hid fun W => refdo_any (f, z) a s x W HF.out.lt hwf.1 (by have := hwf.2; simp only [] at this; omega)
      have HFS : Hid (∀ g y, Fit g y (doC (f, z) a s x).1 → Fit g y (foldC (xs.take (k + 1)))) := Lib.hid fun g y hfit => by rw [fold_step hkx hx]; exact HF.out.step hfit
      generalize doC (f, z) a s x = R at CD HFS
      obtain ⟨x0, x1, x2, x3⟩ := HX.out.facts
      have R0 := Lib.hid HB.out.drew
      have XD := Lib.hid HX.out.drewn
      obtain ⟨y0, y1, y2, y3⟩ := XD.out.facts
      clear hx hwf hkx hd
      go_wp2_with fail
      refine wp_region_held_drew (S := (fun w' => w'.cell? ⟨B, off + k * 3, none⟩ = some (.int .i64 a) ∧ w'.cell? ⟨B, off + k * 3 + 1, none⟩ = some (.string (str s)) ∧ w'.cell? ⟨B, off + k * 3 + 2, none⟩ = some (.float .f64 x))) (by kernel_rfl) (HS.out _ R0.out) (fun hHeld => ?_)
      refine wpAnyH_take (i := 1) (v := ?_) rfl (by kernel_rfl) (by kernel_rfl) (by kernel_rfl) (fun _ _ _ h => h) (Or.inl ⟨by rfl, fun w hSw => ?_⟩) (by assumption) ?_
      rotate_left
      · (try dsimp only at hSw); go_simp; (try with_reducible rfl)
      try simp only [List.getElem_toArray, List.getElem_cons_succ, List.getElem_cons_zero, Act.put, List.setIfInBounds_toArray, List.set_cons_zero, List.set_cons_succ]
      refine wpAnyH_take (i := 2) (v := ?_) rfl (by kernel_rfl) (by kernel_rfl) (by kernel_rfl) (fun _ _ _ h => h) (Or.inl ⟨by rfl, fun w hSw => ?_⟩) (by assumption) ?_
      rotate_left
      · (try dsimp only at hSw); go_simp; (try with_reducible rfl)
      try simp only [List.getElem_toArray, List.getElem_cons_succ, List.getElem_cons_zero, Act.put, List.setIfInBounds_toArray, List.set_cons_zero, List.set_cons_succ]
      refine wpAnyH_take (i := 3) (v := ?_) rfl (by kernel_rfl) (by kernel_rfl) (by kernel_rfl) (fun _ _ _ h => h) (Or.inl ⟨by rfl, fun w hSw => ?_⟩) (by assumption) ?_
      rotate_left
      · (try dsimp only at hSw); go_simp; (try with_reducible rfl)
      try simp only [List.getElem_toArray, List.getElem_cons_succ, List.getElem_cons_zero, Act.put, List.setIfInBounds_toArray, List.set_cons_zero, List.set_cons_succ]
      refine wpAnyH_take (i := 4) (v := ?_) rfl (by kernel_rfl) (by kernel_rfl) (by kernel_rfl) (fun _ _ _ h => h) (Or.inl ⟨by rfl, fun w hSw => ?_⟩) (by assumption) ?_
      rotate_left
      · (try dsimp only at hSw); go_simp; (try with_reducible rfl)
      try simp only [List.getElem_toArray, List.getElem_cons_succ, List.getElem_cons_zero, Act.put, List.setIfInBounds_toArray, List.set_cons_zero, List.set_cons_succ]
      refine wpAnyH_ready (rs := [0]) (by kernel_rfl) (by simp) ?_
      refine AllReadyH.cons rfl (fun K hK => ?_) ?_
      rotate_left
      · exact AllReadyH.nil
      go_simp
      skip
      refine hK.out _ _ ?_ (fun hHeld => ?_)
      · exact HS.out _ R0.out
      clear hK K
      try simp only [List.getElem_toArray, List.getElem_cons_succ, List.getElem_cons_zero, Act.put, List.setIfInBounds_toArray, List.set_cons_zero, List.set_cons_succ]
      refine wpAnyH_ready (rs := [5]) (by kernel_rfl) (by simp) ?_
      refine AllReadyH.cons rfl (fun K hK => ?_) ?_
      rotate_left
      · exact AllReadyH.nil
      go_simp
      (go_at_call 7; (with_reducible refine (CD.out _).mono ?_); rintro E w1 ⟨f1, z1, f2, z2, rfl, h1, h2, hb⟩; have X1 := Lib.hid h1; have R1 := Lib.hid (R0.out.trans (hb.mono R0.out.size)); have Y1 := Lib.hid (XD.out.on hb); obtain ⟨b0, b1, b2, b3⟩ := Y1.out.facts; have R2 := Lib.hid ((R1.out.setCell (p := ⟨w.heap.size, 0, none⟩) (Nat.le_refl _) (.bool f1)).setCell (p := ⟨w.heap.size, 1, none⟩) (Nat.le_refl _) (.float .f64 z1)); have Y2 := Lib.hid (Y1.out.put f1 z1); clear hb h1 h2)
      refine hK.out _ _ ?_ (fun hHeld => ?_)
      · exact HS.out _ R1.out
      clear hK K
      try simp only [List.getElem_toArray, List.getElem_cons_succ, List.getElem_cons_zero, Act.put, List.setIfInBounds_toArray, List.set_cons_zero, List.set_cons_succ]
      refine wpAnyH_take (i := 6) (v := ?_) rfl (by kernel_rfl) (by kernel_rfl) (by kernel_rfl) (fun _ _ _ h => h) (Or.inl ⟨by rfl, fun w hSw => ?_⟩) (by assumption) ?_
      rotate_left
      · (try dsimp only at hSw); go_simp; (try with_reducible rfl)
      try simp only [List.getElem_toArray, List.getElem_cons_succ, List.getElem_cons_zero, Act.put, List.setIfInBounds_toArray, List.set_cons_zero, List.set_cons_succ]
      refine wpAnyH_take (i := 7) (v := ?_) rfl (by kernel_rfl) (by kernel_rfl) (by kernel_rfl) (fun _ _ _ h => h) (Or.inl ⟨by rfl, fun w hSw => ?_⟩) (by assumption) ?_
      rotate_left
      · (try dsimp only at hSw); go_simp; (try with_reducible rfl)
      try simp only [List.getElem_toArray, List.getElem_cons_succ, List.getElem_cons_zero, Act.put, List.setIfInBounds_toArray, List.set_cons_zero, List.set_cons_succ]
      refine wpAnyH_take (i := 8) (v := ?_) rfl (by kernel_rfl) (by kernel_rfl) (by kernel_rfl) (fun _ _ _ h => h) (Or.inl ⟨by rfl, fun w hSw => ?_⟩) (by assumption) ?_
      rotate_left
      · (try dsimp only at hSw); go_simp; (try with_reducible rfl)
      try simp only [List.getElem_toArray, List.getElem_cons_succ, List.getElem_cons_zero, Act.put, List.setIfInBounds_toArray, List.set_cons_zero, List.set_cons_succ]
      refine wpAnyH_ready (rs := [9]) (by kernel_rfl) (by simp) ?_
      refine AllReadyH.cons rfl (fun K hK => ?_) ?_
      rotate_left
      · exact AllReadyH.nil
      go_simp
      skip
      refine hK.out _ _ ?_ (fun hHeld => ?_)
      · exact HS.out _ R2.out
      clear hK K
      try simp only [List.getElem_toArray, List.getElem_cons_succ, List.getElem_cons_zero, Act.put, List.setIfInBounds_toArray, List.set_cons_zero, List.set_cons_succ]
      refine wpAnyH_done (by kernel_rfl) ?_ _
      go_wp2_with fail
      go_roundw
      case rel => exact ⟨k + 1, f1, z1, by go_num, by omega, R2, Y2, Lib.hid (HFS.out _ _ X1.out)⟩
      case measure => simp [intOf]; omega
    · obtain rfl : k = n := by omega
      have kn : ¬ (k : Int) < k := by omega
      have HF2 : Hid (Fit f z (foldC xs)) := Lib.hid (by rw [← HT.out]; exact HF.out)
      obtain ⟨x0, x1, x2, x3⟩ := HX.out.facts
      have CF2 := Lib.hid (CF.out _ HB.out)
      clear hd
      go_wp2_with (first
        | (go_at_call 14; (with_reducible refine CF2.out.mono ?_); rintro E w2 ⟨f2, z2, rfl, hf, hb⟩; have F2 := Lib.hid hf; have N2 := Lib.hid (Bx.new w2 f2 z2); have A2 := Lib.hid (Cmd.below_one w2 (.cells #[.bool f2, .float .f64 z2] 24)); have D2 := Lib.hid ((HB.out.trans (hb.mono HB.out.size)).trans (A2.out.mono (HB.out.trans (hb.mono HB.out.size)).size)); have Y2 := Lib.hid ((HX.out.on hb).on A2.out); obtain ⟨b0, b1, b2, b3⟩ := N2.out.facts; obtain ⟨c0, c1, c2, c3⟩ := Y2.out.facts; have C1 : Hid (∀ W, Calls Tryd.prog 8 #[.agg #[.bool f2, .float .f64 z2], .agg #[.bool f, .float .f64 z]] W (RetBelow (.bool true) W)) := Lib.hid (fun W => (rcsame (f2, z2) (f, z) W F2.out.lt HF2.out.lt).mono fun E w' h => by rw [fit_same F2.out HF2.out] at h; exact h); have C2 := Lib.hid (fun W => rcplain f2 z2 W F2.out.lt F2.out.plain); clear hb hf)
        | (go_at_call 8; (with_reducible refine (C1.out _).mono ?_); rintro E w3 ⟨rfl, hb⟩; have D3 := Lib.hid (D2.out.trans (hb.mono D2.out.size)); have N3 := Lib.hid (N2.out.on hb); obtain ⟨d0, d1, d2, d3⟩ := N3.out.facts; clear hb)
        | (go_at_call 9; (with_reducible refine (C2.out _).mono ?_); rintro E w4 ⟨rfl, hb⟩; have D4 := Lib.hid (D3.out.trans (hb.mono D3.out.size)); clear hb)
        | (go_at_call 13; (with_reducible refine (CP.out _ D4.out).mono ?_); rintro E w5 ⟨rfl, hb⟩; have D5 := Lib.hid (D4.out.trans (hb.mono D4.out.size)); clear hb))
      go_ret
      exact ⟨rfl, D5.out⟩
end Go.Proofs.YtobechecnkmpaaaDoor.Cel
