/- What the document's Read (layer 11, codec) gives: a record, or what is wrong. Conditions: the bytes lie in memory as their cells say. (Written by tools/gen_read.py.) -/
import Derived.Test.YtapjjeffegnflaaCodS
namespace Go.Proofs.Ytapjjeffegnflaa.Cod
open Go.RowKit F64 Cmd Bat Ids Rec Wir Dig
set_option linter.unusedVariables false
set_option linter.unusedSimpArgs false

set_option maxHeartbeats 4000000 in
set_option maxRecDepth 100000 in
theorem read_short (p : Option Addr) (n cap : Nat) (W : World) (h8 : n < 8) (zs : List UInt8) (hn : zs.length = n) : Calls Try.prog 15 #[.slice p n cap] W (ReadIs zs W) := by
  have HD : Hid (dec zs = .error 4) := Lib.hid (by unfold dec; rw [opn_short (by omega)]; rfl)
  have h1 : (n : Int) - 8 < 0 := by omega
  have F0 := Lib.hid (Five.new W (.int .i64 0) (.int .i64 0) (.int .i64 0) (.slice none 0 0) (.slice none 0 0) 27)
  have B0 := Lib.hid (Cmd.below_one W zeroR)
  clear hn
  go_enter Try.func15, Try.ntmps15
  go_wp2_with fail
  exact bodyPost_ret (rec_result rfl _ rfl rfl F0.out) rfl ⟨0, 0, 0, _, _, 4, [], [], rfl, B0.out, nil_ids _, nil_cmds _, no_good, .inr ⟨by decide, HD.out, rfl, rfl, rfl, rfl, rfl⟩⟩
set_option maxHeartbeats 16000000 in
set_option maxRecDepth 100000 in
theorem read_bad (p : Option Addr) (n cap k : Nat) (W : World) (hc : n ≤ cap) (hm : cap ≤ 9223372036854775807) (h8 : n = k + 8) (zs : List UInt8) (hn : zs.length = n) (h : layB.Row W (.slice p n cap) zs) (hd : ¬ zs.drop k = big (dg (zs.take k))) : Calls Try.prog 15 #[.slice p n cap] W (ReadIs zs W) := by
  have r1 := row_cut h k n cap (by omega) (by omega) (by omega) hm
  rw [show zs.take n = zs by rw [← hn, List.take_length]] at r1
  have r2 := row_cut h 0 k cap (Nat.zero_le _) (by omega) (by omega) hm
  rw [cutq_none, List.drop_zero, Nat.sub_zero, Nat.sub_zero] at r2
  have HR2 := Lib.hid r2
  have hcut1 := fun w => cut_from p n cap k (by omega) w
  have HS1 : Hid (∀ X, Below W.heap.size W X → (convert 29 9 (.slice (cutq p k cap) (n - k) (cap - k))).run Try.prog X = .ok (.string (str (zs.drop k))) X) := Lib.hid fun X hb => text_run (r1.on hb)
  have CR : Hid (∀ X, Below W.heap.size W X → Calls Try.prog 14 #[.slice p k cap] X fun e w' => e = .returned (.int .u64 (dg (zs.take k) : Nat)) ∧ X = w') := Lib.hid fun X hb => refof_any _ _ X (r2.on hb)
  have hD := dg_lt (zs.take k)
  have CD : Hid (∀ X, Calls Try.prog 13 #[.int .u64 (dg (zs.take k))] X (GivesR (big (dg (zs.take k))) 8 X)) := Lib.hid fun X => (Wir.big_any _ X hD).mono fun e w' h => gives_row h rfl (big_len _)
  have n0 : (n : Int) - 8 = k := by omega
  have k0 : (0 : Int) ≤ k := by omega
  have k1 : ¬ (k : Int) < 0 := by omega
  have k3 : (k : Int) ≤ cap := by omega
  have k4 : k ≤ cap := by omega
  have hlk : (zs.take k).length = k := by rw [List.length_take]; omega
  have HLK := Lib.hid hlk
  have HD : Hid (dec zs = .error 21) := Lib.hid (by unfold dec; rw [bad_opn (by omega) hd]; rfl)
  have hq : ((str (big (dg (zs.take k)))).toList == (str (zs.drop k)).toList) = false := by rw [str_beq, beq_eq_false_iff_ne]; exact fun e => hd e.symm
  generalize cutq p k cap = q1 at HS1 hcut1
  generalize n - k = m1 at HS1 hcut1
  generalize cap - k = m2 at HS1 hcut1
  generalize big (dg (zs.take k)) = bg at CD hq
  generalize dg (zs.take k) = dk at CR CD
  have F0 := Lib.hid (Five.new W (.int .i64 0) (.int .i64 0) (.int .i64 0) (.slice none 0 0) (.slice none 0 0) 27)
  have B0 := Lib.hid (Cmd.below_one W zeroR)
  unfold zeroR at B0
  clear r1 r2 hD hn h hlk h8 hd
  go_enter Try.func15, Try.ntmps15
  go_wp2_with fail
  generalize hW0 : W.alloc (.cells #[.int .i64 0, .int .i64 0, .int .i64 0, .slice none 0 0, .slice none 0 0] 27) = W0 at F0 B0
  have l0 := Lib.hid B0.out.size
  have HSA : Hid (∀ w', Below W0.heap.size W0 w' → Below W.heap.size W w' ∧ (convert 29 9 (.slice q1 m1 m2)).run Try.prog w' = .ok (.string (str (zs.drop k))) w') := Lib.hid fun X hb => ⟨B0.out.trans (hb.mono l0.out), HS1.out _ (B0.out.trans (hb.mono l0.out))⟩
  have R3 := Lib.hid (Below.refl W0.heap.size W0).drew
  refine wp_region_held_drew (S := (fun w' => Below W.heap.size W w' ∧ (convert 29 9 (.slice q1 m1 m2)).run Try.prog w' = .ok (.string (str (zs.drop k))) w')) (by kernel_rfl) (HSA.out _ R3.out) (fun hHeld => ?_)
  refine wpAnyH_take (i := 0) (v := ?_) rfl (by kernel_rfl) (by kernel_rfl) (by kernel_rfl) (fun _ _ _ h => h) (Or.inl ⟨by rfl, fun w hSw => ?_⟩) (by assumption) ?_
  rotate_left
  · (try dsimp only at hSw); go_simp; (try with_reducible rfl)
  try simp only [List.getElem_toArray, List.getElem_cons_succ, List.getElem_cons_zero, Act.put, List.setIfInBounds_toArray, List.set_cons_zero, List.set_cons_succ]
  refine wpAnyH_take (i := 1) (v := ?_) rfl (by kernel_rfl) (by kernel_rfl) (by kernel_rfl) (fun _ _ _ h => h) (Or.inl ⟨by rfl, fun w hSw => ?_⟩) (by assumption) ?_
  rotate_left
  · (try dsimp only at hSw); go_simp; (try with_reducible rfl)
  try simp only [List.getElem_toArray, List.getElem_cons_succ, List.getElem_cons_zero, Act.put, List.setIfInBounds_toArray, List.set_cons_zero, List.set_cons_succ]
  refine wpAnyH_take (i := 6) (v := ?_) rfl (by kernel_rfl) (by kernel_rfl) (by kernel_rfl) (fun _ _ _ h => h) (Or.inl ⟨by rfl, fun w hSw => ?_⟩) (by assumption) ?_
  rotate_left
  · (try dsimp only at hSw); go_simp; (try with_reducible rfl)
  try simp only [List.getElem_toArray, List.getElem_cons_succ, List.getElem_cons_zero, Act.put, List.setIfInBounds_toArray, List.set_cons_zero, List.set_cons_succ]
  refine wpAnyH_take (i := 7) (v := ?_) rfl (by kernel_rfl) (by kernel_rfl) (by kernel_rfl) (fun _ _ _ h => h) (Or.inl ⟨by rfl, fun w hSw => ?_⟩) (by assumption) ?_
  rotate_left
  · (try dsimp only at hSw); go_simp; (try with_reducible rfl)
  try simp only [List.getElem_toArray, List.getElem_cons_succ, List.getElem_cons_zero, Act.put, List.setIfInBounds_toArray, List.set_cons_zero, List.set_cons_succ]
  refine wpAnyH_take (i := 2) (v := ?_) rfl (by kernel_rfl) (by kernel_rfl) (by kernel_rfl) (fun _ _ _ h => h) (Or.inl ⟨by rfl, fun w hSw => ?_⟩) (by assumption) ?_
  rotate_left
  · (try dsimp only at hSw); go_simp; (try with_reducible rfl)
  try simp only [List.getElem_toArray, List.getElem_cons_succ, List.getElem_cons_zero, Act.put, List.setIfInBounds_toArray, List.set_cons_zero, List.set_cons_succ]
  refine wpAnyH_take (i := 8) (v := .slice q1 m1 m2) rfl (by kernel_rfl) (by kernel_rfl) (by kernel_rfl) (fun _ _ _ h => h) (Or.inl ⟨by rfl, fun w hSw => ?_⟩) (by assumption) ?_
  · exact slice_from_run _ _ _ _ _ _ rfl (hcut1 _)
  try simp only [List.getElem_toArray, List.getElem_cons_succ, List.getElem_cons_zero, Act.put, List.setIfInBounds_toArray, List.set_cons_zero, List.set_cons_succ]
  refine wpAnyH_take (i := 9) (v := ?_) rfl (by kernel_rfl) (by kernel_rfl) (by kernel_rfl) (fun _ _ _ h => h) (Or.inl ⟨by rfl, fun w hSw => ?_⟩) (by assumption) ?_
  rotate_left
  · (try dsimp only at hSw); go_simp; (try with_reducible rfl)
  try simp only [List.getElem_toArray, List.getElem_cons_succ, List.getElem_cons_zero, Act.put, List.setIfInBounds_toArray, List.set_cons_zero, List.set_cons_succ]
  refine wpAnyH_ready (rs := [3]) (by kernel_rfl) (by simp) ?_
  refine AllReadyH.cons rfl (fun K hK => ?_) ?_
  rotate_left
  · exact AllReadyH.nil
  go_simp
  (go_at_call 14; (with_reducible refine (CR.out _ hHeld.1).mono ?_); rintro e wx ⟨rfl, rfl⟩)
  refine hK.out _ _ ?_ (fun hHeld => ?_)
  · exact hHeld
  clear hK K
  try simp only [List.getElem_toArray, List.getElem_cons_succ, List.getElem_cons_zero, Act.put, List.setIfInBounds_toArray, List.set_cons_zero, List.set_cons_succ]
  refine wpAnyH_ready (rs := [4]) (by kernel_rfl) (by simp) ?_
  refine AllReadyH.cons rfl (fun K hK => ?_) ?_
  rotate_left
  · exact AllReadyH.nil
  go_simp
  (go_at_call 13; (with_reducible refine (CD.out _).mono ?_); rintro e wb ⟨pb, cb, rfl, hcb, hr, hb⟩; have Rb := Lib.hid (R3.out.trans (hb.mono R3.out.size)); have htb := text_run hr; clear hr hb)
  refine hK.out _ _ ?_ (fun hHeld => ?_)
  · exact HSA.out _ Rb.out
  clear hK K
  try simp only [List.getElem_toArray, List.getElem_cons_succ, List.getElem_cons_zero, Act.put, List.setIfInBounds_toArray, List.set_cons_zero, List.set_cons_succ]
  refine wpAnyH_ready (rs := [5]) (by kernel_rfl) (by simp) ?_
  refine AllReadyH.cons rfl (fun K hK => ?_) ?_
  rotate_left
  · exact AllReadyH.nil
  go_simp
  skip
  refine hK.out _ _ ?_ (fun hHeld => ?_)
  · exact HSA.out _ Rb.out
  clear hK K
  try simp only [List.getElem_toArray, List.getElem_cons_succ, List.getElem_cons_zero, Act.put, List.setIfInBounds_toArray, List.set_cons_zero, List.set_cons_succ]
  refine wpAnyH_take (i := 10) (v := ?_) rfl (by kernel_rfl) (by kernel_rfl) (by kernel_rfl) (fun _ _ _ h => h) (Or.inl ⟨by rfl, fun w hSw => ?_⟩) (by assumption) ?_
  rotate_left
  · (try dsimp only at hSw); go_simp; (try with_reducible rfl)
  try simp only [List.getElem_toArray, List.getElem_cons_succ, List.getElem_cons_zero, Act.put, List.setIfInBounds_toArray, List.set_cons_zero, List.set_cons_succ]
  refine wpAnyH_done (by kernel_rfl) ?_ _
  have F1 := Lib.hid (F0.out.same (Rb.out.block _ (F0.out.lt)))
  obtain ⟨x0, x1, x2, x3, x4⟩ := F1.out.cells
  obtain ⟨z0, z1, z2, z3, z4⟩ := F1.out.free
  go_wp2_with fail
  have Z := five_fin F1.out (B0.out.trans (Rb.out.mono l0.out)) (Nat.le_refl _) (.int .i64 0) (.int .i64 0) (.int .i64 0) (.slice none 0 0) (.slice none 0 0)
  exact bodyPost_ret (rec_result rfl _ rfl rfl Z.1) rfl ⟨0, 0, 0, _, _, 21, [], [], rfl, Z.2, nil_ids _, nil_cmds _, no_good, .inr ⟨by decide, HD.out, rfl, rfl, rfl, rfl, rfl⟩⟩
set_option maxHeartbeats 16000000 in
set_option maxRecDepth 100000 in
theorem read_good (p : Option Addr) (n cap k : Nat) (W : World) (hc : n ≤ cap) (hm : cap ≤ 9223372036854775807) (h8 : n = k + 8) (zs : List UInt8) (hn : zs.length = n) (h : layB.Row W (.slice p n cap) zs) (hd : zs.drop k = big (dg (zs.take k))) : Calls Try.prog 15 #[.slice p n cap] W (ReadIs zs W) := by
  have r1 := row_cut h k n cap (by omega) (by omega) (by omega) hm
  rw [show zs.take n = zs by rw [← hn, List.take_length]] at r1
  have r2 := row_cut h 0 k cap (Nat.zero_le _) (by omega) (by omega) hm
  rw [cutq_none, List.drop_zero, Nat.sub_zero, Nat.sub_zero] at r2
  have HR2 := Lib.hid r2
  have hcut1 := fun w => cut_from p n cap k (by omega) w
  have HS1 : Hid (∀ X, Below W.heap.size W X → (convert 29 9 (.slice (cutq p k cap) (n - k) (cap - k))).run Try.prog X = .ok (.string (str (zs.drop k))) X) := Lib.hid fun X hb => text_run (r1.on hb)
  have CR : Hid (∀ X, Below W.heap.size W X → Calls Try.prog 14 #[.slice p k cap] X fun e w' => e = .returned (.int .u64 (dg (zs.take k) : Nat)) ∧ X = w') := Lib.hid fun X hb => refof_any _ _ X (r2.on hb)
  have hD := dg_lt (zs.take k)
  have CD : Hid (∀ X, Calls Try.prog 13 #[.int .u64 (dg (zs.take k))] X (GivesR (big (dg (zs.take k))) 8 X)) := Lib.hid fun X => (Wir.big_any _ X hD).mono fun e w' h => gives_row h rfl (big_len _)
  have n0 : (n : Int) - 8 = k := by omega
  have k0 : (0 : Int) ≤ k := by omega
  have k1 : ¬ (k : Int) < 0 := by omega
  have k3 : (k : Int) ≤ cap := by omega
  have k4 : k ≤ cap := by omega
  have hlk : (zs.take k).length = k := by rw [List.length_take]; omega
  have HLK := Lib.hid hlk
  obtain ⟨i0, hi, hz0, hz1, hz2⟩ := info_parts Ids.info_id
  obtain ⟨i1, hk0, hy0, hy1, hy2⟩ := info_parts infoK
  have HO : Hid (dec zs = gbody (zs.take k)) := Lib.hid (by unfold dec; rw [good_opn (by omega) hd]; rfl)
  rw [hd] at HS1
  generalize cutq p k cap = q1 at HS1 hcut1
  generalize n - k = m1 at HS1 hcut1
  generalize cap - k = m2 at HS1 hcut1
  generalize big (dg (zs.take k)) = bg at CD HS1
  generalize dg (zs.take k) = dk at CR CD
  have F0 := Lib.hid (Five.new W (.int .i64 0) (.int .i64 0) (.int .i64 0) (.slice none 0 0) (.slice none 0 0) 27)
  have B0 := Lib.hid (Cmd.below_one W zeroR)
  unfold zeroR at B0
  clear r1 r2 hD hn h hlk h8 hd
  go_enter Try.func15, Try.ntmps15
  go_wp2_with fail
  have hsz : W.heap.size = W.heap.size := rfl
  generalize hW0 : W.alloc (.cells #[.int .i64 0, .int .i64 0, .int .i64 0, .slice none 0 0, .slice none 0 0] 27) = W0 at F0 B0
  have l0 := Lib.hid B0.out.size
  have HSA : Hid (∀ w', Below W0.heap.size W0 w' → Below W.heap.size W w' ∧ (convert 29 9 (.slice q1 m1 m2)).run Try.prog w' = .ok (.string (str bg)) w') := Lib.hid fun X hb => ⟨B0.out.trans (hb.mono l0.out), HS1.out _ (B0.out.trans (hb.mono l0.out))⟩
  have R3 := Lib.hid (Below.refl W0.heap.size W0).drew
  refine wp_region_held_drew (S := (fun w' => Below W.heap.size W w' ∧ (convert 29 9 (.slice q1 m1 m2)).run Try.prog w' = .ok (.string (str bg)) w')) (by kernel_rfl) (HSA.out _ R3.out) (fun hHeld => ?_)
  refine wpAnyH_take (i := 0) (v := ?_) rfl (by kernel_rfl) (by kernel_rfl) (by kernel_rfl) (fun _ _ _ h => h) (Or.inl ⟨by rfl, fun w hSw => ?_⟩) (by assumption) ?_
  rotate_left
  · (try dsimp only at hSw); go_simp; (try with_reducible rfl)
  try simp only [List.getElem_toArray, List.getElem_cons_succ, List.getElem_cons_zero, Act.put, List.setIfInBounds_toArray, List.set_cons_zero, List.set_cons_succ]
  refine wpAnyH_take (i := 1) (v := ?_) rfl (by kernel_rfl) (by kernel_rfl) (by kernel_rfl) (fun _ _ _ h => h) (Or.inl ⟨by rfl, fun w hSw => ?_⟩) (by assumption) ?_
  rotate_left
  · (try dsimp only at hSw); go_simp; (try with_reducible rfl)
  try simp only [List.getElem_toArray, List.getElem_cons_succ, List.getElem_cons_zero, Act.put, List.setIfInBounds_toArray, List.set_cons_zero, List.set_cons_succ]
  refine wpAnyH_take (i := 6) (v := ?_) rfl (by kernel_rfl) (by kernel_rfl) (by kernel_rfl) (fun _ _ _ h => h) (Or.inl ⟨by rfl, fun w hSw => ?_⟩) (by assumption) ?_
  rotate_left
  · (try dsimp only at hSw); go_simp; (try with_reducible rfl)
  try simp only [List.getElem_toArray, List.getElem_cons_succ, List.getElem_cons_zero, Act.put, List.setIfInBounds_toArray, List.set_cons_zero, List.set_cons_succ]
  refine wpAnyH_take (i := 7) (v := ?_) rfl (by kernel_rfl) (by kernel_rfl) (by kernel_rfl) (fun _ _ _ h => h) (Or.inl ⟨by rfl, fun w hSw => ?_⟩) (by assumption) ?_
  rotate_left
  · (try dsimp only at hSw); go_simp; (try with_reducible rfl)
  try simp only [List.getElem_toArray, List.getElem_cons_succ, List.getElem_cons_zero, Act.put, List.setIfInBounds_toArray, List.set_cons_zero, List.set_cons_succ]
  refine wpAnyH_take (i := 2) (v := ?_) rfl (by kernel_rfl) (by kernel_rfl) (by kernel_rfl) (fun _ _ _ h => h) (Or.inl ⟨by rfl, fun w hSw => ?_⟩) (by assumption) ?_
  rotate_left
  · (try dsimp only at hSw); go_simp; (try with_reducible rfl)
  try simp only [List.getElem_toArray, List.getElem_cons_succ, List.getElem_cons_zero, Act.put, List.setIfInBounds_toArray, List.set_cons_zero, List.set_cons_succ]
  refine wpAnyH_take (i := 8) (v := .slice q1 m1 m2) rfl (by kernel_rfl) (by kernel_rfl) (by kernel_rfl) (fun _ _ _ h => h) (Or.inl ⟨by rfl, fun w hSw => ?_⟩) (by assumption) ?_
  · exact slice_from_run _ _ _ _ _ _ rfl (hcut1 _)
  try simp only [List.getElem_toArray, List.getElem_cons_succ, List.getElem_cons_zero, Act.put, List.setIfInBounds_toArray, List.set_cons_zero, List.set_cons_succ]
  refine wpAnyH_take (i := 9) (v := ?_) rfl (by kernel_rfl) (by kernel_rfl) (by kernel_rfl) (fun _ _ _ h => h) (Or.inl ⟨by rfl, fun w hSw => ?_⟩) (by assumption) ?_
  rotate_left
  · (try dsimp only at hSw); go_simp; (try with_reducible rfl)
  try simp only [List.getElem_toArray, List.getElem_cons_succ, List.getElem_cons_zero, Act.put, List.setIfInBounds_toArray, List.set_cons_zero, List.set_cons_succ]
  refine wpAnyH_ready (rs := [3]) (by kernel_rfl) (by simp) ?_
  refine AllReadyH.cons rfl (fun K hK => ?_) ?_
  rotate_left
  · exact AllReadyH.nil
  go_simp
  (go_at_call 14; (with_reducible refine (CR.out _ hHeld.1).mono ?_); rintro e wx ⟨rfl, rfl⟩)
  refine hK.out _ _ ?_ (fun hHeld => ?_)
  · exact hHeld
  clear hK K
  try simp only [List.getElem_toArray, List.getElem_cons_succ, List.getElem_cons_zero, Act.put, List.setIfInBounds_toArray, List.set_cons_zero, List.set_cons_succ]
  refine wpAnyH_ready (rs := [4]) (by kernel_rfl) (by simp) ?_
  refine AllReadyH.cons rfl (fun K hK => ?_) ?_
  rotate_left
  · exact AllReadyH.nil
  go_simp
  (go_at_call 13; (with_reducible refine (CD.out _).mono ?_); rintro e wb ⟨pb, cb, rfl, hcb, hr, hb⟩; have Rb := Lib.hid (R3.out.trans (hb.mono R3.out.size)); have htb := text_run hr; clear hr hb)
  refine hK.out _ _ ?_ (fun hHeld => ?_)
  · exact HSA.out _ Rb.out
  clear hK K
  try simp only [List.getElem_toArray, List.getElem_cons_succ, List.getElem_cons_zero, Act.put, List.setIfInBounds_toArray, List.set_cons_zero, List.set_cons_succ]
  refine wpAnyH_ready (rs := [5]) (by kernel_rfl) (by simp) ?_
  refine AllReadyH.cons rfl (fun K hK => ?_) ?_
  rotate_left
  · exact AllReadyH.nil
  go_simp
  skip
  refine hK.out _ _ ?_ (fun hHeld => ?_)
  · exact HSA.out _ Rb.out
  clear hK K
  try simp only [List.getElem_toArray, List.getElem_cons_succ, List.getElem_cons_zero, Act.put, List.setIfInBounds_toArray, List.set_cons_zero, List.set_cons_succ]
  refine wpAnyH_take (i := 10) (v := ?_) rfl (by kernel_rfl) (by kernel_rfl) (by kernel_rfl) (fun _ _ _ h => h) (Or.inl ⟨by rfl, fun w hSw => ?_⟩) (by assumption) ?_
  rotate_left
  · (try dsimp only at hSw); go_simp; (try with_reducible rfl)
  try simp only [List.getElem_toArray, List.getElem_cons_succ, List.getElem_cons_zero, Act.put, List.setIfInBounds_toArray, List.set_cons_zero, List.set_cons_succ]
  refine wpAnyH_done (by kernel_rfl) ?_ _
  have F1 := Lib.hid (F0.out.same (Rb.out.block _ (F0.out.lt)))
  have Bb := Lib.hid (B0.out.trans (Rb.out.mono l0.out))
  have S0 := Lib.hid (st_start Bb.out (by rw [← hsz]; exact F1.out) HLK.out HR2.out)
  have CN := Lib.hid (fun (e0 : Nat) ys X (h : Src W wb.heap.size ys e0 X) => num_anyE W wb.heap.size e0 ys X h)
  have CC := Lib.hid (fun ys X (h : Src W wb.heap.size ys ((0 : Nat) : Int) X) => cmd_any' W wb.heap.size ys X h)
  clear hHeld htb HSA R3 Rb CR CD HS1 hcut1 HR2
  go_wp2_with fail
  generalize hW1 : (wb.alloc (.cells #[.slice p k cap, .int .i64 0] 66)).alloc (.cells #[.int .i64 0, .int .i64 0, .int .i64 0, .slice none 0 0, .slice none 0 0] 27) = W1 at S0 ⊢
  clear hW1
  generalize wb.heap.size = g at S0 CN CC ⊢
  go_upto_region 12 with (first
    | (go_at_call 31; (with_reducible refine (CN.out _ _ _ S0.out.src).mono ?_); rintro E1 w1 ⟨a, e1, y1, rfl, hb1, hs1, hl1⟩; have L1 := Lib.hid hl1; have T1 := Lib.hid (S0.out.step hb1 hs1); obtain ⟨ea, fa, ca0, ca1, ca2, ca3, ca4, ga0, ga1, ga2, ga3, ga4⟩ := T1.out.facts; have S1 := Lib.hid (T1.out.put0 a); clear hb1 hs1 hl1)
    | (go_at_call 31; (with_reducible refine (CN.out _ _ _ S1.out.src).mono ?_); rintro E2 w2 ⟨b, e2, y2, rfl, hb2, hs2, hl2⟩; have L2 := Lib.hid hl2; have T2 := Lib.hid (S1.out.step hb2 hs2); obtain ⟨eb, fb, cb0, cb1, cb2, cb3, cb4, gb0, gb1, gb2, gb3, gb4⟩ := T2.out.facts; have S2 := Lib.hid (T2.out.put1 b); clear hb2 hs2 hl2)
    | (go_at_call 31; (with_reducible refine (CN.out _ _ _ S2.out.src).mono ?_); rintro E3 w3 ⟨q, e3, y3, rfl, hb3, hs3, hl3⟩; have L3 := Lib.hid hl3; have T3 := Lib.hid (S2.out.step hb3 hs3); obtain ⟨ec, fc, cc0, cc1, cc2, cc3, cc4, gc0, gc1, gc2, gc3, gc4⟩ := T3.out.facts; have S3 := Lib.hid (T3.out.put2 q); clear hb3 hs3 hl3)
    | (go_at_call 31; (with_reducible refine (CN.out _ _ _ S3.out.src).mono ?_); rintro E4 w4 ⟨N, e4, y4, rfl, hb4, hs4, hl4⟩; have L4 := Lib.hid hl4; have T4 := Lib.hid (S3.out.step hb4 hs4); obtain ⟨ed, fd, cd0, cd1, cd2, cd3, cd4, gd0, gd1, gd2, gd3, gd4⟩ := T4.out.facts;  clear hb4 hs4 hl4))
  go_cut [56] (fun c wx => ∃ bb : Bool, c = .bool bb ∧ Hid (bb = decide (e4 = 0 ∧ 16 < N)) ∧ w4 = wx)
  case first =>
    by_cases he : e4 = 0
    · have he' : ((e4 : Int) == 0) = true := by rw [he]; rfl
      by_cases hN : 16 < N
      · have hN' : (16 : Int) < N := by omega
        have hN2 : decide (16 < N) = true := decide_eq_true hN
        have Hx : Hid (true = decide (e4 = 0 ∧ 16 < N)) := Lib.hid (by rw [decide_eq_true ⟨he, hN⟩])
        clear hN he
        go_wp2_with fail
        go_meet
        exact ⟨true, rfl, Hx, rfl⟩
      · have hN' : ¬ (16 : Int) < N := by omega
        have hN2 : decide (16 < N) = false := decide_eq_false hN
        have Hx : Hid (false = decide (e4 = 0 ∧ 16 < N)) := Lib.hid (by rw [decide_eq_false (fun h => hN h.2)])
        clear hN he
        go_wp2_with fail
        go_meet
        exact ⟨false, rfl, Hx, rfl⟩
    · have he' : ((e4 : Int) == 0) = false := natbeq he
      have Hx : Hid (false = decide (e4 = 0 ∧ 16 < N)) := Lib.hid (by rw [decide_eq_false (fun h => he h.1)])
      clear he
      go_wp2_with fail
      go_meet
      exact ⟨false, rfl, Hx, rfl⟩
  obtain ⟨bb, rfl, HB, rfl⟩ := hcut
  go_upto_if 56 with fail
  go_cut [] (fun wc => ∃ e5 : Nat, Hid (St W g (g + 1) y4 e5 a b q (.slice none 0 0) (.slice none 0 0) wc) ∧ Hid (e5 = if e4 = 0 ∧ 16 < N then 10 else e4))
  case first =>
    cases bb
    · have Hx : Hid (e4 = if e4 = 0 ∧ 16 < N then 10 else e4) := Lib.hid (by rw [if_neg (of_decide_eq_false HB.out.symm)])
      clear HB
      go_wp2_with fail
      go_meet
      exact ⟨e4, T4, Hx⟩
    · have Hx : Hid (10 = if e4 = 0 ∧ 16 < N then 10 else e4) := Lib.hid (by rw [if_pos (of_decide_eq_true HB.out.symm)])
      have Sx := Lib.hid (T4.out.fail 10)
      clear HB
      go_wp2_with fail
      go_meet
      exact ⟨10, Sx, Hx⟩
  obtain ⟨e5, S5, H5⟩ := hcut
  clear ca0 ca1 ca2 ca3 ca4 ga0 ga1 ga2 ga3 ga4 ea fa cb0 cb1 cb2 cb3 cb4 gb0 gb1 gb2 gb3 gb4 eb fb cc0 cc1 cc2 cc3 cc4 gc0 gc1 gc2 gc3 gc4 ec fc cd0 cd1 cd2 cd3 cd4 gd0 gd1 gd2 gd3 gd4 ed fd S0 S1 S2 S3 T1 T2 T3 T4 F0 F1 B0 Bb
  go_upto_block 0 with fail
  go_cut [] (fun wc => ∃ (e6 : Nat) (y6 : List UInt8) (pv : Option Addr) (cv : Nat) (ds : List Idn), Hid (ds.length ≤ 16) ∧ Hid (St W g (g + 1) y6 e6 a b q (.slice pv ds.length cv) (.slice none 0 0) wc) ∧ Hid (Owns wc (g + 2) (.slice pv ds.length cv) ds) ∧ Hid (Lk (gmany gid N y4) e5 ds e6 y6))
  case first =>
    go_wp2_with fail
    go_loopw [8] (fun i wr => ∃ (j e : Nat) (ys : List UInt8) (pv : Option Addr) (cv : Nat) (ds : List Idn), i = .int .i64 j ∧ ds.length = j ∧ j ≤ 16 ∧ j ≤ N ∧ Hid (St W g (g + 1) ys e a b q (.slice pv j cv) (.slice none 0 0) wr) ∧ Hid (Owns wr (g + 2) (.slice pv j cv) ds) ∧ Hid (Way gid N e5 y4 j ds e ys)) (fun i _ => N - (intOf i).toNat)
    case atStart => exact ⟨0, e5, y4, none, 0, [], rfl, rfl, by omega, Nat.zero_le _, S5, Lib.hid (World.ownsRow_nil _ _ _ _), Lib.hid (Way.start N e5 y4)⟩
    case round =>
      obtain ⟨j, e, ys, pv, cv, ds, rfl, hdl, hj16, hjle, S, O, HW⟩ := hrel
      have hlt := S.out.box.lt
      obtain ⟨ez, fz, cz0, cz1, cz2, cz3, cz4, gz0, gz1, gz2, gz3, gz4⟩ := S.out.facts
      have j0 : (0 : Int) ≤ j := by omega
      by_cases hgo : j < N ∧ e = 0
      · obtain ⟨hjN, rfl⟩ := hgo
        have hjN' : (j : Int) < N := by omega
        have hN16 : N ≤ 16 := by
          have h5 := H5.out
          rcases HW.out with ⟨h0, -, -⟩ | ⟨-, h0, -⟩ | ⟨h0, h1⟩
          · subst h0; split at h5 <;> omega
          · exact absurd rfl h0
          · exact absurd h1.symm h0
        have hj1 : j + 1 ≤ 16 := by omega
        have Sd := Lib.hid (S.out.alloc (.cells #[.int .i64 0, .int .i64 0] 23))
        have D0 := Lib.hid (Duo.new wr (.int .i64 0) (.int .i64 0) 23)
        have O0 := Lib.hid (World.ownsRow.alloc O.out (.cells #[.int .i64 0, .int .i64 0] 23))
        have OL := Lib.hid (own_lt O.out)
        have hne : Hid (wr.heap.size ≠ g) := Lib.hid (by omega)
        have hlr : Hid (g + 1 < wr.heap.size) := Lib.hid hlt
        have hgg : Hid (g < g + 2) := Lib.hid (by omega)
        have hgr : Hid (g + 1 < g + 2) := Lib.hid (by omega)
        have HDL := Lib.hid hdl
        clear hdl hN16 hlt
        go_wp2_with (first
          | (go_at_call 31; (with_reducible refine (CN.out _ _ _ Sd.out.src).mono ?_); rintro E6 w6 ⟨x, e6, y6, rfl, hb6, hs6, hl6⟩; have L6 := Lib.hid hl6; have T6 := Lib.hid (Sd.out.step hb6 hs6); obtain ⟨eh, fh, ch0, ch1, ch2, ch3, ch4, gh0, gh1, gh2, gh3, gh4⟩ := T6.out.facts; have D6 := Lib.hid ((D0.out.gb hb6 hne.out).set0 (.int .i64 x)); obtain ⟨p0, p1, r0, r1⟩ := (D0.out.gb hb6 hne.out).cells; have O6 := Lib.hid (own_off (own_gb O0.out hb6 hgg.out) OL.out 0 (.int .i64 x)); have S6 := Lib.hid (T6.out.other hlr.out 0 (.int .i64 x)); clear hb6 hs6 hl6)
          | (go_at_call 31; (with_reducible refine (CN.out _ _ _ S6.out.src).mono ?_); rintro E7 w7 ⟨y, e7, y7, rfl, hb7, hs7, hl7⟩; have L7 := Lib.hid hl7; have T7 := Lib.hid (S6.out.step hb7 hs7); obtain ⟨ei, fi, ci0, ci1, ci2, ci3, ci4, gi0, gi1, gi2, gi3, gi4⟩ := T7.out.facts; have D7 := Lib.hid ((D6.out.gb hb7 hne.out).set1 (.int .i64 y)); obtain ⟨s0, s1, t0, t1⟩ := (D6.out.gb hb7 hne.out).cells; have O7 := Lib.hid (own_off (own_gb O6.out hb7 hgg.out) OL.out 1 (.int .i64 y)); have S7 := Lib.hid (T7.out.other hlr.out 1 (.int .i64 y)); clear hb7 hs7 hl7)
          | (at_builtin; refine wpList_append_own _ rfl _ _ 24 rfl (g + 2) 23 i0 (.agg #[.int .i64 0, .int .i64 0]) 2 16 Try.underlying24 hi hz0 hz1 hz2 rfl (by decide) _ _ _ rfl (World.ownsRow.alloc O7.out _) ⟨w7.heap.size, 0, none⟩ 1 1 [.int .i64 x, .int .i64 y] rfl rfl (two_cells_set _ _ _ _ _ _) (two_one _ _) (by have h0 := HDL.out; unfold maxLen; omega) (by have h0 := HDL.out; omega) (by have h2 := S7.out.box.lt; simp at h2 ⊢; omega) ?_; intro v1 w8 hown1 hgrow1 hnil1; have X1 := Lib.hid hown1; have S8 := Lib.hid (St.grown S7.out O7.out _ hgrow1); have hf := own_form hown1; rw [HDL.out] at hf; obtain ⟨pw, cw, rfl⟩ := hf; obtain ⟨ej, fj, cj0, cj1, cj2, cj3, cj4, gj0, gj1, gj2, gj3, gj4⟩ := S8.out.facts; clear hown1 hgrow1 hnil1))
        have hst := S8.out.put3 (.slice pw (j + 1) cw)
        have how : Owns (w8.setCell ⟨g + 1, 3, none⟩ (.slice pw (j + 1) cw)) (g + 2) (.slice pw (j + 1) cw) (ds ++ [((x : Int), (y : Int))]) := own_far (Owns.snoc X1.out) hgr.out 3 _
        have hwy : Way gid N e5 y4 (j + 1) (ds ++ [((x : Int), (y : Int))]) e7 y7 := HW.out.step hjN (id_step L6.out L7.out)
        have hjd := HDL.out
        go_roundw
        case rel => exact ⟨j + 1, e7, y7, pw, cw, ds ++ [((x : Int), (y : Int))], by go_num, by rw [List.length_append, hjd]; rfl, hj1, hjN, Lib.hid hst, Lib.hid how, Lib.hid hwy⟩
        case measure => simp [intOf]; omega
      · subst hdl
        have HF := Lib.hid (HW.out.fin (fun h0 => Nat.le_antisymm hjle (Nat.le_of_not_lt fun h => hgo ⟨h, h0⟩)))
        have HL := Lib.hid hj16
        by_cases hl : ds.length < N
        · have hl' : (ds.length : Int) < N := by omega
          have he' : ((e : Int) == 0) = false := natbeq (fun h => hgo ⟨hl, h⟩)
          clear hgo hl hjle hj16
          go_wp2_with fail
          go_meet
          exact ⟨e, ys, pv, cv, ds, HL, S, O, HF⟩
        · have hl' : ¬ (ds.length : Int) < N := by omega
          clear hgo hl hjle hj16
          go_wp2_with fail
          go_meet
          exact ⟨e, ys, pv, cv, ds, HL, S, O, HF⟩
  obtain ⟨e6, y6, pd, cd, ds, HL, S6, O6, L6⟩ := hcut
  have hgg : Hid (g < g + 2) := Lib.hid (by omega)
  clear S5
  go_upto_region 22 with (first
    | (go_at_call 31; (with_reducible refine (CN.out _ _ _ S6.out.src).mono ?_); rintro E8 w8 ⟨m, e8, y8, rfl, hb8, hs8, hl8⟩; have L8 := Lib.hid hl8; have T8 := Lib.hid (S6.out.step hb8 hs8); obtain ⟨ek, fk, ck0, ck1, ck2, ck3, ck4, gk0, gk1, gk2, gk3, gk4⟩ := T8.out.facts; have O8 := Lib.hid (own_gb O6.out hb8 hgg.out); clear hb8 hs8 hl8))
  go_cut [95] (fun c wx => ∃ bb : Bool, c = .bool bb ∧ Hid (bb = decide (e8 = 0 ∧ 8 < m)) ∧ w8 = wx)
  case first =>
    by_cases he : e8 = 0
    · have he' : ((e8 : Int) == 0) = true := by rw [he]; rfl
      by_cases hN : 8 < m
      · have hN' : (8 : Int) < m := by omega
        have hN2 : decide (8 < m) = true := decide_eq_true hN
        have Hx : Hid (true = decide (e8 = 0 ∧ 8 < m)) := Lib.hid (by rw [decide_eq_true ⟨he, hN⟩])
        clear hN he
        go_wp2_with fail
        go_meet
        exact ⟨true, rfl, Hx, rfl⟩
      · have hN' : ¬ (8 : Int) < m := by omega
        have hN2 : decide (8 < m) = false := decide_eq_false hN
        have Hx : Hid (false = decide (e8 = 0 ∧ 8 < m)) := Lib.hid (by rw [decide_eq_false (fun h => hN h.2)])
        clear hN he
        go_wp2_with fail
        go_meet
        exact ⟨false, rfl, Hx, rfl⟩
    · have he' : ((e8 : Int) == 0) = false := natbeq he
      have Hx : Hid (false = decide (e8 = 0 ∧ 8 < m)) := Lib.hid (by rw [decide_eq_false (fun h => he h.1)])
      clear he
      go_wp2_with fail
      go_meet
      exact ⟨false, rfl, Hx, rfl⟩
  obtain ⟨bb, rfl, HB, rfl⟩ := hcut
  go_upto_if 95 with fail
  go_cut [] (fun wc => ∃ e9 : Nat, Hid (St W g (g + 1) y8 e9 a b q (.slice pd ds.length cd) (.slice none 0 0) wc) ∧ Hid (e9 = if e8 = 0 ∧ 8 < m then 5 else e8) ∧ Hid (Owns wc (g + 2) (.slice pd ds.length cd) ds))
  case first =>
    cases bb
    · have Hx : Hid (e8 = if e8 = 0 ∧ 8 < m then 5 else e8) := Lib.hid (by rw [if_neg (of_decide_eq_false HB.out.symm)])
      clear HB
      go_wp2_with fail
      go_meet
      exact ⟨e8, T8, Hx, O8⟩
    · have Hx : Hid (5 = if e8 = 0 ∧ 8 < m then 5 else e8) := Lib.hid (by rw [if_pos (of_decide_eq_true HB.out.symm)])
      have Sx := Lib.hid (T8.out.fail 5)
      clear HB
      go_wp2_with fail
      go_meet
      exact ⟨5, Sx, Hx, Lib.hid (own_far O8.out hgg.out 1 _)⟩
  obtain ⟨e9, S9, H9, O9⟩ := hcut
  clear ck0 ck1 ck2 ck3 ck4 gk0 gk1 gk2 gk3 gk4 ek fk S6 O6 T8 O8
  go_upto_block 2 with fail
  have hB2 : g + 2 ≤ wc.heap.size := by have := S9.out.box.lt; omega
  have OB : Hid (∀ k, (Value.slice pd ds.length cd).ownBlock = some k → k < wc.heap.size) := Lib.hid fun k hk => (World.ownsRow.lt O9.out k hk).2
  have HB0 : Hid (wc.heap.size ≤ wc.heap.size) := Lib.hid (Nat.le_refl _)
  generalize hBB : wc.heap.size = B at hB2 OB
  rw [hBB] at HB0
  have HB0' : Hid (B ≤ wc.heap.size) := Lib.hid (Nat.le_of_eq hBB.symm)
  have hgB2 : Hid (g + 1 < B) := Lib.hid (by omega)
  have hgB3 : Hid (g + 2 ≤ B) := Lib.hid hB2
  have hgB : Hid (g < B) := Lib.hid (by omega)
  have hgr : Hid (g + 1 < g + 2) := Lib.hid (by omega)
  clear hB2 hBB HB0
  go_cut [] (fun wc => ∃ (e10 : Nat) (y10 : List UInt8) (pu : Option Addr) (cu : Nat) (cs : List Cmdn), Hid (cs.length ≤ 8) ∧ Hid (St W g (g + 1) y10 e10 a b q (.slice pd ds.length cd) (.slice pu cs.length cu) wc) ∧ Hid (Owns wc (g + 2) (.slice pd ds.length cd) ds) ∧ Hid (OwnK wc B (.slice pu cs.length cu) cs) ∧ Hid (GoodC cs) ∧ Hid (Lk (gmany gcmd m y8) e9 (cs.map cmdC) e10 y10))
  case first =>
    go_wp2_with fail
    go_loopw [10] (fun i wr => ∃ (j e : Nat) (ys : List UInt8) (pv : Option Addr) (cv : Nat) (cs : List Cmdn), i = .int .i64 j ∧ cs.length = j ∧ j ≤ 8 ∧ j ≤ m ∧ Hid (St W g (g + 1) ys e a b q (.slice pd ds.length cd) (.slice pv j cv) wr) ∧ Hid (Owns wr (g + 2) (.slice pd ds.length cd) ds) ∧ Hid (OwnK wr B (.slice pv j cv) cs) ∧ Hid (GoodC cs) ∧ Hid (B ≤ wr.heap.size) ∧ Hid (Way gcmd m e9 y8 j (cs.map cmdC) e ys)) (fun i _ => m - (intOf i).toNat)
    case atStart => exact ⟨0, e9, y8, none, 0, [], rfl, rfl, by omega, Nat.zero_le _, S9, O9, Lib.hid (World.ownsRow_nil _ _ _ _), Lib.hid (fun c hc => absurd hc (by simp)), HB0', Lib.hid (Way.start m e9 y8)⟩
    case round =>
      obtain ⟨j, e, ys, pv, cv, cs, rfl, hdl, hj8, hjle, S, O, KO, HG, HB, HW⟩ := hrel
      obtain ⟨em, fm, cm0, cm1, cm2, cm3, cm4, gm0, gm1, gm2, gm3, gm4⟩ := S.out.facts
      have j0 : (0 : Int) ≤ j := by omega
      by_cases hgo : j < m ∧ e = 0
      · obtain ⟨hjm, rfl⟩ := hgo
        have hjm' : (j : Int) < m := by omega
        have hm8 : m ≤ 8 := by
          have h5 := H9.out
          rcases HW.out with ⟨h0, -, -⟩ | ⟨-, h0, -⟩ | ⟨h0, h1⟩
          · subst h0; split at h5 <;> omega
          · exact absurd rfl h0
          · exact absurd h1.symm h0
        have hj1 : j + 1 ≤ 8 := by omega
        have h100 : Hid (j ≤ 100) := Lib.hid (by omega)
        have Sd := Lib.hid S.out.drew
        have hbd : wr.grownBy wr.drew none := grown_of (Below.refl _ _).drew
        have HBd : Hid (B ≤ wr.drew.heap.size) := Lib.hid (by rw [World.size_drew]; exact HB.out)
        have Od := Lib.hid (own_below O.out (Below.refl _ _).drew)
        have Kd := Lib.hid (own_below KO.out (Below.refl _ _).drew)
        obtain ⟨el, fl, cl0, cl1, cl2, cl3, cl4, gl0, gl1, gl2, gl3, gl4⟩ := Sd.out.facts
        have HDL := Lib.hid hdl
        clear hdl hm8 hbd
        go_upto_region 27 with fail
        refine wp_region_held_drew (S := (fun w' => True)) (by kernel_rfl) trivial (fun hHeld => ?_)
        refine wpAnyH_take (i := 0) (v := ?_) rfl (by kernel_rfl) (by kernel_rfl) (by kernel_rfl) (fun _ _ _ h => h) (Or.inl ⟨by rfl, fun w hSw => ?_⟩) (by assumption) ?_
        rotate_left
        · (try dsimp only at hSw); go_simp; (try with_reducible rfl)
        try simp only [List.getElem_toArray, List.getElem_cons_succ, List.getElem_cons_zero, Act.put, List.setIfInBounds_toArray, List.set_cons_zero, List.set_cons_succ]
        refine wpAnyH_take (i := 2) (v := ?_) rfl (by kernel_rfl) (by kernel_rfl) (by kernel_rfl) (fun _ _ _ h => h) (Or.inl ⟨by rfl, fun w hSw => ?_⟩) (by assumption) ?_
        rotate_left
        · (try dsimp only at hSw); go_simp; (try with_reducible rfl)
        try simp only [List.getElem_toArray, List.getElem_cons_succ, List.getElem_cons_zero, Act.put, List.setIfInBounds_toArray, List.set_cons_zero, List.set_cons_succ]
        refine wpAnyH_ready (rs := [1, 3]) (by kernel_rfl) (by simp) ?_
        refine AllReadyH.cons rfl (fun K hK => ?_) (AllReadyH.cons rfl (fun K hK => ?_) AllReadyH.nil)
        · go_simp
          skip
          refine hK.out _ _ ?_ (fun hHeld => ?_)
          · trivial
          clear hK K
          try simp only [List.getElem_toArray, List.getElem_cons_succ, List.getElem_cons_zero, Act.put, List.setIfInBounds_toArray, List.set_cons_zero, List.set_cons_succ]
          refine wpAnyH_ready (rs := [3]) (by kernel_rfl) (by simp) ?_
          refine AllReadyH.cons rfl (fun K hK => ?_) ?_
          rotate_left
          · exact AllReadyH.nil
          go_simp
          (go_at_call 32; (with_reducible refine (CC.out _ _ Sd.out.src).mono ?_); rintro E7 w7 ⟨kk, s, z, e7, y7, rfl, hb7, hs7, hz7, hv7, hl7⟩; have L7 := Lib.hid hl7; have HZ := Lib.hid hz7; have HV := Lib.hid hv7; have T7 := Lib.hid (Sd.out.step hb7 hs7); obtain ⟨en, fn, cn0, cn1, cn2, cn3, cn4, gn0, gn1, gn2, gn3, gn4⟩ := T7.out.facts; have ca7 := fun o => ((T7.out.alloc o).facts).2.2.2.2.2.2.1; have O7 := Lib.hid (own_gb Od.out hb7 hgg.out); have K7 := Lib.hid (own_gb Kd.out hb7 hgB.out); have hs7 := Lib.hid (gb_le hb7 HBd.out); clear hb7 hz7 hv7 hl7)
          refine hK.out _ _ ?_ (fun hHeld => ?_)
          · trivial
          clear hK K
          try simp only [List.getElem_toArray, List.getElem_cons_succ, List.getElem_cons_zero, Act.put, List.setIfInBounds_toArray, List.set_cons_zero, List.set_cons_succ]
          refine wpAnyH_ready (rs := [4]) (by kernel_rfl) (by simp) ?_
          refine AllReadyH.cons rfl (fun K hK => ?_) ?_
          rotate_left
          · exact AllReadyH.nil
          go_simp
          skip
          refine hK.out _ _ ?_ (fun hHeld => ?_)
          · trivial
          clear hK K
          try simp only [List.getElem_toArray, List.getElem_cons_succ, List.getElem_cons_zero, Act.put, List.setIfInBounds_toArray, List.set_cons_zero, List.set_cons_succ]
          refine wpAnyH_ready (rs := [5]) (by kernel_rfl) (by simp) ?_
          refine AllReadyH.cons rfl (fun K hK => ?_) ?_
          rotate_left
          · exact AllReadyH.nil
          (refine step_cmd (by kernel_rfl) _ _ rfl B j pv cv cs HDL rfl K7.out hs7.out kk s z rfl h100.out ?_; intro pw cw w8 K8 G8; have S8 := Lib.hid (T7.out.grownB hgB3.out K7.out hs7.out _ G8.out); have O8 := Lib.hid (own_apartB K7.out O7.out OB.out _ G8.out); have hs8 := Lib.hid (gb_leA G8.out hs7.out); obtain ⟨eo, fo, co0, co1, co2, co3, co4, go0, go1, go2, go3, go4⟩ := S8.out.facts)
          refine hK.out _ _ ?_ (fun hHeld => ?_)
          · trivial
          clear hK K
          try simp only [List.getElem_toArray, List.getElem_cons_succ, List.getElem_cons_zero, Act.put, List.setIfInBounds_toArray, List.set_cons_zero, List.set_cons_succ]
          refine wpAnyH_take (i := 6) (v := ?_) rfl (by kernel_rfl) (by kernel_rfl) (by kernel_rfl) (fun _ _ _ h => h) (Or.inl ⟨by rfl, fun w hSw => ?_⟩) (by assumption) ?_
          rotate_left
          · (try dsimp only at hSw); go_simp; (try with_reducible rfl)
          try simp only [List.getElem_toArray, List.getElem_cons_succ, List.getElem_cons_zero, Act.put, List.setIfInBounds_toArray, List.set_cons_zero, List.set_cons_succ]
          refine wpAnyH_ready (rs := [7]) (by kernel_rfl) (by simp) ?_
          refine AllReadyH.cons rfl (fun K hK => ?_) ?_
          rotate_left
          · exact AllReadyH.nil
          go_simp
          skip
          refine hK.out _ _ ?_ (fun hHeld => ?_)
          · trivial
          clear hK K
          try simp only [List.getElem_toArray, List.getElem_cons_succ, List.getElem_cons_zero, Act.put, List.setIfInBounds_toArray, List.set_cons_zero, List.set_cons_succ]
          refine wpAnyH_done (by kernel_rfl) ?_ _
          go_wp2_with fail
          have hjd := HDL.out
          have hwy : Way gcmd m e9 y8 (j + 1) ((cs ++ [(kk, s, z)]).map cmdC) e7 y7 := by rw [List.map_append]; exact HW.out.step hjm L7.out
          go_roundw
          case rel => exact ⟨j + 1, e7, y7, pw, cw, cs ++ [(kk, s, z)], by go_num, by rw [List.length_append, hjd]; rfl, hj1, hjm, Lib.hid (S8.out.put4 _), Lib.hid (own_far O8.out hgr.out 4 _), Lib.hid (own_far K8.out hgB2.out 4 _), Lib.hid (HG.out.snoc HZ.out HV.out), Lib.hid (by rw [World.size_setCell]; exact hs8.out), Lib.hid hwy⟩
          case measure => simp [intOf]; omega
        · go_simp
          (go_at_call 32; (with_reducible refine (CC.out _ _ Sd.out.src).mono ?_); rintro E7 w7 ⟨kk, s, z, e7, y7, rfl, hb7, hs7, hz7, hv7, hl7⟩; have L7 := Lib.hid hl7; have HZ := Lib.hid hz7; have HV := Lib.hid hv7; have T7 := Lib.hid (Sd.out.step hb7 hs7); obtain ⟨en, fn, cn0, cn1, cn2, cn3, cn4, gn0, gn1, gn2, gn3, gn4⟩ := T7.out.facts; have ca7 := fun o => ((T7.out.alloc o).facts).2.2.2.2.2.2.1; have O7 := Lib.hid (own_gb Od.out hb7 hgg.out); have K7 := Lib.hid (own_gb Kd.out hb7 hgB.out); have hs7 := Lib.hid (gb_le hb7 HBd.out); clear hb7 hz7 hv7 hl7)
          refine hK.out _ _ ?_ (fun hHeld => ?_)
          · trivial
          clear hK K
          try simp only [List.getElem_toArray, List.getElem_cons_succ, List.getElem_cons_zero, Act.put, List.setIfInBounds_toArray, List.set_cons_zero, List.set_cons_succ]
          refine wpAnyH_ready (rs := [1, 4]) (by kernel_rfl) (by simp) ?_
          refine AllReadyH.cons rfl (fun K hK => ?_) (AllReadyH.cons rfl (fun K hK => ?_) AllReadyH.nil)
          · go_simp
            skip
            refine hK.out _ _ ?_ (fun hHeld => ?_)
            · trivial
            clear hK K
            try simp only [List.getElem_toArray, List.getElem_cons_succ, List.getElem_cons_zero, Act.put, List.setIfInBounds_toArray, List.set_cons_zero, List.set_cons_succ]
            refine wpAnyH_ready (rs := [4]) (by kernel_rfl) (by simp) ?_
            refine AllReadyH.cons rfl (fun K hK => ?_) ?_
            rotate_left
            · exact AllReadyH.nil
            go_simp
            skip
            refine hK.out _ _ ?_ (fun hHeld => ?_)
            · trivial
            clear hK K
            try simp only [List.getElem_toArray, List.getElem_cons_succ, List.getElem_cons_zero, Act.put, List.setIfInBounds_toArray, List.set_cons_zero, List.set_cons_succ]
            refine wpAnyH_ready (rs := [5]) (by kernel_rfl) (by simp) ?_
            refine AllReadyH.cons rfl (fun K hK => ?_) ?_
            rotate_left
            · exact AllReadyH.nil
            (refine step_cmd (by kernel_rfl) _ _ rfl B j pv cv cs HDL rfl K7.out hs7.out kk s z rfl h100.out ?_; intro pw cw w8 K8 G8; have S8 := Lib.hid (T7.out.grownB hgB3.out K7.out hs7.out _ G8.out); have O8 := Lib.hid (own_apartB K7.out O7.out OB.out _ G8.out); have hs8 := Lib.hid (gb_leA G8.out hs7.out); obtain ⟨eo, fo, co0, co1, co2, co3, co4, go0, go1, go2, go3, go4⟩ := S8.out.facts)
            refine hK.out _ _ ?_ (fun hHeld => ?_)
            · trivial
            clear hK K
            try simp only [List.getElem_toArray, List.getElem_cons_succ, List.getElem_cons_zero, Act.put, List.setIfInBounds_toArray, List.set_cons_zero, List.set_cons_succ]
            refine wpAnyH_take (i := 6) (v := ?_) rfl (by kernel_rfl) (by kernel_rfl) (by kernel_rfl) (fun _ _ _ h => h) (Or.inl ⟨by rfl, fun w hSw => ?_⟩) (by assumption) ?_
            rotate_left
            · (try dsimp only at hSw); go_simp; (try with_reducible rfl)
            try simp only [List.getElem_toArray, List.getElem_cons_succ, List.getElem_cons_zero, Act.put, List.setIfInBounds_toArray, List.set_cons_zero, List.set_cons_succ]
            refine wpAnyH_ready (rs := [7]) (by kernel_rfl) (by simp) ?_
            refine AllReadyH.cons rfl (fun K hK => ?_) ?_
            rotate_left
            · exact AllReadyH.nil
            go_simp
            skip
            refine hK.out _ _ ?_ (fun hHeld => ?_)
            · trivial
            clear hK K
            try simp only [List.getElem_toArray, List.getElem_cons_succ, List.getElem_cons_zero, Act.put, List.setIfInBounds_toArray, List.set_cons_zero, List.set_cons_succ]
            refine wpAnyH_done (by kernel_rfl) ?_ _
            go_wp2_with fail
            have hjd := HDL.out
            have hwy : Way gcmd m e9 y8 (j + 1) ((cs ++ [(kk, s, z)]).map cmdC) e7 y7 := by rw [List.map_append]; exact HW.out.step hjm L7.out
            go_roundw
            case rel => exact ⟨j + 1, e7, y7, pw, cw, cs ++ [(kk, s, z)], by go_num, by rw [List.length_append, hjd]; rfl, hj1, hjm, Lib.hid (S8.out.put4 _), Lib.hid (own_far O8.out hgr.out 4 _), Lib.hid (own_far K8.out hgB2.out 4 _), Lib.hid (HG.out.snoc HZ.out HV.out), Lib.hid (by rw [World.size_setCell]; exact hs8.out), Lib.hid hwy⟩
            case measure => simp [intOf]; omega
          · go_simp
            skip
            refine hK.out _ _ ?_ (fun hHeld => ?_)
            · trivial
            clear hK K
            try simp only [List.getElem_toArray, List.getElem_cons_succ, List.getElem_cons_zero, Act.put, List.setIfInBounds_toArray, List.set_cons_zero, List.set_cons_succ]
            refine wpAnyH_ready (rs := [1]) (by kernel_rfl) (by simp) ?_
            refine AllReadyH.cons rfl (fun K hK => ?_) ?_
            rotate_left
            · exact AllReadyH.nil
            go_simp
            skip
            refine hK.out _ _ ?_ (fun hHeld => ?_)
            · trivial
            clear hK K
            try simp only [List.getElem_toArray, List.getElem_cons_succ, List.getElem_cons_zero, Act.put, List.setIfInBounds_toArray, List.set_cons_zero, List.set_cons_succ]
            refine wpAnyH_ready (rs := [5]) (by kernel_rfl) (by simp) ?_
            refine AllReadyH.cons rfl (fun K hK => ?_) ?_
            rotate_left
            · exact AllReadyH.nil
            (refine step_cmd (by kernel_rfl) _ _ rfl B j pv cv cs HDL rfl K7.out hs7.out kk s z rfl h100.out ?_; intro pw cw w8 K8 G8; have S8 := Lib.hid (T7.out.grownB hgB3.out K7.out hs7.out _ G8.out); have O8 := Lib.hid (own_apartB K7.out O7.out OB.out _ G8.out); have hs8 := Lib.hid (gb_leA G8.out hs7.out); obtain ⟨eo, fo, co0, co1, co2, co3, co4, go0, go1, go2, go3, go4⟩ := S8.out.facts)
            refine hK.out _ _ ?_ (fun hHeld => ?_)
            · trivial
            clear hK K
            try simp only [List.getElem_toArray, List.getElem_cons_succ, List.getElem_cons_zero, Act.put, List.setIfInBounds_toArray, List.set_cons_zero, List.set_cons_succ]
            refine wpAnyH_take (i := 6) (v := ?_) rfl (by kernel_rfl) (by kernel_rfl) (by kernel_rfl) (fun _ _ _ h => h) (Or.inl ⟨by rfl, fun w hSw => ?_⟩) (by assumption) ?_
            rotate_left
            · (try dsimp only at hSw); go_simp; (try with_reducible rfl)
            try simp only [List.getElem_toArray, List.getElem_cons_succ, List.getElem_cons_zero, Act.put, List.setIfInBounds_toArray, List.set_cons_zero, List.set_cons_succ]
            refine wpAnyH_ready (rs := [7]) (by kernel_rfl) (by simp) ?_
            refine AllReadyH.cons rfl (fun K hK => ?_) ?_
            rotate_left
            · exact AllReadyH.nil
            go_simp
            skip
            refine hK.out _ _ ?_ (fun hHeld => ?_)
            · trivial
            clear hK K
            try simp only [List.getElem_toArray, List.getElem_cons_succ, List.getElem_cons_zero, Act.put, List.setIfInBounds_toArray, List.set_cons_zero, List.set_cons_succ]
            refine wpAnyH_done (by kernel_rfl) ?_ _
            go_wp2_with fail
            have hjd := HDL.out
            have hwy : Way gcmd m e9 y8 (j + 1) ((cs ++ [(kk, s, z)]).map cmdC) e7 y7 := by rw [List.map_append]; exact HW.out.step hjm L7.out
            go_roundw
            case rel => exact ⟨j + 1, e7, y7, pw, cw, cs ++ [(kk, s, z)], by go_num, by rw [List.length_append, hjd]; rfl, hj1, hjm, Lib.hid (S8.out.put4 _), Lib.hid (own_far O8.out hgr.out 4 _), Lib.hid (own_far K8.out hgB2.out 4 _), Lib.hid (HG.out.snoc HZ.out HV.out), Lib.hid (by rw [World.size_setCell]; exact hs8.out), Lib.hid hwy⟩
            case measure => simp [intOf]; omega
      · subst hdl
        have HF := Lib.hid (HW.out.fin (fun h0 => Nat.le_antisymm hjle (Nat.le_of_not_lt fun h => hgo ⟨h, h0⟩)))
        have HL8 := Lib.hid hj8
        by_cases hl : cs.length < m
        · have hl' : (cs.length : Int) < m := by omega
          have he' : ((e : Int) == 0) = false := natbeq (fun h => hgo ⟨hl, h⟩)
          clear hgo hl hjle hj8
          go_wp2_with fail
          go_meet
          exact ⟨e, ys, pv, cv, cs, HL8, S, O, KO, HG, HF⟩
        · have hl' : ¬ (cs.length : Int) < m := by omega
          clear hgo hl hjle hj8
          go_wp2_with fail
          go_meet
          exact ⟨e, ys, pv, cv, cs, HL8, S, O, KO, HG, HF⟩
  obtain ⟨e10, y10, pu, cu, cs, HL8, S10, O10, K10, HG, L10⟩ := hcut
  clear S9 O9 OB HB0'
  obtain ⟨es, fs, cs0, cs1, cs2, cs3, cs4, gs0, gs1, gs2, gs3, gs4⟩ := S10.out.facts
  obtain ⟨ps, cps, hs0, -⟩ := S10.out.src.row
  have hy0 : (0 : Int) ≤ y10.length := by omega
  go_upto_region 28 with fail
  go_cut [130] (fun c wx => ∃ bb : Bool, c = .bool bb ∧ Hid (bb = decide (e10 = 0 ∧ 0 < y10.length)) ∧ wc = wx)
  case first =>
    by_cases he : e10 = 0
    · have he' : ((e10 : Int) == 0) = true := by rw [he]; rfl
      by_cases hN : 0 < y10.length
      · have hN' : (0 : Int) < y10.length := by omega
        have hN2 : decide (0 < y10.length) = true := decide_eq_true hN
        have Hx : Hid (true = decide (e10 = 0 ∧ 0 < y10.length)) := Lib.hid (by rw [decide_eq_true ⟨he, hN⟩])
        clear hN he
        go_wp2_with fail
        go_meet
        exact ⟨true, rfl, Hx, rfl⟩
      · have hN' : ¬ (0 : Int) < y10.length := by omega
        have hN2 : decide (0 < y10.length) = false := decide_eq_false hN
        have Hx : Hid (false = decide (e10 = 0 ∧ 0 < y10.length)) := Lib.hid (by rw [decide_eq_false (fun h => hN h.2)])
        clear hN he
        go_wp2_with fail
        go_meet
        exact ⟨false, rfl, Hx, rfl⟩
    · have he' : ((e10 : Int) == 0) = false := natbeq he
      have Hx : Hid (false = decide (e10 = 0 ∧ 0 < y10.length)) := Lib.hid (by rw [decide_eq_false (fun h => he h.1)])
      clear he
      go_wp2_with fail
      go_meet
      exact ⟨false, rfl, Hx, rfl⟩
  obtain ⟨bb, rfl, HB, rfl⟩ := hcut
  go_upto_if 130 with fail
  go_cut [] (fun wc => ∃ e11 : Nat, Hid (St W g (g + 1) y10 e11 a b q (.slice pd ds.length cd) (.slice pu cs.length cu) wc) ∧ Hid (e11 = if e10 = 0 ∧ 0 < y10.length then 3 else e10) ∧ Hid (Owns wc (g + 2) (.slice pd ds.length cd) ds) ∧ Hid (OwnK wc B (.slice pu cs.length cu) cs))
  case first =>
    cases bb
    · have Hx : Hid (e10 = if e10 = 0 ∧ 0 < y10.length then 3 else e10) := Lib.hid (by rw [if_neg (of_decide_eq_false HB.out.symm)])
      clear HB
      go_wp2_with fail
      go_meet
      exact ⟨e10, S10, Hx, O10, K10⟩
    · have Hx : Hid (3 = if e10 = 0 ∧ 0 < y10.length then 3 else e10) := Lib.hid (by rw [if_pos (of_decide_eq_true HB.out.symm)])
      have Sx := Lib.hid (S10.out.fail 3)
      clear HB
      go_wp2_with fail
      go_meet
      exact ⟨3, Sx, Hx, Lib.hid (own_far O10.out hgg.out 1 _), Lib.hid (own_far K10.out hgB.out 1 _)⟩
  obtain ⟨e11, S11, H11, O11, K11⟩ := hcut
  clear cs0 cs1 cs2 cs3 cs4 gs0 gs1 gs2 gs3 gs4 es fs hs0 S10 O10 K10
  have hWg : W.heap.size < g := S11.out.low
  have hsz2 := S11.out.box.lt
  obtain ⟨X, hX⟩ : ∃ X : Nat, (X : Int) = rErr a b q ds cs := ⟨(rErr a b q ds cs).toNat, Int.toNat_of_nonneg (rerr_nn _ _ _ _ _)⟩
  have HX := Lib.hid hX
  have CK : Hid (e11 = 0 → Calls Try.prog 8 #[.agg #[.int .i64 a, .int .i64 b, .int .i64 q, (.slice pd ds.length cd), (.slice pu cs.length cu)]] wc (RetBelow (.int .i64 (X : Int)) wc)) := Lib.hid fun h0 => by
    have h10 : e10 = 0 := by have := H11.out; split at this <;> omega
    subst h10
    rw [hX]
    exact refcheck_r a b q _ _ ds cs wc (Owns.row O11.out) (OwnK.row K11.out) (good_wf HG.out L10.out)
  clear hX
  obtain ⟨et, ft, ct0, ct1, ct2, ct3, ct4, gt0, gt1, gt2, gt3, gt4⟩ := S11.out.facts
  go_upto_if 138 with fail
  go_cut [] (fun wx => ∃ x : Nat, Hid (St W g (g + 1) y10 x a b q (.slice pd ds.length cd) (.slice pu cs.length cu) wx) ∧ Hid (Owns wx (g + 2) (.slice pd ds.length cd) ds) ∧ Hid (OwnK wx B (.slice pu cs.length cu) cs) ∧ Hid ((x : Int) = if e11 = 0 then rErr a b q ds cs else (e11 : Int)))
  case first =>
    by_cases he : e11 = 0
    · have he' : ((e11 : Int) == 0) = true := by rw [he]; rfl
      have HC := Lib.hid (CK.out he)
      have Hx : Hid ((X : Int) = if e11 = 0 then rErr a b q ds cs else (e11 : Int)) := Lib.hid (by rw [if_pos he, HX.out])
      clear he CK
      go_wp2_with (first
        | (go_at_call 8; (with_reducible refine HC.out.mono ?_); rintro E12 w12 ⟨rfl, hb12⟩; have S12 := Lib.hid (S11.out.under hb12 hsz2); have O12 := Lib.hid (own_below O11.out hb12); have K12 := Lib.hid (own_below K11.out hb12); obtain ⟨ev, fv, cv0, cv1, cv2, cv3, cv4, gv0, gv1, gv2, gv3, gv4⟩ := S12.out.facts; have S13 := Lib.hid (S12.out.fail X); have O13 := Lib.hid (own_far O12.out hgg.out 1 (.int .i64 (X : Int))); have K13 := Lib.hid (own_far K12.out hgB.out 1 (.int .i64 (X : Int))); clear hb12))
      go_meet
      exact ⟨X, S13, O13, K13, Hx⟩
    · have he' : ((e11 : Int) == 0) = false := natbeq he
      have Hx : Hid ((e11 : Int) = if e11 = 0 then rErr a b q ds cs else (e11 : Int)) := Lib.hid (by rw [if_neg he])
      clear he CK
      go_wp2_with fail
      go_meet
      exact ⟨e11, S11, O11, K11, Hx⟩
  obtain ⟨x, S14, O14, K14, HX14⟩ := hcut
  clear ct0 ct1 ct2 ct3 ct4 gt0 gt1 gt2 gt3 gt4 et ft S11 O11 K11 CK HX X
  have HEND := Lib.hid (body_steps L1.out L2.out L3.out L4.out H5.out L6.out L8.out H9.out L10.out (e10 := e11) (e11 := (x : Int)) (by have := H11.out; simpa only [List.length_pos_iff] using this) (by rw [rerr_cmdC HG.out]; exact HX14.out))
  have BX := Lib.hid S14.out.src.below
  have hW2 : Hid (W.heap.size < g + 2) := Lib.hid (by omega)
  have hWB : Hid (W.heap.size < B) := Lib.hid (by have := hgB.out; omega)
  obtain ⟨ew, fw, cw0, cw1, cw2, cw3, cw4, gw0, gw1, gw2, gw3, gw4⟩ := S14.out.facts
  obtain ⟨t0, t1, t2, t3, t4⟩ := S14.out.res.cells
  obtain ⟨u0, u1, u2, u3, u4⟩ := S14.out.res.free
  by_cases hx : x = 0
  · have hx' : ((x : Int) != 0) = false := by rw [hx]; rfl
    have hx2 : ((x : Int) == 0) = true := by rw [hx]; rfl
    have HD : Hid (dec zs = .ok ((a : Int), (b : Int), (q : Int), ds, cs.map cmdC)) := Lib.hid (by
      rw [HO.out]
      rcases HEND.out with ⟨-, h⟩ | ⟨h, -⟩
      · exact h
      · exact absurd (by rw [hx]; rfl) h)
    have hx0 : (x : Int) = 0 := by omega
    clear hx
    go_wp2_with fail
    have Z := five_fin S14.out.res BX.out (Nat.le_refl _) (.int .i64 a) (.int .i64 b) (.int .i64 q) (.slice pd ds.length cd) (.slice pu cs.length cu)
    have ho := Owns.row (own_five O14.out hW2.out (.int .i64 a) (.int .i64 b) (.int .i64 q) (.slice pd ds.length cd) (.slice pu cs.length cu))
    have hk := OwnK.row (own_five K14.out hWB.out (.int .i64 a) (.int .i64 b) (.int .i64 q) (.slice pd ds.length cd) (.slice pu cs.length cu))
    exact bodyPost_ret (rec_result rfl _ rfl rfl Z.1) rfl ⟨a, b, q, _, _, 0, ds, cs, rfl, Z.2, ho, hk, HG.out, .inl ⟨rfl, HD.out⟩⟩
  · have hx' : ((x : Int) != 0) = true := by rw [bne_iff_ne]; omega
    have HD : Hid ((x : Int) ≠ 0 ∧ dec zs = .error (x : Int).toNat) := Lib.hid (by
      rw [HO.out]
      rcases HEND.out with ⟨h, -⟩ | h
      · exact absurd (by omega) hx
      · exact h)
    have hx0 : (x : Int) ≠ 0 := by omega
    have HXD := Lib.hid S14.out.drew.src.err
    have HXE := Lib.hid S14.out.src.err
    have SD := Lib.hid S14.out.drew
    obtain ⟨i0', i1', i2', i3', i4'⟩ := SD.out.res.cells
    obtain ⟨j0', j1', j2', j3', j4'⟩ := SD.out.res.free
    have hgne : (⟨g, 1, none⟩ : Addr).block ≠ W.heap.size := by simp only []; omega
    clear hx
    go_upto_region 33 with fail
    refine wp_region_held_drew (S := (fun w' => w'.cell? ⟨g, 1, none⟩ = some (.int .i64 (x : Int)))) (by kernel_rfl) HXD.out (fun hHeld => ?_)
    refine wpAnyH_take (i := 0) (v := ?_) rfl (by kernel_rfl) (by kernel_rfl) (by kernel_rfl) (fun _ _ _ h => h) (Or.inl ⟨by rfl, fun w hSw => ?_⟩) (by assumption) ?_
    rotate_left
    · (try dsimp only at hSw); go_simp; (try with_reducible rfl)
    try simp only [List.getElem_toArray, List.getElem_cons_succ, List.getElem_cons_zero, Act.put, List.setIfInBounds_toArray, List.set_cons_zero, List.set_cons_succ]
    refine wpAnyH_take (i := 1) (v := ?_) rfl (by kernel_rfl) (by kernel_rfl) (by kernel_rfl) (fun _ _ _ h => h) (Or.inl ⟨by rfl, fun w hSw => ?_⟩) (by assumption) ?_
    rotate_left
    · (try dsimp only at hSw); go_simp; (try with_reducible rfl)
    try simp only [List.getElem_toArray, List.getElem_cons_succ, List.getElem_cons_zero, Act.put, List.setIfInBounds_toArray, List.set_cons_zero, List.set_cons_succ]
    refine wpAnyH_take (i := 2) (v := ?_) rfl (by kernel_rfl) (by kernel_rfl) (by kernel_rfl) (fun _ _ _ h => h) (Or.inl ⟨by rfl, fun w hSw => ?_⟩) (by assumption) ?_
    rotate_left
    · (try dsimp only at hSw); go_simp; (try with_reducible rfl)
    try simp only [List.getElem_toArray, List.getElem_cons_succ, List.getElem_cons_zero, Act.put, List.setIfInBounds_toArray, List.set_cons_zero, List.set_cons_succ]
    refine wpAnyH_take (i := 3) (v := ?_) rfl (by kernel_rfl) (by kernel_rfl) (by kernel_rfl) (fun _ _ _ h => h) (Or.inl ⟨by rfl, fun w hSw => ?_⟩) (by assumption) ?_
    rotate_left
    · (try dsimp only at hSw); go_simp; (try with_reducible rfl)
    try simp only [List.getElem_toArray, List.getElem_cons_succ, List.getElem_cons_zero, Act.put, List.setIfInBounds_toArray, List.set_cons_zero, List.set_cons_succ]
    refine wpAnyH_take (i := 4) (v := ?_) rfl (by kernel_rfl) (by kernel_rfl) (by kernel_rfl) (fun _ _ _ h => h) (Or.inl ⟨by rfl, fun w hSw => ?_⟩) (by assumption) ?_
    rotate_left
    · (try dsimp only at hSw); go_simp; (try with_reducible rfl)
    try simp only [List.getElem_toArray, List.getElem_cons_succ, List.getElem_cons_zero, Act.put, List.setIfInBounds_toArray, List.set_cons_zero, List.set_cons_succ]
    refine wpAnyH_ready (rs := [5]) (by kernel_rfl) (by simp) ?_
    refine AllReadyH.cons rfl (fun K hK => ?_) ?_
    rotate_left
    · exact AllReadyH.nil
    go_simp
    skip
    refine hK.out _ _ ?_ (fun hHeld => ?_)
    · exact (cell_five_drew hgne _ _ _ _ _).trans HXE.out
    clear hK K
    try simp only [List.getElem_toArray, List.getElem_cons_succ, List.getElem_cons_zero, Act.put, List.setIfInBounds_toArray, List.set_cons_zero, List.set_cons_succ]
    refine wpAnyH_take (i := 6) (v := ?_) rfl (by kernel_rfl) (by kernel_rfl) (by kernel_rfl) (fun _ _ _ h => h) (Or.inl ⟨by rfl, fun w hSw => ?_⟩) (by assumption) ?_
    rotate_left
    · (try dsimp only at hSw); go_simp; (try with_reducible rfl)
    try simp only [List.getElem_toArray, List.getElem_cons_succ, List.getElem_cons_zero, Act.put, List.setIfInBounds_toArray, List.set_cons_zero, List.set_cons_succ]
    refine wpAnyH_done (by kernel_rfl) ?_ _
    go_wp2_with fail
    have Z := five_fin_drew S14.out.res BX.out (Nat.le_refl _) (.int .i64 0) (.int .i64 0) (.int .i64 0) (.slice none 0 0) (.slice none 0 0)
    exact bodyPost_ret (rec_result rfl _ rfl rfl Z.1) rfl ⟨0, 0, 0, _, _, x, [], [], rfl, Z.2, nil_ids _, nil_cmds _, no_good, .inr ⟨(by have := HD.out.1; omega), (by have := HD.out.2; rwa [Int.toNat_natCast] at this), rfl, rfl, rfl, rfl, rfl⟩⟩
set_option maxRecDepth 100000 in
/-- Read. -/
theorem ref_read (v : Value) (zs : List UInt8) (W : World) (h : layB.Row W v zs) : Calls Try.prog 15 #[v] W (ReadIs zs W) := by
  have h' := h
  obtain ⟨p, cap, rfl, h1, h2, -⟩ := h
  by_cases h8 : zs.length < 8
  · exact read_short p zs.length cap W h8 zs rfl
  · obtain ⟨k, hk⟩ : ∃ k, zs.length = k + 8 := ⟨zs.length - 8, by omega⟩
    by_cases hd : zs.drop k = big (dg (zs.take k))
    · exact read_good p zs.length cap k W h1 h2 hk zs rfl h' hd
    · exact read_bad p zs.length cap k W h1 h2 hk zs rfl h' hd
end Go.Proofs.Ytapjjeffegnflaa.Cod
