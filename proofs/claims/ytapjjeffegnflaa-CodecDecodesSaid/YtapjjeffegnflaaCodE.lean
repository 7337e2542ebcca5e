/- What the document's Bytes (layer 11, codec) gives: a record's bytes, sealed. Conditions: the record's lists lie in memory as their cells say, and are short; its numbers are not below 0. (Written by tools/gen_bytes.py.) -/
import Derived.Test.YtapjjeffegnflaaCodD
namespace Go.Proofs.Ytapjjeffegnflaa.Cod
open Go.RowKit F64 Cmd Bat Ids Rec Wir Dig
set_option linter.unusedVariables false
set_option linter.unusedSimpArgs false

set_option maxHeartbeats 16000000 in
set_option maxRecDepth 100000 in
theorem bytes_r (a b q : Int) (v u : Value) (ds : List Idn) (cs : List Cmdn) (w : World) (h : RowAt w v ds) (g : layC.Row w u cs) (W : Fine a b q ds cs) :
    Calls Try.prog 11 #[.agg #[.int .i64 a, .int .i64 b, .int .i64 q, v, u]] w (GivesB (sealt (recB a b q ds cs)) w) := by
  have B0 := BoxR.start 27 w a b q v u
  have hv : ∃ p cap, v = .slice p ds.length cap := by obtain ⟨p, cap, e, _⟩ := h; exact ⟨p, cap, e⟩
  have hu : ∃ p cap, u = .slice p cs.length cap := by obtain ⟨p, cap, e, _⟩ := g; exact ⟨p, cap, e⟩
  obtain ⟨p1, c1, rfl⟩ := hv
  obtain ⟨p2, c2, rfl⟩ := hu
  have HB0 := Lib.hid B0
  have HBx := Lib.hid (fun W (hb : Below (w.alloc (cellsR 27 a b q (.slice p1 ds.length c1) (.slice p2 cs.length c2))).heap.size (w.alloc (cellsR 27 a b q (.slice p1 ds.length c1) (.slice p2 cs.length c2))) W) => B0.on hb)
  have HDs := Lib.hid (fun W (hb : Below w.heap.size w W) => h.on hb)
  have HCs := Lib.hid (fun W (hb : Below w.heap.size w W) => g.on hb)
  have CB := Lib.hid bytes_i
  have CT := Lib.hid text_i
  have W' := Lib.hid W
  obtain ⟨⟨a0, a1⟩, ⟨b0, b1⟩, ⟨q0, q1⟩, hdl, hcl, -, -⟩ := W
  have wa := u64_of a0 a1; have wb := u64_of b0 b1; have wq := u64_of q0 q1
  have HA := Lib.hid (fun w => CB.out a w a0 a1)
  have HBb := Lib.hid (fun w => CB.out b w b0 b1)
  have HQ := Lib.hid (fun w => CB.out q w q0 q1)
  have HLD := Lib.hid (fun w => CB.out (ds.length : Int) w (by omega) (by omega))
  have HLC := Lib.hid (fun w => CB.out (cs.length : Int) w (by omega) (by omega))
  clear B0 h g
  unfold cellsR at HBx HB0
  go_enter Try.func11, Try.ntmps11
  go_wp2_with fail
  generalize hW0 : (w.alloc (Obj.cells #[.int .i64 a, .int .i64 b, .int .i64 q, .slice p1 ds.length c1, .slice p2 cs.length c2] 27)) = W0 at HBx HB0
  have l0 : Hid (w.heap.size ≤ W0.heap.size) := Lib.hid HB0.out.below.size
  have HS1 : Hid (∀ w', Below W0.heap.size W0 w' → w'.cell? ⟨w.heap.size, 0, none⟩ = some (.int .i64 a) ∧ w'.cell? ⟨w.heap.size, 1, none⟩ = some (.int .i64 b) ∧ w'.cell? ⟨w.heap.size, 2, none⟩ = some (.int .i64 q) ∧ w'.cell? ⟨w.heap.size, 3, none⟩ = some (.slice p1 ds.length c1) ∧ w'.cell? ⟨w.heap.size, 4, none⟩ = some (.slice p2 cs.length c2)) := Lib.hid fun W hb => (HBx.out W hb).five
  have Rr := Lib.hid (Below.refl W0.heap.size W0)
  have hl1 : Hid ((encI a).length + (encI b).length ≤ 1000000) := Lib.hid (by have := encI_len W'.out.a; have := encI_len W'.out.b; omega)
  have hl2 : Hid ((encI a ++ encI b).length + (encI q).length ≤ 1000000) := Lib.hid (by have := encI_len W'.out.a; have := encI_len W'.out.b; have := encI_len W'.out.q; rw [List.length_append]; omega)
  have hl3 : Hid (((encI a ++ encI b) ++ encI q).length + (encI (ds.length : Int)).length ≤ 1000000) := Lib.hid (by have := encI_len W'.out.a; have := encI_len W'.out.b; have := encI_len W'.out.q; have := encI_len (x := (ds.length : Int)) (by unfold okN; omega); simp only [List.length_append]; omega)
  have hd0 : IntKind.u64.wrap (ds.length : Int) = (ds.length : Int) := u64_of (by omega) (by omega)
  have hc0 : IntKind.u64.wrap (cs.length : Int) = (cs.length : Int) := u64_of (by omega) (by omega)
  clear hW0
  have R0 := Lib.hid Rr.out.drew
  refine wp_region_held_drew (S := (fun w' => w'.cell? ⟨w.heap.size, 0, none⟩ = some (.int .i64 a) ∧ w'.cell? ⟨w.heap.size, 1, none⟩ = some (.int .i64 b) ∧ w'.cell? ⟨w.heap.size, 2, none⟩ = some (.int .i64 q) ∧ w'.cell? ⟨w.heap.size, 3, none⟩ = some (.slice p1 ds.length c1) ∧ w'.cell? ⟨w.heap.size, 4, none⟩ = some (.slice p2 cs.length c2))) (by kernel_rfl) (HS1.out _ R0.out) (fun hHeld => ?_)
  refine wpAnyH_take (i := 0) (v := ?_) rfl (by kernel_rfl) (by kernel_rfl) (by kernel_rfl) (fun _ _ _ h => h) (Or.inl ⟨by rfl, fun w hSw => ?_⟩) (by assumption) ?_
  rotate_left
  · (try dsimp only at hSw); go_simp; (try with_reducible rfl)
  try simp only [List.getElem_toArray, List.getElem_cons_succ, List.getElem_cons_zero, Act.put, List.setIfInBounds_toArray, List.set_cons_zero, List.set_cons_succ]
  refine wpAnyH_take (i := 1) (v := ?_) rfl (by kernel_rfl) (by kernel_rfl) (by kernel_rfl) (fun _ _ _ h => h) (Or.inl ⟨by rfl, fun w hSw => ?_⟩) (by assumption) ?_
  rotate_left
  · (try dsimp only at hSw); go_simp; (try with_reducible rfl)
  try simp only [List.getElem_toArray, List.getElem_cons_succ, List.getElem_cons_zero, Act.put, List.setIfInBounds_toArray, List.set_cons_zero, List.set_cons_succ]
  refine wpAnyH_take (i := 5) (v := ?_) rfl (by kernel_rfl) (by kernel_rfl) (by kernel_rfl) (fun _ _ _ h => h) (Or.inl ⟨by rfl, fun w hSw => ?_⟩) (by assumption) ?_
  rotate_left
  · (try dsimp only at hSw); go_simp; (try with_reducible rfl)
  try simp only [List.getElem_toArray, List.getElem_cons_succ, List.getElem_cons_zero, Act.put, List.setIfInBounds_toArray, List.set_cons_zero, List.set_cons_succ]
  refine wpAnyH_take (i := 6) (v := ?_) rfl (by kernel_rfl) (by kernel_rfl) (by kernel_rfl) (fun _ _ _ h => h) (Or.inl ⟨by rfl, fun w hSw => ?_⟩) (by assumption) ?_
  rotate_left
  · (try dsimp only at hSw); go_simp; (try with_reducible rfl)
  try simp only [List.getElem_toArray, List.getElem_cons_succ, List.getElem_cons_zero, Act.put, List.setIfInBounds_toArray, List.set_cons_zero, List.set_cons_succ]
  refine wpAnyH_take (i := 2) (v := ?_) rfl (by kernel_rfl) (by kernel_rfl) (by kernel_rfl) (fun _ _ _ h => h) (Or.inl ⟨by rfl, fun w hSw => ?_⟩) (by assumption) ?_
  rotate_left
  · (try dsimp only at hSw); go_simp; (try with_reducible rfl)
  try simp only [List.getElem_toArray, List.getElem_cons_succ, List.getElem_cons_zero, Act.put, List.setIfInBounds_toArray, List.set_cons_zero, List.set_cons_succ]
  refine wpAnyH_take (i := 7) (v := ?_) rfl (by kernel_rfl) (by kernel_rfl) (by kernel_rfl) (fun _ _ _ h => h) (Or.inl ⟨by rfl, fun w hSw => ?_⟩) (by assumption) ?_
  rotate_left
  · (try dsimp only at hSw); go_simp; (try with_reducible rfl)
  try simp only [List.getElem_toArray, List.getElem_cons_succ, List.getElem_cons_zero, Act.put, List.setIfInBounds_toArray, List.set_cons_zero, List.set_cons_succ]
  refine wpAnyH_take (i := 3) (v := ?_) rfl (by kernel_rfl) (by kernel_rfl) (by kernel_rfl) (fun _ _ _ h => h) (Or.inl ⟨by rfl, fun w hSw => ?_⟩) (by assumption) ?_
  rotate_left
  · (try dsimp only at hSw); go_simp; (try with_reducible rfl)
  try simp only [List.getElem_toArray, List.getElem_cons_succ, List.getElem_cons_zero, Act.put, List.setIfInBounds_toArray, List.set_cons_zero, List.set_cons_succ]
  refine wpAnyH_take (i := 8) (v := ?_) rfl (by kernel_rfl) (by kernel_rfl) (by kernel_rfl) (fun _ _ _ h => h) (Or.inl ⟨by rfl, fun w hSw => ?_⟩) (by assumption) ?_
  rotate_left
  · (try dsimp only at hSw); go_simp; (try with_reducible rfl)
  try simp only [List.getElem_toArray, List.getElem_cons_succ, List.getElem_cons_zero, Act.put, List.setIfInBounds_toArray, List.set_cons_zero, List.set_cons_succ]
  refine wpAnyH_ready (rs := [4]) (by kernel_rfl) (by simp) ?_
  refine AllReadyH.cons rfl (fun K hK => ?_) ?_
  rotate_left
  · exact AllReadyH.nil
  go_simp
  (go_at_call 26; (with_reducible refine (HA.out _).mono ?_); rintro e w1 ⟨u1, rfl, ho, hb⟩; have R1 := Lib.hid (R0.out.trans (hb.mono R0.out.size)); have N1 := Lib.hid ho; clear ho hb)
  refine hK.out _ _ ?_ (fun hHeld => ?_)
  · exact HS1.out _ R1.out
  clear hK K
  try simp only [List.getElem_toArray, List.getElem_cons_succ, List.getElem_cons_zero, Act.put, List.setIfInBounds_toArray, List.set_cons_zero, List.set_cons_succ]
  refine wpAnyH_ready (rs := [9]) (by kernel_rfl) (by simp) ?_
  refine AllReadyH.cons rfl (fun K hK => ?_) ?_
  rotate_left
  · exact AllReadyH.nil
  go_simp
  (go_at_call 26; (with_reducible refine (HBb.out _).mono ?_); rintro e w2 ⟨u2, rfl, ho, hb⟩; have R2 := Lib.hid (R1.out.trans (hb.mono R1.out.size)); have N2 := Lib.hid ho; have O2 := Lib.hid (own_below N1.out hb); clear ho hb)
  refine hK.out _ _ ?_ (fun hHeld => ?_)
  · exact HS1.out _ R2.out
  clear hK K
  try simp only [List.getElem_toArray, List.getElem_cons_succ, List.getElem_cons_zero, Act.put, List.setIfInBounds_toArray, List.set_cons_zero, List.set_cons_succ]
  refine wpAnyH_ready (rs := [10]) (by kernel_rfl) (by simp) ?_
  refine AllReadyH.cons rfl (fun K hK => ?_) ?_
  rotate_left
  · exact AllReadyH.nil
  (refine step_rows (by kernel_rfl) _ _ rfl W0.heap.size _ (encI a) rfl O2.out R2.out.size _ (encI b) rfl (rowB N2.out) hl1.out ?_; intro u3 w3 HO3 HB3; have R3 := Lib.hid (R2.out.trans HB3.out))
  refine hK.out _ _ ?_ (fun hHeld => ?_)
  · exact HS1.out _ R3.out
  clear hK K
  try simp only [List.getElem_toArray, List.getElem_cons_succ, List.getElem_cons_zero, Act.put, List.setIfInBounds_toArray, List.set_cons_zero, List.set_cons_succ]
  refine wpAnyH_take (i := 11) (v := ?_) rfl (by kernel_rfl) (by kernel_rfl) (by kernel_rfl) (fun _ _ _ h => h) (Or.inl ⟨by rfl, fun w hSw => ?_⟩) (by assumption) ?_
  rotate_left
  · (try dsimp only at hSw); go_simp; (try with_reducible rfl)
  try simp only [List.getElem_toArray, List.getElem_cons_succ, List.getElem_cons_zero, Act.put, List.setIfInBounds_toArray, List.set_cons_zero, List.set_cons_succ]
  refine wpAnyH_done (by kernel_rfl) ?_ _
  go_wp2_with fail
  have HO3d := Lib.hid (own_below HO3.out (Below.refl w3.heap.size w3).drew)
  have Rb := Lib.hid R3.out.drew
  refine wp_region_held_drew (S := (fun w' => w'.cell? ⟨w.heap.size, 0, none⟩ = some (.int .i64 a) ∧ w'.cell? ⟨w.heap.size, 1, none⟩ = some (.int .i64 b) ∧ w'.cell? ⟨w.heap.size, 2, none⟩ = some (.int .i64 q) ∧ w'.cell? ⟨w.heap.size, 3, none⟩ = some (.slice p1 ds.length c1) ∧ w'.cell? ⟨w.heap.size, 4, none⟩ = some (.slice p2 cs.length c2))) (by kernel_rfl) (HS1.out _ Rb.out) (fun hHeld => ?_)
  refine wpAnyH_take (i := 0) (v := ?_) rfl (by kernel_rfl) (by kernel_rfl) (by kernel_rfl) (fun _ _ _ h => h) (Or.inl ⟨by rfl, fun w hSw => ?_⟩) (by assumption) ?_
  rotate_left
  · (try dsimp only at hSw); go_simp; (try with_reducible rfl)
  try simp only [List.getElem_toArray, List.getElem_cons_succ, List.getElem_cons_zero, Act.put, List.setIfInBounds_toArray, List.set_cons_zero, List.set_cons_succ]
  refine wpAnyH_take (i := 1) (v := ?_) rfl (by kernel_rfl) (by kernel_rfl) (by kernel_rfl) (fun _ _ _ h => h) (Or.inl ⟨by rfl, fun w hSw => ?_⟩) (by assumption) ?_
  rotate_left
  · (try dsimp only at hSw); go_simp; (try with_reducible rfl)
  try simp only [List.getElem_toArray, List.getElem_cons_succ, List.getElem_cons_zero, Act.put, List.setIfInBounds_toArray, List.set_cons_zero, List.set_cons_succ]
  refine wpAnyH_take (i := 6) (v := ?_) rfl (by kernel_rfl) (by kernel_rfl) (by kernel_rfl) (fun _ _ _ h => h) (Or.inl ⟨by rfl, fun w hSw => ?_⟩) (by assumption) ?_
  rotate_left
  · (try dsimp only at hSw); go_simp; (try with_reducible rfl)
  try simp only [List.getElem_toArray, List.getElem_cons_succ, List.getElem_cons_zero, Act.put, List.setIfInBounds_toArray, List.set_cons_zero, List.set_cons_succ]
  refine wpAnyH_take (i := 2) (v := ?_) rfl (by kernel_rfl) (by kernel_rfl) (by kernel_rfl) (fun _ _ _ h => h) (Or.inl ⟨by rfl, fun w hSw => ?_⟩) (by assumption) ?_
  rotate_left
  · (try dsimp only at hSw); go_simp; (try with_reducible rfl)
  try simp only [List.getElem_toArray, List.getElem_cons_succ, List.getElem_cons_zero, Act.put, List.setIfInBounds_toArray, List.set_cons_zero, List.set_cons_succ]
  refine wpAnyH_take (i := 7) (v := ?_) rfl (by kernel_rfl) (by kernel_rfl) (by kernel_rfl) (fun _ _ _ h => h) (Or.inl ⟨by rfl, fun w hSw => ?_⟩) (by assumption) ?_
  rotate_left
  · (try dsimp only at hSw); go_simp; (try with_reducible rfl)
  try simp only [List.getElem_toArray, List.getElem_cons_succ, List.getElem_cons_zero, Act.put, List.setIfInBounds_toArray, List.set_cons_zero, List.set_cons_succ]
  refine wpAnyH_take (i := 3) (v := ?_) rfl (by kernel_rfl) (by kernel_rfl) (by kernel_rfl) (fun _ _ _ h => h) (Or.inl ⟨by rfl, fun w hSw => ?_⟩) (by assumption) ?_
  rotate_left
  · (try dsimp only at hSw); go_simp; (try with_reducible rfl)
  try simp only [List.getElem_toArray, List.getElem_cons_succ, List.getElem_cons_zero, Act.put, List.setIfInBounds_toArray, List.set_cons_zero, List.set_cons_succ]
  refine wpAnyH_take (i := 8) (v := ?_) rfl (by kernel_rfl) (by kernel_rfl) (by kernel_rfl) (fun _ _ _ h => h) (Or.inl ⟨by rfl, fun w hSw => ?_⟩) (by assumption) ?_
  rotate_left
  · (try dsimp only at hSw); go_simp; (try with_reducible rfl)
  try simp only [List.getElem_toArray, List.getElem_cons_succ, List.getElem_cons_zero, Act.put, List.setIfInBounds_toArray, List.set_cons_zero, List.set_cons_succ]
  refine wpAnyH_take (i := 9) (v := ?_) rfl (by kernel_rfl) (by kernel_rfl) (by kernel_rfl) (fun _ _ _ h => h) (Or.inl ⟨by rfl, fun w hSw => ?_⟩) (by assumption) ?_
  rotate_left
  · (try dsimp only at hSw); go_simp; (try with_reducible rfl)
  try simp only [List.getElem_toArray, List.getElem_cons_succ, List.getElem_cons_zero, Act.put, List.setIfInBounds_toArray, List.set_cons_zero, List.set_cons_succ]
  refine wpAnyH_ready (rs := [4]) (by kernel_rfl) (by simp) ?_
  refine AllReadyH.cons rfl (fun K hK => ?_) ?_
  rotate_left
  · exact AllReadyH.nil
  go_simp
  (go_at_call 26; (with_reducible refine (HQ.out _).mono ?_); rintro e w4 ⟨u4, rfl, ho, hb⟩; have R4 := Lib.hid (Rb.out.trans (hb.mono Rb.out.size)); have N4 := Lib.hid ho; have O4 := Lib.hid (own_below HO3d.out hb); clear ho hb)
  refine hK.out _ _ ?_ (fun hHeld => ?_)
  · exact HS1.out _ R4.out
  clear hK K
  try simp only [List.getElem_toArray, List.getElem_cons_succ, List.getElem_cons_zero, Act.put, List.setIfInBounds_toArray, List.set_cons_zero, List.set_cons_succ]
  refine wpAnyH_ready (rs := [5]) (by kernel_rfl) (by simp) ?_
  refine AllReadyH.cons rfl (fun K hK => ?_) ?_
  rotate_left
  · exact AllReadyH.nil
  (refine step_rows (by kernel_rfl) _ _ rfl W0.heap.size _ (encI a ++ encI b) rfl O4.out R4.out.size _ (encI q) rfl (rowB N4.out) hl2.out ?_; intro u5 w5 HO5 HB5; have R5 := Lib.hid (R4.out.trans HB5.out))
  refine hK.out _ _ ?_ (fun hHeld => ?_)
  · exact HS1.out _ R5.out
  clear hK K
  try simp only [List.getElem_toArray, List.getElem_cons_succ, List.getElem_cons_zero, Act.put, List.setIfInBounds_toArray, List.set_cons_zero, List.set_cons_succ]
  refine wpAnyH_ready (rs := [10]) (by kernel_rfl) (by simp) ?_
  refine AllReadyH.cons rfl (fun K hK => ?_) ?_
  rotate_left
  · exact AllReadyH.nil
  go_simp
  (go_at_call 26; (with_reducible refine (HLD.out _).mono ?_); rintro e w6 ⟨u6, rfl, ho, hb⟩; have R6 := Lib.hid (R5.out.trans (hb.mono R5.out.size)); have N6 := Lib.hid ho; have O6 := Lib.hid (own_below HO5.out hb); clear ho hb)
  refine hK.out _ _ ?_ (fun hHeld => ?_)
  · exact HS1.out _ R6.out
  clear hK K
  try simp only [List.getElem_toArray, List.getElem_cons_succ, List.getElem_cons_zero, Act.put, List.setIfInBounds_toArray, List.set_cons_zero, List.set_cons_succ]
  refine wpAnyH_ready (rs := [11]) (by kernel_rfl) (by simp) ?_
  refine AllReadyH.cons rfl (fun K hK => ?_) ?_
  rotate_left
  · exact AllReadyH.nil
  (refine step_rows (by kernel_rfl) _ _ rfl W0.heap.size _ ((encI a ++ encI b) ++ encI q) rfl O6.out R6.out.size _ (encI (ds.length : Int)) rfl (rowB N6.out) hl3.out ?_; intro u7 w7 HO7 HB7; have R7 := Lib.hid (R6.out.trans HB7.out))
  refine hK.out _ _ ?_ (fun hHeld => ?_)
  · exact HS1.out _ R7.out
  clear hK K
  try simp only [List.getElem_toArray, List.getElem_cons_succ, List.getElem_cons_zero, Act.put, List.setIfInBounds_toArray, List.set_cons_zero, List.set_cons_succ]
  refine wpAnyH_take (i := 12) (v := ?_) rfl (by kernel_rfl) (by kernel_rfl) (by kernel_rfl) (fun _ _ _ h => h) (Or.inl ⟨by rfl, fun w hSw => ?_⟩) (by assumption) ?_
  rotate_left
  · (try dsimp only at hSw); go_simp; (try with_reducible rfl)
  try simp only [List.getElem_toArray, List.getElem_cons_succ, List.getElem_cons_zero, Act.put, List.setIfInBounds_toArray, List.set_cons_zero, List.set_cons_succ]
  refine wpAnyH_done (by kernel_rfl) ?_ _
  go_wp2_with fail
  have HM7 : Hid (OwnB w7 W0.heap.size u7 (midB a b q ds ds.length 0)) := Lib.hid (by rw [← mid_start]; exact HO7.out)
  have hdp := ids_parts (HDs.out w (Below.refl _ _))
  have hcp := cmds_parts (HCs.out w (Below.refl _ _))
  have DW : Hid (∀ W, Below W0.heap.size W0 W → Below w.heap.size w W) := Lib.hid fun W hb => HB0.out.below.trans (hb.mono l0.out)
  clear HO3 HO3d HO5 HO7 O2 O4 O6 N1 N2 N4 N6 hl1 hl2 hl3 HDs HCs
  go_loopw [3, 4] (fun o i wr => ∃ k : Nat, k ≤ ds.length ∧ i = .int .i64 k ∧ Hid (Below W0.heap.size W0 wr) ∧ Hid (OwnB wr W0.heap.size o (midB a b q ds ds.length k))) (fun _ i _ => ds.length - (intOf i).toNat)
  case atStart => exact ⟨0, Nat.zero_le _, rfl, R7, HM7⟩
  case round =>
    obtain ⟨k, hk, rfl, Rl, HMl⟩ := hrel
    obtain ⟨x0, x1, x2, x3, x4⟩ := HS1.out wr Rl.out
    have k0 : (0 : Int) ≤ k := by omega
    by_cases hkn : k < ds.length
    · obtain ⟨B, off, rfl, HI⟩ := hdp.resolve_left (by omega)
      obtain ⟨x, y, hxy⟩ : ∃ x y, nth ds k = (x, y) := ⟨_, _, rfl⟩
      obtain ⟨⟨xa, xb⟩, ⟨ya, yb⟩⟩ := W'.out.id hkn hxy
      have wx := u64_of xa xb
      have wy := u64_of ya yb
      have HX := Lib.hid (fun w => CB.out x w xa xb)
      have HY := Lib.hid (fun w => CB.out y w ya yb)
      have HE := Lib.hid (mid_step (a := a) (b := b) (q := q) (n := ds.length) hkn hxy)
      have hl4 : Hid ((midB a b q ds ds.length k).length + (encI x).length ≤ 1000000) := Lib.hid (by have := W'.out.midLen k; have := encI_len ⟨xa, xb⟩; omega)
      have hl5 : Hid ((midB a b q ds ds.length k ++ encI x).length + (encI y).length ≤ 1000000) := Lib.hid (by have := W'.out.midLen k; have := encI_len ⟨xa, xb⟩; have := encI_len ⟨ya, yb⟩; rw [List.length_append]; omega)
      have HS6 : Hid (∀ w', Below W0.heap.size W0 w' → (w'.cell? ⟨w.heap.size, 0, none⟩ = some (.int .i64 a) ∧ w'.cell? ⟨w.heap.size, 1, none⟩ = some (.int .i64 b) ∧ w'.cell? ⟨w.heap.size, 2, none⟩ = some (.int .i64 q) ∧ w'.cell? ⟨w.heap.size, 3, none⟩ = some (.slice (some ⟨B, off, none⟩) ds.length c1) ∧ w'.cell? ⟨w.heap.size, 4, none⟩ = some (.slice p2 cs.length c2)) ∧ w'.cell? ⟨B, off + k * 2, none⟩ = some (.int .i64 x) ∧ w'.cell? ⟨B, off + k * 2 + 1, none⟩ = some (.int .i64 y)) := Lib.hid fun W hb => ⟨HS1.out W hb, by have := (HI.on (DW.out W hb)).fst k hkn; rw [hxy] at this; exact this, by have := (HI.on (DW.out W hb)).snd k hkn; rw [hxy] at this; exact this⟩
      have kn : (k : Int) < ds.length := by omega
      have HMd := Lib.hid (own_below HMl.out (Below.refl wr.heap.size wr).drew)
      clear HI hxy xa xb ya yb
      go_wp2_with fail
      clear x0 x1 x2 x3 x4
      have Rc := Lib.hid Rl.out.drew
      refine wp_region_held_drew (S := (fun w' => (w'.cell? ⟨w.heap.size, 0, none⟩ = some (.int .i64 a) ∧ w'.cell? ⟨w.heap.size, 1, none⟩ = some (.int .i64 b) ∧ w'.cell? ⟨w.heap.size, 2, none⟩ = some (.int .i64 q) ∧ w'.cell? ⟨w.heap.size, 3, none⟩ = some (.slice (some ⟨B, off, none⟩) ds.length c1) ∧ w'.cell? ⟨w.heap.size, 4, none⟩ = some (.slice p2 cs.length c2)) ∧ w'.cell? ⟨B, off + k * 2, none⟩ = some (.int .i64 x) ∧ w'.cell? ⟨B, off + k * 2 + 1, none⟩ = some (.int .i64 y))) (by kernel_rfl) (HS6.out _ Rc.out) (fun hHeld => ?_)
      refine wpAnyH_take (i := 0) (v := ?_) rfl (by kernel_rfl) (by kernel_rfl) (by kernel_rfl) (fun _ _ _ h => h) (Or.inl ⟨by rfl, fun w hSw => ?_⟩) (by assumption) ?_
      rotate_left
      · (try dsimp only at hSw); go_simp; (try with_reducible rfl)
      try simp only [List.getElem_toArray, List.getElem_cons_succ, List.getElem_cons_zero, Act.put, List.setIfInBounds_toArray, List.set_cons_zero, List.set_cons_succ]
      refine wpAnyH_take (i := 1) (v := ?_) rfl (by kernel_rfl) (by kernel_rfl) (by kernel_rfl) (fun _ _ _ h => h) (Or.inl ⟨by rfl, fun w hSw => ?_⟩) (by assumption) ?_
      rotate_left
      · (try dsimp only at hSw); go_simp; (try with_reducible rfl)
      try simp only [List.getElem_toArray, List.getElem_cons_succ, List.getElem_cons_zero, Act.put, List.setIfInBounds_toArray, List.set_cons_zero, List.set_cons_succ]
      refine wpAnyH_take (i := 3) (v := ?_) rfl (by kernel_rfl) (by kernel_rfl) (by kernel_rfl) (fun _ _ _ h => h) (Or.inl ⟨by rfl, fun w hSw => ?_⟩) (by assumption) ?_
      rotate_left
      · (try dsimp only at hSw); go_simp; (try with_reducible rfl)
      try simp only [List.getElem_toArray, List.getElem_cons_succ, List.getElem_cons_zero, Act.put, List.setIfInBounds_toArray, List.set_cons_zero, List.set_cons_succ]
      refine wpAnyH_take (i := 10) (v := ?_) rfl (by kernel_rfl) (by kernel_rfl) (by kernel_rfl) (fun _ _ _ h => h) (Or.inl ⟨by rfl, fun w hSw => ?_⟩) (by assumption) ?_
      rotate_left
      · (try dsimp only at hSw); go_simp; (try with_reducible rfl)
      try simp only [List.getElem_toArray, List.getElem_cons_succ, List.getElem_cons_zero, Act.put, List.setIfInBounds_toArray, List.set_cons_zero, List.set_cons_succ]
      refine wpAnyH_take (i := 12) (v := ?_) rfl (by kernel_rfl) (by kernel_rfl) (by kernel_rfl) (fun _ _ _ h => h) (Or.inl ⟨by rfl, fun w hSw => ?_⟩) (by assumption) ?_
      rotate_left
      · (try dsimp only at hSw); go_simp; (try with_reducible rfl)
      try simp only [List.getElem_toArray, List.getElem_cons_succ, List.getElem_cons_zero, Act.put, List.setIfInBounds_toArray, List.set_cons_zero, List.set_cons_succ]
      refine wpAnyH_take (i := 2) (v := ?_) rfl (by kernel_rfl) (by kernel_rfl) (by kernel_rfl) (fun _ _ _ h => h) (Or.inl ⟨by rfl, fun w hSw => ?_⟩) (by assumption) ?_
      rotate_left
      · (try dsimp only at hSw); go_simp; (try with_reducible rfl)
      try simp only [List.getElem_toArray, List.getElem_cons_succ, List.getElem_cons_zero, Act.put, List.setIfInBounds_toArray, List.set_cons_zero, List.set_cons_succ]
      refine wpAnyH_take (i := 11) (v := ?_) rfl (by kernel_rfl) (by kernel_rfl) (by kernel_rfl) (fun _ _ _ h => h) (Or.inl ⟨by rfl, fun w hSw => ?_⟩) (by assumption) ?_
      rotate_left
      · (try dsimp only at hSw); go_simp; (try with_reducible rfl)
      try simp only [List.getElem_toArray, List.getElem_cons_succ, List.getElem_cons_zero, Act.put, List.setIfInBounds_toArray, List.set_cons_zero, List.set_cons_succ]
      refine wpAnyH_take (i := 4) (v := ?_) rfl (by kernel_rfl) (by kernel_rfl) (by kernel_rfl) (fun _ _ _ h => h) (Or.inl ⟨by rfl, fun w hSw => ?_⟩) (by assumption) ?_
      rotate_left
      · (try dsimp only at hSw); go_simp; (try with_reducible rfl)
      try simp only [List.getElem_toArray, List.getElem_cons_succ, List.getElem_cons_zero, Act.put, List.setIfInBounds_toArray, List.set_cons_zero, List.set_cons_succ]
      refine wpAnyH_take (i := 13) (v := ?_) rfl (by kernel_rfl) (by kernel_rfl) (by kernel_rfl) (fun _ _ _ h => h) (Or.inl ⟨by rfl, fun w hSw => ?_⟩) (by assumption) ?_
      rotate_left
      · (try dsimp only at hSw); go_simp; (try with_reducible rfl)
      try simp only [List.getElem_toArray, List.getElem_cons_succ, List.getElem_cons_zero, Act.put, List.setIfInBounds_toArray, List.set_cons_zero, List.set_cons_succ]
      refine wpAnyH_take (i := 5) (v := ?_) rfl (by kernel_rfl) (by kernel_rfl) (by kernel_rfl) (fun _ _ _ h => h) (Or.inl ⟨by rfl, fun w hSw => ?_⟩) (by assumption) ?_
      rotate_left
      · (try dsimp only at hSw); go_simp; (try with_reducible rfl)
      try simp only [List.getElem_toArray, List.getElem_cons_succ, List.getElem_cons_zero, Act.put, List.setIfInBounds_toArray, List.set_cons_zero, List.set_cons_succ]
      refine wpAnyH_take (i := 14) (v := ?_) rfl (by kernel_rfl) (by kernel_rfl) (by kernel_rfl) (fun _ _ _ h => h) (Or.inl ⟨by rfl, fun w hSw => ?_⟩) (by assumption) ?_
      rotate_left
      · (try dsimp only at hSw); go_simp; (try with_reducible rfl)
      try simp only [List.getElem_toArray, List.getElem_cons_succ, List.getElem_cons_zero, Act.put, List.setIfInBounds_toArray, List.set_cons_zero, List.set_cons_succ]
      refine wpAnyH_take (i := 6) (v := ?_) rfl (by kernel_rfl) (by kernel_rfl) (by kernel_rfl) (fun _ _ _ h => h) (Or.inl ⟨by rfl, fun w hSw => ?_⟩) (by assumption) ?_
      rotate_left
      · (try dsimp only at hSw); go_simp; (try with_reducible rfl)
      try simp only [List.getElem_toArray, List.getElem_cons_succ, List.getElem_cons_zero, Act.put, List.setIfInBounds_toArray, List.set_cons_zero, List.set_cons_succ]
      refine wpAnyH_take (i := 15) (v := ?_) rfl (by kernel_rfl) (by kernel_rfl) (by kernel_rfl) (fun _ _ _ h => h) (Or.inl ⟨by rfl, fun w hSw => ?_⟩) (by assumption) ?_
      rotate_left
      · (try dsimp only at hSw); go_simp; (try with_reducible rfl)
      try simp only [List.getElem_toArray, List.getElem_cons_succ, List.getElem_cons_zero, Act.put, List.setIfInBounds_toArray, List.set_cons_zero, List.set_cons_succ]
      refine wpAnyH_take (i := 7) (v := ?_) rfl (by kernel_rfl) (by kernel_rfl) (by kernel_rfl) (fun _ _ _ h => h) (Or.inl ⟨by rfl, fun w hSw => ?_⟩) (by assumption) ?_
      rotate_left
      · (try dsimp only at hSw); go_simp; (try with_reducible rfl)
      try simp only [List.getElem_toArray, List.getElem_cons_succ, List.getElem_cons_zero, Act.put, List.setIfInBounds_toArray, List.set_cons_zero, List.set_cons_succ]
      refine wpAnyH_take (i := 16) (v := ?_) rfl (by kernel_rfl) (by kernel_rfl) (by kernel_rfl) (fun _ _ _ h => h) (Or.inl ⟨by rfl, fun w hSw => ?_⟩) (by assumption) ?_
      rotate_left
      · (try dsimp only at hSw); go_simp; (try with_reducible rfl)
      try simp only [List.getElem_toArray, List.getElem_cons_succ, List.getElem_cons_zero, Act.put, List.setIfInBounds_toArray, List.set_cons_zero, List.set_cons_succ]
      refine wpAnyH_ready (rs := [8]) (by kernel_rfl) (by simp) ?_
      refine AllReadyH.cons rfl (fun K hK => ?_) ?_
      rotate_left
      · exact AllReadyH.nil
      go_simp
      (go_at_call 26; (with_reducible refine (HX.out _).mono ?_); rintro e w8 ⟨u8, rfl, ho, hb⟩; have R8 := Lib.hid (Rc.out.trans (hb.mono Rc.out.size)); have N8 := Lib.hid ho; have O8 := Lib.hid (own_below HMd.out hb); clear ho hb)
      refine hK.out _ _ ?_ (fun hHeld => ?_)
      · exact HS6.out _ R8.out
      clear hK K
      try simp only [List.getElem_toArray, List.getElem_cons_succ, List.getElem_cons_zero, Act.put, List.setIfInBounds_toArray, List.set_cons_zero, List.set_cons_succ]
      refine wpAnyH_ready (rs := [9]) (by kernel_rfl) (by simp) ?_
      refine AllReadyH.cons rfl (fun K hK => ?_) ?_
      rotate_left
      · exact AllReadyH.nil
      (refine step_rows (by kernel_rfl) _ _ rfl W0.heap.size _ (midB a b q ds ds.length k) rfl O8.out R8.out.size _ (encI x) rfl (rowB N8.out) hl4.out ?_; intro u9 w9 HO9 HB9; have R9 := Lib.hid (R8.out.trans HB9.out))
      refine hK.out _ _ ?_ (fun hHeld => ?_)
      · exact HS6.out _ R9.out
      clear hK K
      try simp only [List.getElem_toArray, List.getElem_cons_succ, List.getElem_cons_zero, Act.put, List.setIfInBounds_toArray, List.set_cons_zero, List.set_cons_succ]
      refine wpAnyH_ready (rs := [17]) (by kernel_rfl) (by simp) ?_
      refine AllReadyH.cons rfl (fun K hK => ?_) ?_
      rotate_left
      · exact AllReadyH.nil
      go_simp
      (go_at_call 26; (with_reducible refine (HY.out _).mono ?_); rintro e w10 ⟨u10, rfl, ho, hb⟩; have R10 := Lib.hid (R9.out.trans (hb.mono R9.out.size)); have N10 := Lib.hid ho; have O10 := Lib.hid (own_below HO9.out hb); clear ho hb)
      refine hK.out _ _ ?_ (fun hHeld => ?_)
      · exact HS6.out _ R10.out
      clear hK K
      try simp only [List.getElem_toArray, List.getElem_cons_succ, List.getElem_cons_zero, Act.put, List.setIfInBounds_toArray, List.set_cons_zero, List.set_cons_succ]
      refine wpAnyH_ready (rs := [18]) (by kernel_rfl) (by simp) ?_
      refine AllReadyH.cons rfl (fun K hK => ?_) ?_
      rotate_left
      · exact AllReadyH.nil
      (refine step_rows (by kernel_rfl) _ _ rfl W0.heap.size _ (midB a b q ds ds.length k ++ encI x) rfl O10.out R10.out.size _ (encI y) rfl (rowB N10.out) hl5.out ?_; intro u11 w11 HO11 HB11; have R11 := Lib.hid (R10.out.trans HB11.out))
      refine hK.out _ _ ?_ (fun hHeld => ?_)
      · exact HS6.out _ R11.out
      clear hK K
      try simp only [List.getElem_toArray, List.getElem_cons_succ, List.getElem_cons_zero, Act.put, List.setIfInBounds_toArray, List.set_cons_zero, List.set_cons_succ]
      refine wpAnyH_take (i := 19) (v := ?_) rfl (by kernel_rfl) (by kernel_rfl) (by kernel_rfl) (fun _ _ _ h => h) (Or.inl ⟨by rfl, fun w hSw => ?_⟩) (by assumption) ?_
      rotate_left
      · (try dsimp only at hSw); go_simp; (try with_reducible rfl)
      try simp only [List.getElem_toArray, List.getElem_cons_succ, List.getElem_cons_zero, Act.put, List.setIfInBounds_toArray, List.set_cons_zero, List.set_cons_succ]
      refine wpAnyH_done (by kernel_rfl) ?_ _
      go_wp2_with fail
      go_roundw
      case rel => exact ⟨k + 1, by omega, by go_num, R11, Lib.hid (by rw [← HE.out]; exact HO11.out)⟩
      case measure => simp [intOf]; omega
    · obtain rfl : k = ds.length := by omega
      have kn : ¬ ((ds.length : Nat) : Int) < ds.length := by omega
      have hl6 : Hid ((midB a b q ds ds.length ds.length).length + (encI (cs.length : Int)).length ≤ 1000000) := Lib.hid (by have := W'.out.midLen ds.length; have := encI_len (x := (cs.length : Int)) (by unfold okN; omega); omega)
      go_wp2_with (first
        | (go_at_call 26; (with_reducible refine (HLC.out _).mono ?_); rintro e w12 ⟨u12, rfl, ho, hb⟩; have R12 := Lib.hid (Rl.out.trans (hb.mono Rl.out.size)); have N12 := Lib.hid ho; have O12 := Lib.hid (own_below HMl.out hb); clear ho hb)
        | (at_builtin; refine wp_rows rfl _ _ rfl W0.heap.size _ (midB a b q ds ds.length ds.length) rfl O12.out R12.out.size _ (encI (cs.length : Int)) rfl (rowB N12.out) hl6.out ?_; intro u13 w13 HO13 HB13; have R13 := Lib.hid (R12.out.trans HB13.out)))
      have HE13 : Hid (OwnB w13 W0.heap.size u13 (endB a b q ds cs 0)) := Lib.hid (by rw [← end_start]; exact HO13.out)
      clear x0 x1 x2 x3 x4 kn hk k0 hl6 HO13 hdp
      go_loopw [3, 5] (fun o i wr => ∃ k : Nat, k ≤ cs.length ∧ i = .int .i64 k ∧ Hid (Below W0.heap.size W0 wr) ∧ Hid (OwnB wr W0.heap.size o (endB a b q ds cs k))) (fun _ i _ => cs.length - (intOf i).toNat)
      case atStart => exact ⟨0, Nat.zero_le _, rfl, R13, HE13⟩
      case round =>
        obtain ⟨wq, hwq⟩ : ∃ wq, wq = wr := ⟨_, rfl⟩
        obtain ⟨k, hk, rfl, Rl, HMl⟩ := hrel
        subst hwq
        obtain ⟨x0, x1, x2, x3, x4⟩ := HS1.out wq Rl.out
        have k0 : (0 : Int) ≤ k := by omega
        by_cases hkn : k < cs.length
        · obtain ⟨B, off, rfl, HI⟩ := hcp.resolve_left (by omega)
          obtain ⟨x, s, f, hxy⟩ : ∃ x s f, layC.at cs k = (x, s, f) := ⟨_, _, _, rfl⟩
          obtain ⟨⟨xa, xb⟩, sl, fl⟩ := W'.out.cm hkn hxy
          have wx := u64_of xa xb
          have HX := Lib.hid (fun w => CB.out x w xa xb)
          have HY := Lib.hid (fun w => CT.out s w sl)
          have HF := Lib.hid (fun w => bits_any f w fl)
          have hcf : canon f < 18446744073709551616 := by unfold canon; split <;> omega
          have HG := Lib.hid (fun w => Wir.big_any (canon f) w hcf)
          have HE := Lib.hid (end_step (a := a) (b := b) (q := q) (ds := ds) hkn hxy)
          have tl : (txt s).length ≤ 1010 := by have := enc_len (n := s.length) (by omega); unfold txt; rw [List.length_append]; omega
          have hl4 : Hid ((endB a b q ds cs k).length + (encI x).length ≤ 1000000) := Lib.hid (by have := W'.out.endLen k; have := encI_len ⟨xa, xb⟩; omega)
          have hl5 : Hid ((endB a b q ds cs k ++ encI x).length + (txt s).length ≤ 1000000) := Lib.hid (by have := W'.out.endLen k; have := encI_len ⟨xa, xb⟩; rw [List.length_append]; omega)
          have hl6 : Hid (((endB a b q ds cs k ++ encI x) ++ txt s).length + (big (canon f)).length ≤ 1000000) := Lib.hid (by have := W'.out.endLen k; have := encI_len ⟨xa, xb⟩; rw [List.length_append, List.length_append, big_len]; omega)
          have HS7 : Hid (∀ w', Below W0.heap.size W0 w' → (w'.cell? ⟨w.heap.size, 0, none⟩ = some (.int .i64 a) ∧ w'.cell? ⟨w.heap.size, 1, none⟩ = some (.int .i64 b) ∧ w'.cell? ⟨w.heap.size, 2, none⟩ = some (.int .i64 q) ∧ w'.cell? ⟨w.heap.size, 3, none⟩ = some (.slice p1 ds.length c1) ∧ w'.cell? ⟨w.heap.size, 4, none⟩ = some (.slice (some ⟨B, off, none⟩) cs.length c2)) ∧ w'.cell? ⟨B, off + k * 3, none⟩ = some (.int .i64 x) ∧ w'.cell? ⟨B, off + k * 3 + 1, none⟩ = some (.string (str s)) ∧ w'.cell? ⟨B, off + k * 3 + 2, none⟩ = some (.float .f64 f)) := Lib.hid fun W hb => ⟨HS1.out W hb, cellC (HI.on (DW.out W hb)) hkn hxy⟩
          have kn : (k : Int) < cs.length := by omega
          have HMd := Lib.hid (own_below HMl.out (Below.refl wq.heap.size wq).drew)
          have hkd : ((x == 2) = true ∧ hasV x = true) ∨ ((x == 2) = false ∧ (x == 4) = true ∧ hasV x = true) ∨ ((x == 2) = false ∧ (x == 4) = false ∧ hasV x = false) := by
            unfold hasV; cases (x == 2) <;> cases (x == 4) <;> simp
          clear HI hxy xa xb sl fl hcf tl
          go_wp2_with fail
          clear x0 x1 x2 x3 x4
          have Rd := Lib.hid Rl.out.drew
          refine wp_region_held_drew (S := (fun w' => (w'.cell? ⟨w.heap.size, 0, none⟩ = some (.int .i64 a) ∧ w'.cell? ⟨w.heap.size, 1, none⟩ = some (.int .i64 b) ∧ w'.cell? ⟨w.heap.size, 2, none⟩ = some (.int .i64 q) ∧ w'.cell? ⟨w.heap.size, 3, none⟩ = some (.slice p1 ds.length c1) ∧ w'.cell? ⟨w.heap.size, 4, none⟩ = some (.slice (some ⟨B, off, none⟩) cs.length c2)) ∧ w'.cell? ⟨B, off + k * 3, none⟩ = some (.int .i64 x) ∧ w'.cell? ⟨B, off + k * 3 + 1, none⟩ = some (.string (str s)) ∧ w'.cell? ⟨B, off + k * 3 + 2, none⟩ = some (.float .f64 f))) (by kernel_rfl) (HS7.out _ Rd.out) (fun hHeld => ?_)
          refine wpAnyH_take (i := 0) (v := ?_) rfl (by kernel_rfl) (by kernel_rfl) (by kernel_rfl) (fun _ _ _ h => h) (Or.inl ⟨by rfl, fun w hSw => ?_⟩) (by assumption) ?_
          rotate_left
          · (try dsimp only at hSw); go_simp; (try with_reducible rfl)
          try simp only [List.getElem_toArray, List.getElem_cons_succ, List.getElem_cons_zero, Act.put, List.setIfInBounds_toArray, List.set_cons_zero, List.set_cons_succ]
          refine wpAnyH_take (i := 1) (v := ?_) rfl (by kernel_rfl) (by kernel_rfl) (by kernel_rfl) (fun _ _ _ h => h) (Or.inl ⟨by rfl, fun w hSw => ?_⟩) (by assumption) ?_
          rotate_left
          · (try dsimp only at hSw); go_simp; (try with_reducible rfl)
          try simp only [List.getElem_toArray, List.getElem_cons_succ, List.getElem_cons_zero, Act.put, List.setIfInBounds_toArray, List.set_cons_zero, List.set_cons_succ]
          refine wpAnyH_take (i := 3) (v := ?_) rfl (by kernel_rfl) (by kernel_rfl) (by kernel_rfl) (fun _ _ _ h => h) (Or.inl ⟨by rfl, fun w hSw => ?_⟩) (by assumption) ?_
          rotate_left
          · (try dsimp only at hSw); go_simp; (try with_reducible rfl)
          try simp only [List.getElem_toArray, List.getElem_cons_succ, List.getElem_cons_zero, Act.put, List.setIfInBounds_toArray, List.set_cons_zero, List.set_cons_succ]
          refine wpAnyH_take (i := 10) (v := ?_) rfl (by kernel_rfl) (by kernel_rfl) (by kernel_rfl) (fun _ _ _ h => h) (Or.inl ⟨by rfl, fun w hSw => ?_⟩) (by assumption) ?_
          rotate_left
          · (try dsimp only at hSw); go_simp; (try with_reducible rfl)
          try simp only [List.getElem_toArray, List.getElem_cons_succ, List.getElem_cons_zero, Act.put, List.setIfInBounds_toArray, List.set_cons_zero, List.set_cons_succ]
          refine wpAnyH_take (i := 12) (v := ?_) rfl (by kernel_rfl) (by kernel_rfl) (by kernel_rfl) (fun _ _ _ h => h) (Or.inl ⟨by rfl, fun w hSw => ?_⟩) (by assumption) ?_
          rotate_left
          · (try dsimp only at hSw); go_simp; (try with_reducible rfl)
          try simp only [List.getElem_toArray, List.getElem_cons_succ, List.getElem_cons_zero, Act.put, List.setIfInBounds_toArray, List.set_cons_zero, List.set_cons_succ]
          refine wpAnyH_take (i := 2) (v := ?_) rfl (by kernel_rfl) (by kernel_rfl) (by kernel_rfl) (fun _ _ _ h => h) (Or.inl ⟨by rfl, fun w hSw => ?_⟩) (by assumption) ?_
          rotate_left
          · (try dsimp only at hSw); go_simp; (try with_reducible rfl)
          try simp only [List.getElem_toArray, List.getElem_cons_succ, List.getElem_cons_zero, Act.put, List.setIfInBounds_toArray, List.set_cons_zero, List.set_cons_succ]
          refine wpAnyH_take (i := 11) (v := ?_) rfl (by kernel_rfl) (by kernel_rfl) (by kernel_rfl) (fun _ _ _ h => h) (Or.inl ⟨by rfl, fun w hSw => ?_⟩) (by assumption) ?_
          rotate_left
          · (try dsimp only at hSw); go_simp; (try with_reducible rfl)
          try simp only [List.getElem_toArray, List.getElem_cons_succ, List.getElem_cons_zero, Act.put, List.setIfInBounds_toArray, List.set_cons_zero, List.set_cons_succ]
          refine wpAnyH_take (i := 4) (v := ?_) rfl (by kernel_rfl) (by kernel_rfl) (by kernel_rfl) (fun _ _ _ h => h) (Or.inl ⟨by rfl, fun w hSw => ?_⟩) (by assumption) ?_
          rotate_left
          · (try dsimp only at hSw); go_simp; (try with_reducible rfl)
          try simp only [List.getElem_toArray, List.getElem_cons_succ, List.getElem_cons_zero, Act.put, List.setIfInBounds_toArray, List.set_cons_zero, List.set_cons_succ]
          refine wpAnyH_take (i := 13) (v := ?_) rfl (by kernel_rfl) (by kernel_rfl) (by kernel_rfl) (fun _ _ _ h => h) (Or.inl ⟨by rfl, fun w hSw => ?_⟩) (by assumption) ?_
          rotate_left
          · (try dsimp only at hSw); go_simp; (try with_reducible rfl)
          try simp only [List.getElem_toArray, List.getElem_cons_succ, List.getElem_cons_zero, Act.put, List.setIfInBounds_toArray, List.set_cons_zero, List.set_cons_succ]
          refine wpAnyH_take (i := 5) (v := ?_) rfl (by kernel_rfl) (by kernel_rfl) (by kernel_rfl) (fun _ _ _ h => h) (Or.inl ⟨by rfl, fun w hSw => ?_⟩) (by assumption) ?_
          rotate_left
          · (try dsimp only at hSw); go_simp; (try with_reducible rfl)
          try simp only [List.getElem_toArray, List.getElem_cons_succ, List.getElem_cons_zero, Act.put, List.setIfInBounds_toArray, List.set_cons_zero, List.set_cons_succ]
          refine wpAnyH_take (i := 14) (v := ?_) rfl (by kernel_rfl) (by kernel_rfl) (by kernel_rfl) (fun _ _ _ h => h) (Or.inl ⟨by rfl, fun w hSw => ?_⟩) (by assumption) ?_
          rotate_left
          · (try dsimp only at hSw); go_simp; (try with_reducible rfl)
          try simp only [List.getElem_toArray, List.getElem_cons_succ, List.getElem_cons_zero, Act.put, List.setIfInBounds_toArray, List.set_cons_zero, List.set_cons_succ]
          refine wpAnyH_take (i := 6) (v := ?_) rfl (by kernel_rfl) (by kernel_rfl) (by kernel_rfl) (fun _ _ _ h => h) (Or.inl ⟨by rfl, fun w hSw => ?_⟩) (by assumption) ?_
          rotate_left
          · (try dsimp only at hSw); go_simp; (try with_reducible rfl)
          try simp only [List.getElem_toArray, List.getElem_cons_succ, List.getElem_cons_zero, Act.put, List.setIfInBounds_toArray, List.set_cons_zero, List.set_cons_succ]
          refine wpAnyH_take (i := 15) (v := ?_) rfl (by kernel_rfl) (by kernel_rfl) (by kernel_rfl) (fun _ _ _ h => h) (Or.inl ⟨by rfl, fun w hSw => ?_⟩) (by assumption) ?_
          rotate_left
          · (try dsimp only at hSw); go_simp; (try with_reducible rfl)
          try simp only [List.getElem_toArray, List.getElem_cons_succ, List.getElem_cons_zero, Act.put, List.setIfInBounds_toArray, List.set_cons_zero, List.set_cons_succ]
          refine wpAnyH_take (i := 7) (v := ?_) rfl (by kernel_rfl) (by kernel_rfl) (by kernel_rfl) (fun _ _ _ h => h) (Or.inl ⟨by rfl, fun w hSw => ?_⟩) (by assumption) ?_
          rotate_left
          · (try dsimp only at hSw); go_simp; (try with_reducible rfl)
          try simp only [List.getElem_toArray, List.getElem_cons_succ, List.getElem_cons_zero, Act.put, List.setIfInBounds_toArray, List.set_cons_zero, List.set_cons_succ]
          refine wpAnyH_ready (rs := [8]) (by kernel_rfl) (by simp) ?_
          refine AllReadyH.cons rfl (fun K hK => ?_) ?_
          rotate_left
          · exact AllReadyH.nil
          go_simp
          (go_at_call 26; (with_reducible refine (HX.out _).mono ?_); rintro e w14 ⟨u14, rfl, ho, hb⟩; have R14 := Lib.hid (Rd.out.trans (hb.mono Rd.out.size)); have N14 := Lib.hid ho; have O14 := Lib.hid (own_below HMd.out hb); clear ho hb)
          refine hK.out _ _ ?_ (fun hHeld => ?_)
          · exact HS7.out _ R14.out
          clear hK K
          try simp only [List.getElem_toArray, List.getElem_cons_succ, List.getElem_cons_zero, Act.put, List.setIfInBounds_toArray, List.set_cons_zero, List.set_cons_succ]
          refine wpAnyH_ready (rs := [9]) (by kernel_rfl) (by simp) ?_
          refine AllReadyH.cons rfl (fun K hK => ?_) ?_
          rotate_left
          · exact AllReadyH.nil
          (refine step_rows (by kernel_rfl) _ _ rfl W0.heap.size _ (endB a b q ds cs k) rfl O14.out R14.out.size _ (encI x) rfl (rowB N14.out) hl4.out ?_; intro u15 w15 HO15 HB15; have R15 := Lib.hid (R14.out.trans HB15.out))
          refine hK.out _ _ ?_ (fun hHeld => ?_)
          · exact HS7.out _ R15.out
          clear hK K
          try simp only [List.getElem_toArray, List.getElem_cons_succ, List.getElem_cons_zero, Act.put, List.setIfInBounds_toArray, List.set_cons_zero, List.set_cons_succ]
          refine wpAnyH_ready (rs := [16]) (by kernel_rfl) (by simp) ?_
          refine AllReadyH.cons rfl (fun K hK => ?_) ?_
          rotate_left
          · exact AllReadyH.nil
          go_simp
          (go_at_call 27; (with_reducible refine (HY.out _).mono ?_); rintro e w16 ⟨u16, rfl, ho, hb⟩; have R16 := Lib.hid (R15.out.trans (hb.mono R15.out.size)); have N16 := Lib.hid ho; have O16 := Lib.hid (own_below HO15.out hb); clear ho hb)
          refine hK.out _ _ ?_ (fun hHeld => ?_)
          · exact HS7.out _ R16.out
          clear hK K
          try simp only [List.getElem_toArray, List.getElem_cons_succ, List.getElem_cons_zero, Act.put, List.setIfInBounds_toArray, List.set_cons_zero, List.set_cons_succ]
          refine wpAnyH_ready (rs := [17]) (by kernel_rfl) (by simp) ?_
          refine AllReadyH.cons rfl (fun K hK => ?_) ?_
          rotate_left
          · exact AllReadyH.nil
          (refine step_rows (by kernel_rfl) _ _ rfl W0.heap.size _ (endB a b q ds cs k ++ encI x) rfl O16.out R16.out.size _ (txt s) rfl (rowB N16.out) hl5.out ?_; intro u17 w17 HO17 HB17; have R17 := Lib.hid (R16.out.trans HB17.out))
          refine hK.out _ _ ?_ (fun hHeld => ?_)
          · exact HS7.out _ R17.out
          clear hK K
          try simp only [List.getElem_toArray, List.getElem_cons_succ, List.getElem_cons_zero, Act.put, List.setIfInBounds_toArray, List.set_cons_zero, List.set_cons_succ]
          refine wpAnyH_take (i := 18) (v := ?_) rfl (by kernel_rfl) (by kernel_rfl) (by kernel_rfl) (fun _ _ _ h => h) (Or.inl ⟨by rfl, fun w hSw => ?_⟩) (by assumption) ?_
          rotate_left
          · (try dsimp only at hSw); go_simp; (try with_reducible rfl)
          try simp only [List.getElem_toArray, List.getElem_cons_succ, List.getElem_cons_zero, Act.put, List.setIfInBounds_toArray, List.set_cons_zero, List.set_cons_succ]
          refine wpAnyH_done (by kernel_rfl) ?_ _
          obtain ⟨⟨x0, x1, x2, x3, x4⟩, y0, y1, y2⟩ := HS7.out w17 R17.out
          rcases hkd with ⟨t2, hv⟩ | ⟨t2, t4, hv⟩ | ⟨t2, t4, hv⟩
          · have HE2 := Lib.hid (HE.out.2 hv)
            clear hv HE
            go_wp2_with (first
              | (go_at_call 28; (with_reducible refine (HF.out _).mono ?_); rintro e w18 ⟨rfl, rfl⟩)
              | (go_at_call 13; (with_reducible refine (HG.out _).mono ?_); rintro e w19 ⟨u19, rfl, ho, hb⟩; have R19 := Lib.hid (R17.out.trans (hb.mono R17.out.size)); have N19 := Lib.hid ho; have O19 := Lib.hid (own_below HO17.out hb); clear ho hb)
              | (at_builtin; refine wp_rows rfl _ _ rfl W0.heap.size _ ((endB a b q ds cs k ++ encI x) ++ txt s) rfl O19.out R19.out.size _ (big (canon f)) rfl (rowB N19.out) hl6.out ?_; intro u20 w20 HO20 HB20; have R20 := Lib.hid (R19.out.trans HB20.out)))
            go_roundw
            case rel => exact ⟨k + 1, by omega, by go_num, R20, Lib.hid (by rw [← HE2.out]; exact HO20.out)⟩
            case measure => simp [intOf]; omega
          · have HE2 := Lib.hid (HE.out.2 hv)
            clear hv HE
            go_wp2_with (first
              | (go_at_call 28; (with_reducible refine (HF.out _).mono ?_); rintro e w18 ⟨rfl, rfl⟩)
              | (go_at_call 13; (with_reducible refine (HG.out _).mono ?_); rintro e w19 ⟨u19, rfl, ho, hb⟩; have R19 := Lib.hid (R17.out.trans (hb.mono R17.out.size)); have N19 := Lib.hid ho; have O19 := Lib.hid (own_below HO17.out hb); clear ho hb)
              | (at_builtin; refine wp_rows rfl _ _ rfl W0.heap.size _ ((endB a b q ds cs k ++ encI x) ++ txt s) rfl O19.out R19.out.size _ (big (canon f)) rfl (rowB N19.out) hl6.out ?_; intro u20 w20 HO20 HB20; have R20 := Lib.hid (R19.out.trans HB20.out)))
            go_roundw
            case rel => exact ⟨k + 1, by omega, by go_num, R20, Lib.hid (by rw [← HE2.out]; exact HO20.out)⟩
            case measure => simp [intOf]; omega
          · have HE2 := Lib.hid (HE.out.1 hv)
            clear hv HE
            go_wp2_with fail
            go_roundw
            case rel => exact ⟨k + 1, by omega, by go_num, R17, Lib.hid (by rw [← HE2.out]; exact HO17.out)⟩
            case measure => simp [intOf]; omega
        · obtain rfl : k = cs.length := by omega
          have kn : ¬ ((cs.length : Nat) : Int) < cs.length := by omega
          have HMr := HMl
          rw [end_all] at HMr
          have HD := Lib.hid (refof_any _ _ wq (rowB HMr.out))
          have hdl := dg_lt (recB a b q ds cs)
          have HG := Lib.hid (fun w => Wir.big_any (dg (recB a b q ds cs)) w hdl)
          have hl7 : Hid ((recB a b q ds cs).length + (big (dg (recB a b q ds cs))).length ≤ 1000000) := Lib.hid (by have := W'.out.endLen cs.length; rw [end_all] at this; rw [big_len]; omega)
          have HZ : Hid (recB a b q ds cs ++ big (dg (recB a b q ds cs)) = sealt (recB a b q ds cs)) := Lib.hid rfl
          generalize dg (recB a b q ds cs) = dd at HD HG hl7 HZ
          go_wp2_with (first
            | (go_at_call 14; (with_reducible refine HD.out.mono ?_); rintro e w21 ⟨rfl, rfl⟩)
            | (go_at_call 13; (with_reducible refine (HG.out _).mono ?_); rintro e w22 ⟨u22, rfl, ho, hb⟩; have R22 := Lib.hid (Rl.out.trans (hb.mono Rl.out.size)); have N22 := Lib.hid ho; have O22 := Lib.hid (own_below HMr.out hb); clear ho hb)
            | (at_builtin; refine wp_rows rfl _ _ rfl W0.heap.size _ (recB a b q ds cs) rfl O22.out R22.out.size _ (big dd) rfl (rowB N22.out) hl7.out ?_; intro u23 w23 HO23 HB23; have R23 := Lib.hid (R22.out.trans HB23.out)))
          go_ret
          exact ⟨_, rfl, by rw [← HZ.out]; exact own_mono HO23.out l0.out, DW.out _ R23.out⟩
end Go.Proofs.Ytapjjeffegnflaa.Cod
