/- The statement's function of layer 10 (digest) on opening any bytes, and what was sealed with a byte changed: it returns true. Conditions: the bytes lie in memory as their cells say, and are not more than 2000. (Written by tools/gen_opens.py.) -/
import Derived.Test.YtbijiklemkdebaaDigG
namespace Go.Proofs.Ytbijiklemkdebaa.Dig
open Go.RowKit Cmd Bat Wir
set_option linter.unusedVariables false
set_option linter.unusedSimpArgs false

set_option maxHeartbeats 16000000 in
set_option maxRecDepth 100000 in
theorem opens_short (v : Value) (zs : List UInt8) (at' by' : Nat) (w : World) (h : layB.Row w v zs) (hl : zs.length ≤ 2000) (hat : at' < 65536) (hby : by' < 256) (h8 : zs.length < 8) : Calls Try.prog 4 #[v, .int .u16 at', .int .u8 by'] w (RetBelow (.bool true) w) := by
  have hrow := h
  obtain ⟨p, cap, rfl, g1, g2, -⟩ := h
  have CW := Lib.hid play_any
  have hsl := seal_len zs
  have HO1 : Hid (OwnB (w.alloc (.cells #[] 5)) w.heap.size (.slice (some ⟨w.heap.size, 0, none⟩) 0 0) []) := Lib.hid (made_none w)
  have D0 := Lib.hid (below_one w (.cells #[] 5))
  have CO1 : Hid (∀ W V, layB.Row W V zs → Calls Try.prog 11 #[V] W (GivesOx [] 0 4 W)) := Lib.hid fun W V hr => (open_any V zs W hr (by omega)).mono fun e w' h => opn_out h (opn_short h8) rfl
  have CS : Hid (∀ W, Below w.heap.size w W → Calls Try.prog 6 #[.slice p zs.length cap] W (GivesG (sealt zs) (zs.length + 8) W)) := Lib.hid fun W hb => (seal_any _ zs W (hrow.on hb) (by omega)).mono fun e w' h => gives_g h hsl (by omega)
  have CO2 : Hid (∀ W V, layB.Row W V (sealt zs) → Calls Try.prog 11 #[V] W (GivesOx zs zs.length 0 W)) := Lib.hid fun W V hr => (open_any V _ W hr (by omega)).mono fun e w' h => opn_out h (opn_seal zs) rfl
  have HL : Hid (([] : List UInt8).length + zs.length ≤ 1000000) := Lib.hid (by rw [List.length_nil]; omega)
  have HRow : Hid (∀ W, Below w.heap.size w W → layB.Row W (.slice p zs.length cap) zs) := Lib.hid fun W hb => hrow.on hb
  have HSt : Hid (∀ W, Below w.heap.size w W → (convert 22 9 (.slice p zs.length cap)).run Try.prog W = .ok (.string (str zs)) W) := Lib.hid fun W hb => text_run (hrow.on hb)
  -- the place, the byte there, what it becomes
  obtain ⟨i, hi⟩ : ∃ i, at' % (zs.length + 8) = i := ⟨_, rfl⟩
  have hil : i < zs.length + 8 := by rw [← hi]; exact Nat.mod_lt _ (by omega)
  have hrem := rem_run at' (zs.length + 8) (by omega)
  rw [hi, Int.natCast_add, show ((8 : Nat) : Int) = 8 from rfl] at hrem
  obtain ⟨c, hc⟩ : ∃ c, layB.at (sealt zs) i = c := ⟨_, rfl⟩
  obtain ⟨c', hadd, hsame⟩ := add_byte c by'
  obtain ⟨ee, hee⟩ : ∃ ee, (opn ((sealt zs).set i c')).2 = ee := ⟨_, rfl⟩
  have CO3 : Hid (∀ W V, layB.Row W V ((sealt zs).set i c') → Calls Try.prog 11 #[V] W (GivesE ee W)) := Lib.hid fun W V hr => (open_any V _ W hr (by rw [List.length_set]; omega)).mono fun e w' h => opn_err' h hee
  have HGet : Hid (∀ W base g cs, OwnB W base (.slice (some ⟨g, 0, none⟩) (zs.length + 8) cs) (sealt zs) → W.cell? ⟨g, i, none⟩ = some (.int .u8 (c.toNat : Int)) ∧ W.frozen? ⟨g, i, none⟩ = false) := Lib.hid fun W base g cs h => own_get h hsl hil hc
  have HSet : Hid (∀ W base g cs, OwnB W base (.slice (some ⟨g, 0, none⟩) (zs.length + 8) cs) (sealt zs) → layB.Row (W.setCell ⟨g, i, none⟩ (.int .u8 (c'.toNat : Int))) (.slice (some ⟨g, 0, none⟩) (zs.length + 8) cs) ((sealt zs).set i c')) := Lib.hid fun W base g cs h => own_set h hsl i c' _ rfl
  have hz0 : (ee = 0 ↔ by' = 0) := by
    rw [← hee, opn_set zs (by omega) c', ← layB.at_get (by omega), hc, hsame hby]
  obtain ⟨t, ht1, ht2⟩ : ∃ t : Bool, ((ee : Int) == 0) = t ∧ ((by' : Int) == 0) = t := by
    by_cases hb0 : by' = 0
    · exact ⟨true, by rw [beq_iff_eq]; have := hz0.2 hb0; omega, by rw [beq_iff_eq]; omega⟩
    · exact ⟨false, by rw [beq_eq_false_iff_ne]; have := fun h => hb0 (hz0.1 h); omega, by rw [beq_eq_false_iff_ne]; omega⟩
  have hbe : (t == t) = true := by cases t <;> rfl
  have i0 : (0 : Int) ≤ i := by omega
  have i1 : (i : Int) < (zs.length : Int) + 8 := by omega
  have a4 : (zs.length : Int) ≤ 2000 := by omega
  have a5 : (0 : Int) ≤ at' := by omega
  have a6 : (at' : Int) < 65536 := by omega
  have a7 : (0 : Int) ≤ by' := by omega
  have a8 : (by' : Int) < 256 := by omega
  have ne8 : ((zs.length : Int) + 8) ≠ 0 := by omega
  have n0 : (zs.length : Int) - 8 < 0 := by omega
  have n1 : ¬ (0 : Int) ≤ (zs.length : Int) - 8 := by omega
  obtain ⟨L, hL⟩ : ∃ L, zs.length = L := ⟨_, rfl⟩
  rw [hL] at CS CO2 HRow HSt HGet HSet hrem i1 a4 ne8 n0 g1 n1 ⊢
  generalize sealt zs = sl at CS CO2 CO3 HGet HSet
  generalize sl.set i c' = sx at CO3 HSet
  generalize c'.toNat = x' at hadd HSet
  generalize c.toNat = x at hadd HGet
  have wA : IntKind.i64.wrap (at' : Int) = at' := IntWalk.i64_in _ (by omega)
  generalize (at' : Int) = A at hrem a5 a6 wA ⊢
  generalize (by' : Int) = B at hadd ht2 a7 a8 ⊢
  clear hrow hl hsl hL hi hil hc hsame hee hz0 hat hby h8
  go_enter Try.func4, Try.ntmps4
  go_wp2_with (first
    | (at_builtin; refine wp_rows rfl _ _ rfl w.heap.size _ [] rfl HO1.out D0.out.size (.slice p L cap) zs rfl (HRow.out _ D0.out) HL.out ?_; intro u2 w2 HO2 HB2; have D2 := Lib.hid (D0.out.trans HB2.out))
    | (go_at_call 11; (with_reducible refine (CO1.out _ _ (rowB HO2.out)).mono ?_); rintro e w3 ⟨pi, ci, rfl, hr, hb⟩; have X3 := Lib.hid hr; have D3 := Lib.hid (D2.out.trans (hb.mono D2.out.size)); clear hr hb))
  have D3z := D3
  go_wp2_with (first
    | (go_at_call 6; (with_reducible refine (CS.out _ D3z.out).mono ?_); rintro e w4 ⟨gs, cs, rfl, ho, hcs, hb⟩; have S4 := Lib.hid ho; have D4 := Lib.hid (D3z.out.trans (hb.mono D3z.out.size)); clear ho hb)
    | (go_at_call 11; (with_reducible refine (CO2.out _ _ (rowB S4.out)).mono ?_); rintro e w5 ⟨pj, cj, rfl, hr, hb⟩; have ht5 := text_run hr; have S5 := Lib.hid (own_below S4.out hb); have D5 := Lib.hid (D4.out.trans (hb.mono D4.out.size)); have hst5 := HSt.out _ D5.out; clear hr hb))
  have S6 := Lib.hid (own_below S5.out (Below.refl w5.heap.size w5).drew)
  have D6 := Lib.hid D5.out.drew
  obtain ⟨c6, f6⟩ := HGet.out _ _ _ _ S6.out
  refine wp_region_held_drew (S := (fun w' => True)) (by kernel_rfl) trivial (fun hHeld => ?_)
  refine wpAnyH_take (i := 0) (v := ?_) rfl (by kernel_rfl) (by kernel_rfl) (by kernel_rfl) (fun _ _ _ h => h) (Or.inl ⟨by rfl, fun w hSw => ?_⟩) (by assumption) ?_
  rotate_left
  · (try dsimp only at hSw); go_simp; (try with_reducible rfl)
  try simp only [List.getElem_toArray, List.getElem_cons_succ, List.getElem_cons_zero, Act.put, List.setIfInBounds_toArray, List.set_cons_zero, List.set_cons_succ]
  refine wpAnyH_take (i := 1) (v := ?_) rfl (by kernel_rfl) (by kernel_rfl) (by kernel_rfl) (fun _ _ _ h => h) (Or.inl ⟨by rfl, fun w hSw => ?_⟩) (by assumption) ?_
  rotate_left
  · (try dsimp only at hSw); go_simp; (try with_reducible rfl)
  try simp only [List.getElem_toArray, List.getElem_cons_succ, List.getElem_cons_zero, Act.put, List.setIfInBounds_toArray, List.set_cons_zero, List.set_cons_succ]
  refine wpAnyH_take (i := 3) (v := ?_) rfl (by kernel_rfl) (by kernel_rfl) (by kernel_rfl) (fun _ _ _ h => h) (Or.inl ⟨by rfl, fun w hSw => ?_⟩) (by assumption) ?_
  rotate_left
  · (try dsimp only at hSw); go_simp; (try with_reducible rfl)
  try simp only [List.getElem_toArray, List.getElem_cons_succ, List.getElem_cons_zero, Act.put, List.setIfInBounds_toArray, List.set_cons_zero, List.set_cons_succ]
  refine wpAnyH_take (i := 6) (v := ?_) rfl (by kernel_rfl) (by kernel_rfl) (by kernel_rfl) (fun _ _ _ h => h) (Or.inl ⟨by rfl, fun w hSw => ?_⟩) (by assumption) ?_
  rotate_left
  · (try dsimp only at hSw); go_simp; (try with_reducible rfl)
  try simp only [List.getElem_toArray, List.getElem_cons_succ, List.getElem_cons_zero, Act.put, List.setIfInBounds_toArray, List.set_cons_zero, List.set_cons_succ]
  refine wpAnyH_take (i := 7) (v := ?_) rfl (by kernel_rfl) (by kernel_rfl) (by kernel_rfl) (fun _ _ _ h => h) (Or.inl ⟨by rfl, fun w hSw => ?_⟩) (by assumption) ?_
  rotate_left
  · (try dsimp only at hSw); go_simp; (try with_reducible rfl)
  try simp only [List.getElem_toArray, List.getElem_cons_succ, List.getElem_cons_zero, Act.put, List.setIfInBounds_toArray, List.set_cons_zero, List.set_cons_succ]
  refine wpAnyH_take (i := 9) (v := ?_) rfl (by kernel_rfl) (by kernel_rfl) (by kernel_rfl) (fun _ _ _ h => h) (Or.inl ⟨by rfl, fun w hSw => ?_⟩) (by assumption) ?_
  rotate_left
  · (try dsimp only at hSw); go_simp; (try with_reducible rfl)
  try simp only [List.getElem_toArray, List.getElem_cons_succ, List.getElem_cons_zero, Act.put, List.setIfInBounds_toArray, List.set_cons_zero, List.set_cons_succ]
  refine wpAnyH_take (i := 14) (v := ?_) rfl (by kernel_rfl) (by kernel_rfl) (by kernel_rfl) (fun _ _ _ h => h) (Or.inl ⟨by rfl, fun w hSw => ?_⟩) (by assumption) ?_
  rotate_left
  · (try dsimp only at hSw); go_simp; (try with_reducible rfl)
  try simp only [List.getElem_toArray, List.getElem_cons_succ, List.getElem_cons_zero, Act.put, List.setIfInBounds_toArray, List.set_cons_zero, List.set_cons_succ]
  refine wpAnyH_take (i := 2) (v := ?_) rfl (by kernel_rfl) (by kernel_rfl) (by kernel_rfl) (fun _ _ _ h => h) (Or.inl ⟨by rfl, fun w hSw => ?_⟩) (by assumption) ?_
  rotate_left
  · (try dsimp only at hSw); go_simp; (try with_reducible rfl)
  try simp only [List.getElem_toArray, List.getElem_cons_succ, List.getElem_cons_zero, Act.put, List.setIfInBounds_toArray, List.set_cons_zero, List.set_cons_succ]
  refine wpAnyH_take (i := 4) (v := ?_) rfl (by kernel_rfl) (by kernel_rfl) (by kernel_rfl) (fun _ _ _ h => h) (Or.inl ⟨by rfl, fun w hSw => ?_⟩) (by assumption) ?_
  rotate_left
  · (try dsimp only at hSw); go_simp; (try with_reducible rfl)
  try simp only [List.getElem_toArray, List.getElem_cons_succ, List.getElem_cons_zero, Act.put, List.setIfInBounds_toArray, List.set_cons_zero, List.set_cons_succ]
  refine wpAnyH_take (i := 8) (v := ?_) rfl (by kernel_rfl) (by kernel_rfl) (by kernel_rfl) (fun _ _ _ h => h) (Or.inl ⟨by rfl, fun w hSw => ?_⟩) (by assumption) ?_
  rotate_left
  · (try dsimp only at hSw); go_simp; (try with_reducible rfl)
  try simp only [List.getElem_toArray, List.getElem_cons_succ, List.getElem_cons_zero, Act.put, List.setIfInBounds_toArray, List.set_cons_zero, List.set_cons_succ]
  refine wpAnyH_take (i := 10) (v := ?_) rfl (by kernel_rfl) (by kernel_rfl) (by kernel_rfl) (fun _ _ _ h => h) (Or.inl ⟨by rfl, fun w hSw => ?_⟩) (by assumption) ?_
  rotate_left
  · (try dsimp only at hSw); go_simp; (try with_reducible rfl)
  try simp only [List.getElem_toArray, List.getElem_cons_succ, List.getElem_cons_zero, Act.put, List.setIfInBounds_toArray, List.set_cons_zero, List.set_cons_succ]
  refine wpAnyH_take (i := 5) (v := ?_) rfl (by kernel_rfl) (by kernel_rfl) (by kernel_rfl) (fun _ _ _ h => h) (Or.inl ⟨by rfl, fun w hSw => ?_⟩) (by assumption) ?_
  rotate_left
  · (try dsimp only at hSw); go_simp; (try with_reducible rfl)
  try simp only [List.getElem_toArray, List.getElem_cons_succ, List.getElem_cons_zero, Act.put, List.setIfInBounds_toArray, List.set_cons_zero, List.set_cons_succ]
  refine wpAnyH_take (i := 11) (v := ?_) rfl (by kernel_rfl) (by kernel_rfl) (by kernel_rfl) (fun _ _ _ h => h) (Or.inl ⟨by rfl, fun w hSw => ?_⟩) (by assumption) ?_
  rotate_left
  · (try dsimp only at hSw); go_simp; (try with_reducible rfl)
  try simp only [List.getElem_toArray, List.getElem_cons_succ, List.getElem_cons_zero, Act.put, List.setIfInBounds_toArray, List.set_cons_zero, List.set_cons_succ]
  refine wpAnyH_take (i := 12) (v := ?_) rfl (by kernel_rfl) (by kernel_rfl) (by kernel_rfl) (fun _ _ _ h => h) (Or.inl ⟨by rfl, fun w hSw => ?_⟩) (by assumption) ?_
  rotate_left
  · (try dsimp only at hSw); go_simp; (try with_reducible rfl)
  try simp only [List.getElem_toArray, List.getElem_cons_succ, List.getElem_cons_zero, Act.put, List.setIfInBounds_toArray, List.set_cons_zero, List.set_cons_succ]
  refine wpAnyH_ready (rs := [13]) (by kernel_rfl) (by simp) ?_
  refine AllReadyH.cons rfl (fun K hK => ?_) ?_
  rotate_left
  · exact AllReadyH.nil
  go_simp
  skip
  refine hK.out _ _ ?_ (fun hHeld => ?_)
  · trivial
  clear hK K
  try simp only [List.getElem_toArray, List.getElem_cons_succ, List.getElem_cons_zero, Act.put, List.setIfInBounds_toArray, List.set_cons_zero, List.set_cons_succ]
  refine wpAnyH_take (i := 15) (v := ?_) rfl (by kernel_rfl) (by kernel_rfl) (by kernel_rfl) (fun _ _ _ h => h) (Or.inl ⟨by rfl, fun w hSw => ?_⟩) (by assumption) ?_
  rotate_left
  · (try dsimp only at hSw); go_simp; (try with_reducible rfl)
  try simp only [List.getElem_toArray, List.getElem_cons_succ, List.getElem_cons_zero, Act.put, List.setIfInBounds_toArray, List.set_cons_zero, List.set_cons_succ]
  refine wpAnyH_take (i := 16) (v := ?_) rfl (by kernel_rfl) (by kernel_rfl) (by kernel_rfl) (fun _ _ _ h => h) (Or.inl ⟨by rfl, fun w hSw => ?_⟩) (by assumption) ?_
  rotate_left
  · (try dsimp only at hSw); go_simp; (try with_reducible rfl)
  try simp only [List.getElem_toArray, List.getElem_cons_succ, List.getElem_cons_zero, Act.put, List.setIfInBounds_toArray, List.set_cons_zero, List.set_cons_succ]
  refine wpAnyH_ready (rs := [17]) (by kernel_rfl) (by simp) ?_
  refine AllReadyH.cons rfl (fun K hK => ?_) ?_
  rotate_left
  · exact AllReadyH.nil
  go_simp
  skip
  refine hK.out _ _ ?_ (fun hHeld => ?_)
  · trivial
  clear hK K
  try simp only [List.getElem_toArray, List.getElem_cons_succ, List.getElem_cons_zero, Act.put, List.setIfInBounds_toArray, List.set_cons_zero, List.set_cons_succ]
  refine wpAnyH_done (by kernel_rfl) ?_ _
  have X7 := Lib.hid ((HSet.out _ _ _ _ S5.out).on (Below.refl _ _).drew)
  have D7 := Lib.hid (set_below D5.out S5.out D3z.out.size i (.int .u8 x')).drew
  go_wp2_with (first
    | (go_at_call 11; (with_reducible refine (CO3.out _ _ X7.out).mono ?_); rintro e w8 ⟨pk, nk, ck, rfl, hb⟩; have D8 := Lib.hid (D7.out.trans (hb.mono D7.out.size)); clear hb)
    | (go_at_call 5; (with_reducible refine (CW.out _).mono ?_); rintro e w9 ⟨rfl, hb⟩; have D9 := Lib.hid (D8.out.trans (hb.mono D8.out.size)); clear hb))
  go_ret
  exact ⟨rfl, D9.out⟩

set_option maxHeartbeats 16000000 in
set_option maxRecDepth 100000 in
theorem opens_good (v : Value) (zs : List UInt8) (at' by' : Nat) (w : World) (h : layB.Row w v zs) (hl : zs.length ≤ 2000) (hat : at' < 65536) (hby : by' < 256) (k : Nat) (hk : zs.length = k + 8) (hd : zs.drop k = big (dg (zs.take k))) : Calls Try.prog 4 #[v, .int .u16 at', .int .u8 by'] w (RetBelow (.bool true) w) := by
  have hrow := h
  obtain ⟨p, cap, rfl, g1, g2, -⟩ := h
  have CW := Lib.hid play_any
  have hsl := seal_len zs
  have HO1 : Hid (OwnB (w.alloc (.cells #[] 5)) w.heap.size (.slice (some ⟨w.heap.size, 0, none⟩) 0 0) []) := Lib.hid (made_none w)
  have D0 := Lib.hid (below_one w (.cells #[] 5))
  have CO1 : Hid (∀ W V, layB.Row W V zs → Calls Try.prog 11 #[V] W (GivesOx (zs.take k) k 0 W)) := Lib.hid fun W V hr => (open_any V zs W hr (by omega)).mono fun e w' h => opn_out h (good_opn hk hd) (by rw [List.length_take]; omega)
  have CS : Hid (∀ W, Below w.heap.size w W → Calls Try.prog 6 #[.slice p zs.length cap] W (GivesG (sealt zs) (zs.length + 8) W)) := Lib.hid fun W hb => (seal_any _ zs W (hrow.on hb) (by omega)).mono fun e w' h => gives_g h hsl (by omega)
  have CO2 : Hid (∀ W V, layB.Row W V (sealt zs) → Calls Try.prog 11 #[V] W (GivesOx zs zs.length 0 W)) := Lib.hid fun W V hr => (open_any V _ W hr (by omega)).mono fun e w' h => opn_out h (opn_seal zs) rfl
  have HL : Hid (([] : List UInt8).length + zs.length ≤ 1000000) := Lib.hid (by rw [List.length_nil]; omega)
  have HRow : Hid (∀ W, Below w.heap.size w W → layB.Row W (.slice p zs.length cap) zs) := Lib.hid fun W hb => hrow.on hb
  have HSt : Hid (∀ W, Below w.heap.size w W → (convert 22 9 (.slice p zs.length cap)).run Try.prog W = .ok (.string (str zs)) W) := Lib.hid fun W hb => text_run (hrow.on hb)
  -- the place, the byte there, what it becomes
  obtain ⟨i, hi⟩ : ∃ i, at' % (zs.length + 8) = i := ⟨_, rfl⟩
  have hil : i < zs.length + 8 := by rw [← hi]; exact Nat.mod_lt _ (by omega)
  have hrem := rem_run at' (zs.length + 8) (by omega)
  rw [hi, Int.natCast_add, show ((8 : Nat) : Int) = 8 from rfl] at hrem
  obtain ⟨c, hc⟩ : ∃ c, layB.at (sealt zs) i = c := ⟨_, rfl⟩
  obtain ⟨c', hadd, hsame⟩ := add_byte c by'
  obtain ⟨ee, hee⟩ : ∃ ee, (opn ((sealt zs).set i c')).2 = ee := ⟨_, rfl⟩
  have CO3 : Hid (∀ W V, layB.Row W V ((sealt zs).set i c') → Calls Try.prog 11 #[V] W (GivesE ee W)) := Lib.hid fun W V hr => (open_any V _ W hr (by rw [List.length_set]; omega)).mono fun e w' h => opn_err' h hee
  have HGet : Hid (∀ W base g cs, OwnB W base (.slice (some ⟨g, 0, none⟩) (zs.length + 8) cs) (sealt zs) → W.cell? ⟨g, i, none⟩ = some (.int .u8 (c.toNat : Int)) ∧ W.frozen? ⟨g, i, none⟩ = false) := Lib.hid fun W base g cs h => own_get h hsl hil hc
  have HSet : Hid (∀ W base g cs, OwnB W base (.slice (some ⟨g, 0, none⟩) (zs.length + 8) cs) (sealt zs) → layB.Row (W.setCell ⟨g, i, none⟩ (.int .u8 (c'.toNat : Int))) (.slice (some ⟨g, 0, none⟩) (zs.length + 8) cs) ((sealt zs).set i c')) := Lib.hid fun W base g cs h => own_set h hsl i c' _ rfl
  have hz0 : (ee = 0 ↔ by' = 0) := by
    rw [← hee, opn_set zs (by omega) c', ← layB.at_get (by omega), hc, hsame hby]
  obtain ⟨t, ht1, ht2⟩ : ∃ t : Bool, ((ee : Int) == 0) = t ∧ ((by' : Int) == 0) = t := by
    by_cases hb0 : by' = 0
    · exact ⟨true, by rw [beq_iff_eq]; have := hz0.2 hb0; omega, by rw [beq_iff_eq]; omega⟩
    · exact ⟨false, by rw [beq_eq_false_iff_ne]; have := fun h => hb0 (hz0.1 h); omega, by rw [beq_eq_false_iff_ne]; omega⟩
  have hbe : (t == t) = true := by cases t <;> rfl
  have i0 : (0 : Int) ≤ i := by omega
  have i1 : (i : Int) < (zs.length : Int) + 8 := by omega
  have a4 : (zs.length : Int) ≤ 2000 := by omega
  have a5 : (0 : Int) ≤ at' := by omega
  have a6 : (at' : Int) < 65536 := by omega
  have a7 : (0 : Int) ≤ by' := by omega
  have a8 : (by' : Int) < 256 := by omega
  have ne8 : ((zs.length : Int) + 8) ≠ 0 := by omega
  have kL : k + 8 = zs.length := hk.symm
  have n0 : (zs.length : Int) - 8 = k := by omega
  have k0 : (0 : Int) ≤ k := by omega
  have k1 : ¬ (k : Int) < 0 := by omega
  have k2 : (k : Int) ≤ zs.length := by omega
  have k3 : (k : Int) ≤ cap := by omega
  have k4 : k ≤ cap := by omega
  have k5 : k ≤ zs.length := by omega
  have r1 := row_cut hrow k zs.length cap (by omega) (Nat.le_refl _) (by omega) g2
  rw [List.take_length] at r1
  have r2 := row_cut hrow 0 k cap (Nat.zero_le _) (by omega) (by omega) g2
  rw [cutq_none, List.drop_zero, Nat.sub_zero, Nat.sub_zero] at r2
  have hcut1 := fun w => cut_from p zs.length cap k (by omega) w
  have HS1 : Hid (∀ W, Below w.heap.size w W → (convert 22 9 (.slice (cutq p k cap) (zs.length - k) (cap - k))).run Try.prog W = .ok (.string (str (zs.drop k))) W) := Lib.hid fun W hb => text_run (r1.on hb)
  have HS2 : Hid (∀ W, Below w.heap.size w W → (convert 22 9 (.slice p k cap)).run Try.prog W = .ok (.string (str (zs.take k))) W) := Lib.hid fun W hb => text_run (r2.on hb)
  have CR : Hid (∀ W, Below w.heap.size w W → Calls Try.prog 8 #[.slice p k cap] W fun e w' => e = .returned (.int .u64 (dg (zs.take k) : Nat)) ∧ W = w') := Lib.hid fun W hb => refof_any _ _ W (r2.on hb)
  have hD := dg_lt (zs.take k)
  have CD : Hid (∀ W, Calls Try.prog 10 #[.int .u64 (dg (zs.take k))] W (GivesR (big (dg (zs.take k))) 8 W)) := Lib.hid fun W => (big_any _ W hD).mono fun e w' h => gives_row h rfl (big_len _)
  rw [hd] at HS1
  obtain ⟨L, hL⟩ : ∃ L, zs.length = L := ⟨_, rfl⟩
  rw [hL] at CS CO2 HRow HSt HGet HSet hrem i1 a4 ne8 n0 g1 HS1 hcut1 k2 k5 kL ⊢
  generalize cutq p k cap = q1 at HS1 hcut1
  generalize L - k = m1 at HS1 hcut1
  generalize cap - k = m2 at HS1 hcut1
  generalize big (dg (zs.take k)) = bg at CD HS1
  generalize dg (zs.take k) = dk at CR CD
  generalize zs.take k = tk at CO1 HS2
  clear r1 r2 hD kL
  generalize sealt zs = sl at CS CO2 CO3 HGet HSet
  generalize sl.set i c' = sx at CO3 HSet
  generalize c'.toNat = x' at hadd HSet
  generalize c.toNat = x at hadd HGet
  have wA : IntKind.i64.wrap (at' : Int) = at' := IntWalk.i64_in _ (by omega)
  generalize (at' : Int) = A at hrem a5 a6 wA ⊢
  generalize (by' : Int) = B at hadd ht2 a7 a8 ⊢
  clear hrow hl hsl hL hi hil hc hsame hee hz0 hat hby hk hd
  go_enter Try.func4, Try.ntmps4
  go_wp2_with (first
    | (at_builtin; refine wp_rows rfl _ _ rfl w.heap.size _ [] rfl HO1.out D0.out.size (.slice p L cap) zs rfl (HRow.out _ D0.out) HL.out ?_; intro u2 w2 HO2 HB2; have D2 := Lib.hid (D0.out.trans HB2.out))
    | (go_at_call 11; (with_reducible refine (CO1.out _ _ (rowB HO2.out)).mono ?_); rintro e w3 ⟨pi, ci, rfl, hr, hb⟩; have X3 := Lib.hid hr; have D3 := Lib.hid (D2.out.trans (hb.mono D2.out.size)); clear hr hb))
  have HSA : Hid (∀ w', Below w3.heap.size w3 w' → Below w.heap.size w w' ∧ (convert 22 9 (.slice q1 m1 m2)).run Try.prog w' = .ok (.string (str bg)) w') := Lib.hid fun W hb => ⟨D3.out.trans (hb.mono D3.out.size), HS1.out _ (D3.out.trans (hb.mono D3.out.size))⟩
  have R3 := Lib.hid (Below.refl w3.heap.size w3).drew
  refine wp_region_held_drew (S := (fun w' => Below w.heap.size w w' ∧ (convert 22 9 (.slice q1 m1 m2)).run Try.prog w' = .ok (.string (str bg)) w')) (by kernel_rfl) (HSA.out _ R3.out) (fun hHeld => ?_)
  refine wpAnyH_take (i := 0) (v := ?_) rfl (by kernel_rfl) (by kernel_rfl) (by kernel_rfl) (fun _ _ _ h => h) (Or.inl ⟨by rfl, fun w hSw => ?_⟩) (by assumption) ?_
  rotate_left
  · (try dsimp only at hSw); go_simp; (try with_reducible rfl)
  try simp only [List.getElem_toArray, List.getElem_cons_succ, List.getElem_cons_zero, Act.put, List.setIfInBounds_toArray, List.set_cons_zero, List.set_cons_succ]
  refine wpAnyH_take (i := 1) (v := ?_) rfl (by kernel_rfl) (by kernel_rfl) (by kernel_rfl) (fun _ _ _ h => h) (Or.inl ⟨by rfl, fun w hSw => ?_⟩) (by assumption) ?_
  rotate_left
  · (try dsimp only at hSw); go_simp; (try with_reducible rfl)
  try simp only [List.getElem_toArray, List.getElem_cons_succ, List.getElem_cons_zero, Act.put, List.setIfInBounds_toArray, List.set_cons_zero, List.set_cons_succ]
  refine wpAnyH_take (i := 2) (v := .slice q1 m1 m2) rfl (by kernel_rfl) (by kernel_rfl) (by kernel_rfl) (fun _ _ _ h => h) (Or.inl ⟨by rfl, fun w hSw => ?_⟩) (by assumption) ?_
  · exact slice_from_run _ _ _ _ _ _ rfl (hcut1 _)
  try simp only [List.getElem_toArray, List.getElem_cons_succ, List.getElem_cons_zero, Act.put, List.setIfInBounds_toArray, List.set_cons_zero, List.set_cons_succ]
  refine wpAnyH_take (i := 3) (v := ?_) rfl (by kernel_rfl) (by kernel_rfl) (by kernel_rfl) (fun _ _ _ h => h) (Or.inl ⟨by rfl, fun w hSw => ?_⟩) (by assumption) ?_
  rotate_left
  · (try dsimp only at hSw); go_simp; (try with_reducible rfl)
  try simp only [List.getElem_toArray, List.getElem_cons_succ, List.getElem_cons_zero, Act.put, List.setIfInBounds_toArray, List.set_cons_zero, List.set_cons_succ]
  refine wpAnyH_take (i := 4) (v := ?_) rfl (by kernel_rfl) (by kernel_rfl) (by kernel_rfl) (fun _ _ _ h => h) (Or.inl ⟨by rfl, fun w hSw => ?_⟩) (by assumption) ?_
  rotate_left
  · (try dsimp only at hSw); go_simp; (try with_reducible rfl)
  try simp only [List.getElem_toArray, List.getElem_cons_succ, List.getElem_cons_zero, Act.put, List.setIfInBounds_toArray, List.set_cons_zero, List.set_cons_succ]
  refine wpAnyH_take (i := 5) (v := ?_) rfl (by kernel_rfl) (by kernel_rfl) (by kernel_rfl) (fun _ _ _ h => h) (Or.inl ⟨by rfl, fun w hSw => ?_⟩) (by assumption) ?_
  rotate_left
  · (try dsimp only at hSw); go_simp; (try with_reducible rfl)
  try simp only [List.getElem_toArray, List.getElem_cons_succ, List.getElem_cons_zero, Act.put, List.setIfInBounds_toArray, List.set_cons_zero, List.set_cons_succ]
  refine wpAnyH_take (i := 6) (v := ?_) rfl (by kernel_rfl) (by kernel_rfl) (by kernel_rfl) (fun _ _ _ h => h) (Or.inl ⟨by rfl, fun w hSw => ?_⟩) (by assumption) ?_
  rotate_left
  · (try dsimp only at hSw); go_simp; (try with_reducible rfl)
  try simp only [List.getElem_toArray, List.getElem_cons_succ, List.getElem_cons_zero, Act.put, List.setIfInBounds_toArray, List.set_cons_zero, List.set_cons_succ]
  refine wpAnyH_ready (rs := [7]) (by kernel_rfl) (by simp) ?_
  refine AllReadyH.cons rfl (fun K hK => ?_) ?_
  rotate_left
  · exact AllReadyH.nil
  go_simp
  (go_at_call 8; (with_reducible refine (CR.out _ hHeld.1).mono ?_); rintro e wx ⟨rfl, rfl⟩)
  refine hK.out _ _ ?_ (fun hHeld => ?_)
  · exact hHeld
  clear hK K
  try simp only [List.getElem_toArray, List.getElem_cons_succ, List.getElem_cons_zero, Act.put, List.setIfInBounds_toArray, List.set_cons_zero, List.set_cons_succ]
  refine wpAnyH_ready (rs := [8]) (by kernel_rfl) (by simp) ?_
  refine AllReadyH.cons rfl (fun K hK => ?_) ?_
  rotate_left
  · exact AllReadyH.nil
  go_simp
  (go_at_call 10; (with_reducible refine (CD.out _).mono ?_); rintro e wb ⟨pb, cb, rfl, hcb, hr, hb⟩; have Rb := Lib.hid (R3.out.trans (hb.mono R3.out.size)); have htb := text_run hr; clear hr hb)
  refine hK.out _ _ ?_ (fun hHeld => ?_)
  · exact HSA.out _ Rb.out
  clear hK K
  try simp only [List.getElem_toArray, List.getElem_cons_succ, List.getElem_cons_zero, Act.put, List.setIfInBounds_toArray, List.set_cons_zero, List.set_cons_succ]
  refine wpAnyH_ready (rs := [9]) (by kernel_rfl) (by simp) ?_
  refine AllReadyH.cons rfl (fun K hK => ?_) ?_
  rotate_left
  · exact AllReadyH.nil
  go_simp
  skip
  refine hK.out _ _ ?_ (fun hHeld => ?_)
  · exact HSA.out _ Rb.out
  clear hK K
  try simp only [List.getElem_toArray, List.getElem_cons_succ, List.getElem_cons_zero, Act.put, List.setIfInBounds_toArray, List.set_cons_zero, List.set_cons_succ]
  refine wpAnyH_take (i := 10) (v := ?_) rfl (by kernel_rfl) (by kernel_rfl) (by kernel_rfl) (fun _ _ _ h => h) (Or.inl ⟨by rfl, fun w hSw => ?_⟩) (by assumption) ?_
  rotate_left
  · (try dsimp only at hSw); go_simp; (try with_reducible rfl)
  try simp only [List.getElem_toArray, List.getElem_cons_succ, List.getElem_cons_zero, Act.put, List.setIfInBounds_toArray, List.set_cons_zero, List.set_cons_succ]
  refine wpAnyH_take (i := 11) (v := ?_) rfl (by kernel_rfl) (by kernel_rfl) (by kernel_rfl) (fun _ _ _ h => h) (Or.inl ⟨by rfl, fun w hSw => ?_⟩) (by assumption) ?_
  rotate_left
  · (try dsimp only at hSw); go_simp; (try with_reducible rfl)
  try simp only [List.getElem_toArray, List.getElem_cons_succ, List.getElem_cons_zero, Act.put, List.setIfInBounds_toArray, List.set_cons_zero, List.set_cons_succ]
  refine wpAnyH_done (by kernel_rfl) ?_ _
  go_wp2
  have D3y := Lib.hid (D3.out.trans (Rb.out.mono D3.out.size))
  have D3z := Lib.hid D3y.out.drew
  have HSB : Hid ((fun w' => (convert 22 9 (.slice pi k ci)).run Try.prog w' = .ok (.string (str tk)) w' ∧ (convert 22 9 (.slice p k cap)).run Try.prog w' = .ok (.string (str tk)) w') wb.drew) := Lib.hid ⟨text_run ((X3.out.on Rb.out).on (Below.refl _ _).drew), HS2.out _ D3z.out⟩
  refine wp_region_held_drew (S := (fun w' => (convert 22 9 (.slice pi k ci)).run Try.prog w' = .ok (.string (str tk)) w' ∧ (convert 22 9 (.slice p k cap)).run Try.prog w' = .ok (.string (str tk)) w')) (by kernel_rfl) HSB.out (fun hHeld => ?_)
  refine wpAnyH_take (i := 0) (v := ?_) rfl (by kernel_rfl) (by kernel_rfl) (by kernel_rfl) (fun _ _ _ h => h) (Or.inl ⟨by rfl, fun w hSw => ?_⟩) (by assumption) ?_
  rotate_left
  · (try dsimp only at hSw); go_simp; (try with_reducible rfl)
  try simp only [List.getElem_toArray, List.getElem_cons_succ, List.getElem_cons_zero, Act.put, List.setIfInBounds_toArray, List.set_cons_zero, List.set_cons_succ]
  refine wpAnyH_take (i := 1) (v := ?_) rfl (by kernel_rfl) (by kernel_rfl) (by kernel_rfl) (fun _ _ _ h => h) (Or.inl ⟨by rfl, fun w hSw => ?_⟩) (by assumption) ?_
  rotate_left
  · (try dsimp only at hSw); go_simp; (try with_reducible rfl)
  try simp only [List.getElem_toArray, List.getElem_cons_succ, List.getElem_cons_zero, Act.put, List.setIfInBounds_toArray, List.set_cons_zero, List.set_cons_succ]
  refine wpAnyH_take (i := 2) (v := ?_) rfl (by kernel_rfl) (by kernel_rfl) (by kernel_rfl) (fun _ _ _ h => h) (Or.inl ⟨by rfl, fun w hSw => ?_⟩) (by assumption) ?_
  rotate_left
  · (try dsimp only at hSw); go_simp; (try with_reducible rfl)
  try simp only [List.getElem_toArray, List.getElem_cons_succ, List.getElem_cons_zero, Act.put, List.setIfInBounds_toArray, List.set_cons_zero, List.set_cons_succ]
  refine wpAnyH_take (i := 3) (v := ?_) rfl (by kernel_rfl) (by kernel_rfl) (by kernel_rfl) (fun _ _ _ h => h) (Or.inl ⟨by rfl, fun w hSw => ?_⟩) (by assumption) ?_
  rotate_left
  · (try dsimp only at hSw); go_simp; (try with_reducible rfl)
  try simp only [List.getElem_toArray, List.getElem_cons_succ, List.getElem_cons_zero, Act.put, List.setIfInBounds_toArray, List.set_cons_zero, List.set_cons_succ]
  refine wpAnyH_take (i := 4) (v := ?_) rfl (by kernel_rfl) (by kernel_rfl) (by kernel_rfl) (fun _ _ _ h => h) (Or.inl ⟨by rfl, fun w hSw => ?_⟩) (by assumption) ?_
  rotate_left
  · (try dsimp only at hSw); go_simp; (try with_reducible rfl)
  try simp only [List.getElem_toArray, List.getElem_cons_succ, List.getElem_cons_zero, Act.put, List.setIfInBounds_toArray, List.set_cons_zero, List.set_cons_succ]
  refine wpAnyH_take (i := 5) (v := ?_) rfl (by kernel_rfl) (by kernel_rfl) (by kernel_rfl) (fun _ _ _ h => h) (Or.inl ⟨by rfl, fun w hSw => ?_⟩) (by assumption) ?_
  rotate_left
  · (try dsimp only at hSw); go_simp; (try with_reducible rfl)
  try simp only [List.getElem_toArray, List.getElem_cons_succ, List.getElem_cons_zero, Act.put, List.setIfInBounds_toArray, List.set_cons_zero, List.set_cons_succ]
  refine wpAnyH_take (i := 6) (v := ?_) rfl (by kernel_rfl) (by kernel_rfl) (by kernel_rfl) (fun _ _ _ h => h) (Or.inl ⟨by rfl, fun w hSw => ?_⟩) (by assumption) ?_
  rotate_left
  · (try dsimp only at hSw); go_simp; (try with_reducible rfl)
  try simp only [List.getElem_toArray, List.getElem_cons_succ, List.getElem_cons_zero, Act.put, List.setIfInBounds_toArray, List.set_cons_zero, List.set_cons_succ]
  refine wpAnyH_take (i := 7) (v := ?_) rfl (by kernel_rfl) (by kernel_rfl) (by kernel_rfl) (fun _ _ _ h => h) (Or.inl ⟨by rfl, fun w hSw => ?_⟩) (by assumption) ?_
  rotate_left
  · (try dsimp only at hSw); go_simp; (try with_reducible rfl)
  try simp only [List.getElem_toArray, List.getElem_cons_succ, List.getElem_cons_zero, Act.put, List.setIfInBounds_toArray, List.set_cons_zero, List.set_cons_succ]
  refine wpAnyH_take (i := 8) (v := ?_) rfl (by kernel_rfl) (by kernel_rfl) (by kernel_rfl) (fun _ _ _ h => h) (Or.inl ⟨by rfl, fun w hSw => ?_⟩) (by assumption) ?_
  rotate_left
  · (try dsimp only at hSw); go_simp; (try with_reducible rfl)
  try simp only [List.getElem_toArray, List.getElem_cons_succ, List.getElem_cons_zero, Act.put, List.setIfInBounds_toArray, List.set_cons_zero, List.set_cons_succ]
  refine wpAnyH_take (i := 9) (v := ?_) rfl (by kernel_rfl) (by kernel_rfl) (by kernel_rfl) (fun _ _ _ h => h) (Or.inl ⟨by rfl, fun w hSw => ?_⟩) (by assumption) ?_
  rotate_left
  · (try dsimp only at hSw); go_simp; (try with_reducible rfl)
  try simp only [List.getElem_toArray, List.getElem_cons_succ, List.getElem_cons_zero, Act.put, List.setIfInBounds_toArray, List.set_cons_zero, List.set_cons_succ]
  refine wpAnyH_take (i := 10) (v := ?_) rfl (by kernel_rfl) (by kernel_rfl) (by kernel_rfl) (fun _ _ _ h => h) (Or.inl ⟨by rfl, fun w hSw => ?_⟩) (by assumption) ?_
  rotate_left
  · (try dsimp only at hSw); go_simp; (try with_reducible rfl)
  try simp only [List.getElem_toArray, List.getElem_cons_succ, List.getElem_cons_zero, Act.put, List.setIfInBounds_toArray, List.set_cons_zero, List.set_cons_succ]
  refine wpAnyH_take (i := 11) (v := ?_) rfl (by kernel_rfl) (by kernel_rfl) (by kernel_rfl) (fun _ _ _ h => h) (Or.inl ⟨by rfl, fun w hSw => ?_⟩) (by assumption) ?_
  rotate_left
  · (try dsimp only at hSw); go_simp; (try with_reducible rfl)
  try simp only [List.getElem_toArray, List.getElem_cons_succ, List.getElem_cons_zero, Act.put, List.setIfInBounds_toArray, List.set_cons_zero, List.set_cons_succ]
  refine wpAnyH_take (i := 12) (v := ?_) rfl (by kernel_rfl) (by kernel_rfl) (by kernel_rfl) (fun _ _ _ h => h) (Or.inl ⟨by rfl, fun w hSw => ?_⟩) (by assumption) ?_
  rotate_left
  · (try dsimp only at hSw); go_simp; (try with_reducible rfl)
  try simp only [List.getElem_toArray, List.getElem_cons_succ, List.getElem_cons_zero, Act.put, List.setIfInBounds_toArray, List.set_cons_zero, List.set_cons_succ]
  refine wpAnyH_take (i := 13) (v := ?_) rfl (by kernel_rfl) (by kernel_rfl) (by kernel_rfl) (fun _ _ _ h => h) (Or.inl ⟨by rfl, fun w hSw => ?_⟩) (by assumption) ?_
  rotate_left
  · (try dsimp only at hSw); go_simp; (try with_reducible rfl)
  try simp only [List.getElem_toArray, List.getElem_cons_succ, List.getElem_cons_zero, Act.put, List.setIfInBounds_toArray, List.set_cons_zero, List.set_cons_succ]
  refine wpAnyH_take (i := 14) (v := ?_) rfl (by kernel_rfl) (by kernel_rfl) (by kernel_rfl) (fun _ _ _ h => h) (Or.inl ⟨by rfl, fun w hSw => ?_⟩) (by assumption) ?_
  rotate_left
  · (try dsimp only at hSw); go_simp; (try with_reducible rfl)
  try simp only [List.getElem_toArray, List.getElem_cons_succ, List.getElem_cons_zero, Act.put, List.setIfInBounds_toArray, List.set_cons_zero, List.set_cons_succ]
  refine wpAnyH_take (i := 15) (v := ?_) rfl (by kernel_rfl) (by kernel_rfl) (by kernel_rfl) (fun _ _ _ h => h) (Or.inl ⟨by rfl, fun w hSw => ?_⟩) (by assumption) ?_
  rotate_left
  · (try dsimp only at hSw); go_simp; (try with_reducible rfl)
  try simp only [List.getElem_toArray, List.getElem_cons_succ, List.getElem_cons_zero, Act.put, List.setIfInBounds_toArray, List.set_cons_zero, List.set_cons_succ]
  refine wpAnyH_take (i := 16) (v := ?_) rfl (by kernel_rfl) (by kernel_rfl) (by kernel_rfl) (fun _ _ _ h => h) (Or.inl ⟨by rfl, fun w hSw => ?_⟩) (by assumption) ?_
  rotate_left
  · (try dsimp only at hSw); go_simp; (try with_reducible rfl)
  try simp only [List.getElem_toArray, List.getElem_cons_succ, List.getElem_cons_zero, Act.put, List.setIfInBounds_toArray, List.set_cons_zero, List.set_cons_succ]
  refine wpAnyH_take (i := 17) (v := ?_) rfl (by kernel_rfl) (by kernel_rfl) (by kernel_rfl) (fun _ _ _ h => h) (Or.inl ⟨by rfl, fun w hSw => ?_⟩) (by assumption) ?_
  rotate_left
  · (try dsimp only at hSw); go_simp; (try with_reducible rfl)
  try simp only [List.getElem_toArray, List.getElem_cons_succ, List.getElem_cons_zero, Act.put, List.setIfInBounds_toArray, List.set_cons_zero, List.set_cons_succ]
  refine wpAnyH_take (i := 18) (v := _) rfl (by kernel_rfl) (by kernel_rfl) (by kernel_rfl) (fun _ _ _ h => h) (Or.inr ⟨by rfl, rfl⟩) (by assumption) ?_
  try simp only [List.getElem_toArray, List.getElem_cons_succ, List.getElem_cons_zero, Act.put, List.setIfInBounds_toArray, List.set_cons_zero, List.set_cons_succ]
  refine wpAnyH_take (i := 19) (v := _) rfl (by kernel_rfl) (by kernel_rfl) (by kernel_rfl) (fun _ _ _ h => h) (Or.inr ⟨by rfl, rfl⟩) (by assumption) ?_
  try simp only [List.getElem_toArray, List.getElem_cons_succ, List.getElem_cons_zero, Act.put, List.setIfInBounds_toArray, List.set_cons_zero, List.set_cons_succ]
  refine wpAnyH_take (i := 20) (v := _) rfl (by kernel_rfl) (by kernel_rfl) (by kernel_rfl) (fun _ _ _ h => h) (Or.inr ⟨by rfl, rfl⟩) (by assumption) ?_
  try simp only [List.getElem_toArray, List.getElem_cons_succ, List.getElem_cons_zero, Act.put, List.setIfInBounds_toArray, List.set_cons_zero, List.set_cons_succ]
  refine wpAnyH_take (i := 21) (v := _) rfl (by kernel_rfl) (by kernel_rfl) (by kernel_rfl) (fun _ _ _ h => h) (Or.inr ⟨by rfl, rfl⟩) (by assumption) ?_
  try simp only [List.getElem_toArray, List.getElem_cons_succ, List.getElem_cons_zero, Act.put, List.setIfInBounds_toArray, List.set_cons_zero, List.set_cons_succ]
  refine wpAnyH_take (i := 22) (v := _) rfl (by kernel_rfl) (by kernel_rfl) (by kernel_rfl) (fun _ _ _ h => h) (Or.inr ⟨by rfl, rfl⟩) (by assumption) ?_
  try simp only [List.getElem_toArray, List.getElem_cons_succ, List.getElem_cons_zero, Act.put, List.setIfInBounds_toArray, List.set_cons_zero, List.set_cons_succ]
  refine wpAnyH_take (i := 23) (v := _) rfl (by kernel_rfl) (by kernel_rfl) (by kernel_rfl) (fun _ _ _ h => h) (Or.inr ⟨by rfl, rfl⟩) (by assumption) ?_
  try simp only [List.getElem_toArray, List.getElem_cons_succ, List.getElem_cons_zero, Act.put, List.setIfInBounds_toArray, List.set_cons_zero, List.set_cons_succ]
  refine wpAnyH_take (i := 24) (v := _) rfl (by kernel_rfl) (by kernel_rfl) (by kernel_rfl) (fun _ _ _ h => h) (Or.inr ⟨by rfl, rfl⟩) (by assumption) ?_
  try simp only [List.getElem_toArray, List.getElem_cons_succ, List.getElem_cons_zero, Act.put, List.setIfInBounds_toArray, List.set_cons_zero, List.set_cons_succ]
  refine wpAnyH_take (i := 25) (v := ?_) rfl (by kernel_rfl) (by kernel_rfl) (by kernel_rfl) (fun _ _ _ h => h) (Or.inl ⟨by rfl, fun w hSw => ?_⟩) (by assumption) ?_
  rotate_left
  · (try dsimp only at hSw); go_simp; (try with_reducible rfl)
  try simp only [List.getElem_toArray, List.getElem_cons_succ, List.getElem_cons_zero, Act.put, List.setIfInBounds_toArray, List.set_cons_zero, List.set_cons_succ]
  refine wpAnyH_take (i := 26) (v := ?_) rfl (by kernel_rfl) (by kernel_rfl) (by kernel_rfl) (fun _ _ _ h => h) (Or.inl ⟨by rfl, fun w hSw => ?_⟩) (by assumption) ?_
  rotate_left
  · (try dsimp only at hSw); go_simp; (try with_reducible rfl)
  try simp only [List.getElem_toArray, List.getElem_cons_succ, List.getElem_cons_zero, Act.put, List.setIfInBounds_toArray, List.set_cons_zero, List.set_cons_succ]
  refine wpAnyH_done (by kernel_rfl) ?_ _
  go_wp2_with (first
    | (go_at_call 6; (with_reducible refine (CS.out _ D3z.out).mono ?_); rintro e w4 ⟨gs, cs, rfl, ho, hcs, hb⟩; have S4 := Lib.hid ho; have D4 := Lib.hid (D3z.out.trans (hb.mono D3z.out.size)); clear ho hb)
    | (go_at_call 11; (with_reducible refine (CO2.out _ _ (rowB S4.out)).mono ?_); rintro e w5 ⟨pj, cj, rfl, hr, hb⟩; have ht5 := text_run hr; have S5 := Lib.hid (own_below S4.out hb); have D5 := Lib.hid (D4.out.trans (hb.mono D4.out.size)); have hst5 := HSt.out _ D5.out; clear hr hb))
  have S6 := Lib.hid (own_below S5.out (Below.refl w5.heap.size w5).drew)
  have D6 := Lib.hid D5.out.drew
  obtain ⟨c6, f6⟩ := HGet.out _ _ _ _ S6.out
  refine wp_region_held_drew (S := (fun w' => True)) (by kernel_rfl) trivial (fun hHeld => ?_)
  refine wpAnyH_take (i := 0) (v := ?_) rfl (by kernel_rfl) (by kernel_rfl) (by kernel_rfl) (fun _ _ _ h => h) (Or.inl ⟨by rfl, fun w hSw => ?_⟩) (by assumption) ?_
  rotate_left
  · (try dsimp only at hSw); go_simp; (try with_reducible rfl)
  try simp only [List.getElem_toArray, List.getElem_cons_succ, List.getElem_cons_zero, Act.put, List.setIfInBounds_toArray, List.set_cons_zero, List.set_cons_succ]
  refine wpAnyH_take (i := 1) (v := ?_) rfl (by kernel_rfl) (by kernel_rfl) (by kernel_rfl) (fun _ _ _ h => h) (Or.inl ⟨by rfl, fun w hSw => ?_⟩) (by assumption) ?_
  rotate_left
  · (try dsimp only at hSw); go_simp; (try with_reducible rfl)
  try simp only [List.getElem_toArray, List.getElem_cons_succ, List.getElem_cons_zero, Act.put, List.setIfInBounds_toArray, List.set_cons_zero, List.set_cons_succ]
  refine wpAnyH_take (i := 3) (v := ?_) rfl (by kernel_rfl) (by kernel_rfl) (by kernel_rfl) (fun _ _ _ h => h) (Or.inl ⟨by rfl, fun w hSw => ?_⟩) (by assumption) ?_
  rotate_left
  · (try dsimp only at hSw); go_simp; (try with_reducible rfl)
  try simp only [List.getElem_toArray, List.getElem_cons_succ, List.getElem_cons_zero, Act.put, List.setIfInBounds_toArray, List.set_cons_zero, List.set_cons_succ]
  refine wpAnyH_take (i := 6) (v := ?_) rfl (by kernel_rfl) (by kernel_rfl) (by kernel_rfl) (fun _ _ _ h => h) (Or.inl ⟨by rfl, fun w hSw => ?_⟩) (by assumption) ?_
  rotate_left
  · (try dsimp only at hSw); go_simp; (try with_reducible rfl)
  try simp only [List.getElem_toArray, List.getElem_cons_succ, List.getElem_cons_zero, Act.put, List.setIfInBounds_toArray, List.set_cons_zero, List.set_cons_succ]
  refine wpAnyH_take (i := 7) (v := ?_) rfl (by kernel_rfl) (by kernel_rfl) (by kernel_rfl) (fun _ _ _ h => h) (Or.inl ⟨by rfl, fun w hSw => ?_⟩) (by assumption) ?_
  rotate_left
  · (try dsimp only at hSw); go_simp; (try with_reducible rfl)
  try simp only [List.getElem_toArray, List.getElem_cons_succ, List.getElem_cons_zero, Act.put, List.setIfInBounds_toArray, List.set_cons_zero, List.set_cons_succ]
  refine wpAnyH_take (i := 9) (v := ?_) rfl (by kernel_rfl) (by kernel_rfl) (by kernel_rfl) (fun _ _ _ h => h) (Or.inl ⟨by rfl, fun w hSw => ?_⟩) (by assumption) ?_
  rotate_left
  · (try dsimp only at hSw); go_simp; (try with_reducible rfl)
  try simp only [List.getElem_toArray, List.getElem_cons_succ, List.getElem_cons_zero, Act.put, List.setIfInBounds_toArray, List.set_cons_zero, List.set_cons_succ]
  refine wpAnyH_take (i := 14) (v := ?_) rfl (by kernel_rfl) (by kernel_rfl) (by kernel_rfl) (fun _ _ _ h => h) (Or.inl ⟨by rfl, fun w hSw => ?_⟩) (by assumption) ?_
  rotate_left
  · (try dsimp only at hSw); go_simp; (try with_reducible rfl)
  try simp only [List.getElem_toArray, List.getElem_cons_succ, List.getElem_cons_zero, Act.put, List.setIfInBounds_toArray, List.set_cons_zero, List.set_cons_succ]
  refine wpAnyH_take (i := 2) (v := ?_) rfl (by kernel_rfl) (by kernel_rfl) (by kernel_rfl) (fun _ _ _ h => h) (Or.inl ⟨by rfl, fun w hSw => ?_⟩) (by assumption) ?_
  rotate_left
  · (try dsimp only at hSw); go_simp; (try with_reducible rfl)
  try simp only [List.getElem_toArray, List.getElem_cons_succ, List.getElem_cons_zero, Act.put, List.setIfInBounds_toArray, List.set_cons_zero, List.set_cons_succ]
  refine wpAnyH_take (i := 4) (v := ?_) rfl (by kernel_rfl) (by kernel_rfl) (by kernel_rfl) (fun _ _ _ h => h) (Or.inl ⟨by rfl, fun w hSw => ?_⟩) (by assumption) ?_
  rotate_left
  · (try dsimp only at hSw); go_simp; (try with_reducible rfl)
  try simp only [List.getElem_toArray, List.getElem_cons_succ, List.getElem_cons_zero, Act.put, List.setIfInBounds_toArray, List.set_cons_zero, List.set_cons_succ]
  refine wpAnyH_take (i := 8) (v := ?_) rfl (by kernel_rfl) (by kernel_rfl) (by kernel_rfl) (fun _ _ _ h => h) (Or.inl ⟨by rfl, fun w hSw => ?_⟩) (by assumption) ?_
  rotate_left
  · (try dsimp only at hSw); go_simp; (try with_reducible rfl)
  try simp only [List.getElem_toArray, List.getElem_cons_succ, List.getElem_cons_zero, Act.put, List.setIfInBounds_toArray, List.set_cons_zero, List.set_cons_succ]
  refine wpAnyH_take (i := 10) (v := ?_) rfl (by kernel_rfl) (by kernel_rfl) (by kernel_rfl) (fun _ _ _ h => h) (Or.inl ⟨by rfl, fun w hSw => ?_⟩) (by assumption) ?_
  rotate_left
  · (try dsimp only at hSw); go_simp; (try with_reducible rfl)
  try simp only [List.getElem_toArray, List.getElem_cons_succ, List.getElem_cons_zero, Act.put, List.setIfInBounds_toArray, List.set_cons_zero, List.set_cons_succ]
  refine wpAnyH_take (i := 5) (v := ?_) rfl (by kernel_rfl) (by kernel_rfl) (by kernel_rfl) (fun _ _ _ h => h) (Or.inl ⟨by rfl, fun w hSw => ?_⟩) (by assumption) ?_
  rotate_left
  · (try dsimp only at hSw); go_simp; (try with_reducible rfl)
  try simp only [List.getElem_toArray, List.getElem_cons_succ, List.getElem_cons_zero, Act.put, List.setIfInBounds_toArray, List.set_cons_zero, List.set_cons_succ]
  refine wpAnyH_take (i := 11) (v := ?_) rfl (by kernel_rfl) (by kernel_rfl) (by kernel_rfl) (fun _ _ _ h => h) (Or.inl ⟨by rfl, fun w hSw => ?_⟩) (by assumption) ?_
  rotate_left
  · (try dsimp only at hSw); go_simp; (try with_reducible rfl)
  try simp only [List.getElem_toArray, List.getElem_cons_succ, List.getElem_cons_zero, Act.put, List.setIfInBounds_toArray, List.set_cons_zero, List.set_cons_succ]
  refine wpAnyH_take (i := 12) (v := ?_) rfl (by kernel_rfl) (by kernel_rfl) (by kernel_rfl) (fun _ _ _ h => h) (Or.inl ⟨by rfl, fun w hSw => ?_⟩) (by assumption) ?_
  rotate_left
  · (try dsimp only at hSw); go_simp; (try with_reducible rfl)
  try simp only [List.getElem_toArray, List.getElem_cons_succ, List.getElem_cons_zero, Act.put, List.setIfInBounds_toArray, List.set_cons_zero, List.set_cons_succ]
  refine wpAnyH_ready (rs := [13]) (by kernel_rfl) (by simp) ?_
  refine AllReadyH.cons rfl (fun K hK => ?_) ?_
  rotate_left
  · exact AllReadyH.nil
  go_simp
  skip
  refine hK.out _ _ ?_ (fun hHeld => ?_)
  · trivial
  clear hK K
  try simp only [List.getElem_toArray, List.getElem_cons_succ, List.getElem_cons_zero, Act.put, List.setIfInBounds_toArray, List.set_cons_zero, List.set_cons_succ]
  refine wpAnyH_take (i := 15) (v := ?_) rfl (by kernel_rfl) (by kernel_rfl) (by kernel_rfl) (fun _ _ _ h => h) (Or.inl ⟨by rfl, fun w hSw => ?_⟩) (by assumption) ?_
  rotate_left
  · (try dsimp only at hSw); go_simp; (try with_reducible rfl)
  try simp only [List.getElem_toArray, List.getElem_cons_succ, List.getElem_cons_zero, Act.put, List.setIfInBounds_toArray, List.set_cons_zero, List.set_cons_succ]
  refine wpAnyH_take (i := 16) (v := ?_) rfl (by kernel_rfl) (by kernel_rfl) (by kernel_rfl) (fun _ _ _ h => h) (Or.inl ⟨by rfl, fun w hSw => ?_⟩) (by assumption) ?_
  rotate_left
  · (try dsimp only at hSw); go_simp; (try with_reducible rfl)
  try simp only [List.getElem_toArray, List.getElem_cons_succ, List.getElem_cons_zero, Act.put, List.setIfInBounds_toArray, List.set_cons_zero, List.set_cons_succ]
  refine wpAnyH_ready (rs := [17]) (by kernel_rfl) (by simp) ?_
  refine AllReadyH.cons rfl (fun K hK => ?_) ?_
  rotate_left
  · exact AllReadyH.nil
  go_simp
  skip
  refine hK.out _ _ ?_ (fun hHeld => ?_)
  · trivial
  clear hK K
  try simp only [List.getElem_toArray, List.getElem_cons_succ, List.getElem_cons_zero, Act.put, List.setIfInBounds_toArray, List.set_cons_zero, List.set_cons_succ]
  refine wpAnyH_done (by kernel_rfl) ?_ _
  have X7 := Lib.hid ((HSet.out _ _ _ _ S5.out).on (Below.refl _ _).drew)
  have D7 := Lib.hid (set_below D5.out S5.out D3z.out.size i (.int .u8 x')).drew
  go_wp2_with (first
    | (go_at_call 11; (with_reducible refine (CO3.out _ _ X7.out).mono ?_); rintro e w8 ⟨pk, nk, ck, rfl, hb⟩; have D8 := Lib.hid (D7.out.trans (hb.mono D7.out.size)); clear hb)
    | (go_at_call 5; (with_reducible refine (CW.out _).mono ?_); rintro e w9 ⟨rfl, hb⟩; have D9 := Lib.hid (D8.out.trans (hb.mono D8.out.size)); clear hb))
  go_ret
  exact ⟨rfl, D9.out⟩

set_option maxHeartbeats 16000000 in
set_option maxRecDepth 100000 in
theorem opens_bad (v : Value) (zs : List UInt8) (at' by' : Nat) (w : World) (h : layB.Row w v zs) (hl : zs.length ≤ 2000) (hat : at' < 65536) (hby : by' < 256) (k : Nat) (hk : zs.length = k + 8) (hd : ¬ zs.drop k = big (dg (zs.take k))) : Calls Try.prog 4 #[v, .int .u16 at', .int .u8 by'] w (RetBelow (.bool true) w) := by
  have hrow := h
  obtain ⟨p, cap, rfl, g1, g2, -⟩ := h
  have CW := Lib.hid play_any
  have hsl := seal_len zs
  have HO1 : Hid (OwnB (w.alloc (.cells #[] 5)) w.heap.size (.slice (some ⟨w.heap.size, 0, none⟩) 0 0) []) := Lib.hid (made_none w)
  have D0 := Lib.hid (below_one w (.cells #[] 5))
  have CO1 : Hid (∀ W V, layB.Row W V zs → Calls Try.prog 11 #[V] W (GivesOx [] 0 21 W)) := Lib.hid fun W V hr => (open_any V zs W hr (by omega)).mono fun e w' h => opn_out h (bad_opn hk hd) rfl
  have CS : Hid (∀ W, Below w.heap.size w W → Calls Try.prog 6 #[.slice p zs.length cap] W (GivesG (sealt zs) (zs.length + 8) W)) := Lib.hid fun W hb => (seal_any _ zs W (hrow.on hb) (by omega)).mono fun e w' h => gives_g h hsl (by omega)
  have CO2 : Hid (∀ W V, layB.Row W V (sealt zs) → Calls Try.prog 11 #[V] W (GivesOx zs zs.length 0 W)) := Lib.hid fun W V hr => (open_any V _ W hr (by omega)).mono fun e w' h => opn_out h (opn_seal zs) rfl
  have HL : Hid (([] : List UInt8).length + zs.length ≤ 1000000) := Lib.hid (by rw [List.length_nil]; omega)
  have HRow : Hid (∀ W, Below w.heap.size w W → layB.Row W (.slice p zs.length cap) zs) := Lib.hid fun W hb => hrow.on hb
  have HSt : Hid (∀ W, Below w.heap.size w W → (convert 22 9 (.slice p zs.length cap)).run Try.prog W = .ok (.string (str zs)) W) := Lib.hid fun W hb => text_run (hrow.on hb)
  -- the place, the byte there, what it becomes
  obtain ⟨i, hi⟩ : ∃ i, at' % (zs.length + 8) = i := ⟨_, rfl⟩
  have hil : i < zs.length + 8 := by rw [← hi]; exact Nat.mod_lt _ (by omega)
  have hrem := rem_run at' (zs.length + 8) (by omega)
  rw [hi, Int.natCast_add, show ((8 : Nat) : Int) = 8 from rfl] at hrem
  obtain ⟨c, hc⟩ : ∃ c, layB.at (sealt zs) i = c := ⟨_, rfl⟩
  obtain ⟨c', hadd, hsame⟩ := add_byte c by'
  obtain ⟨ee, hee⟩ : ∃ ee, (opn ((sealt zs).set i c')).2 = ee := ⟨_, rfl⟩
  have CO3 : Hid (∀ W V, layB.Row W V ((sealt zs).set i c') → Calls Try.prog 11 #[V] W (GivesE ee W)) := Lib.hid fun W V hr => (open_any V _ W hr (by rw [List.length_set]; omega)).mono fun e w' h => opn_err' h hee
  have HGet : Hid (∀ W base g cs, OwnB W base (.slice (some ⟨g, 0, none⟩) (zs.length + 8) cs) (sealt zs) → W.cell? ⟨g, i, none⟩ = some (.int .u8 (c.toNat : Int)) ∧ W.frozen? ⟨g, i, none⟩ = false) := Lib.hid fun W base g cs h => own_get h hsl hil hc
  have HSet : Hid (∀ W base g cs, OwnB W base (.slice (some ⟨g, 0, none⟩) (zs.length + 8) cs) (sealt zs) → layB.Row (W.setCell ⟨g, i, none⟩ (.int .u8 (c'.toNat : Int))) (.slice (some ⟨g, 0, none⟩) (zs.length + 8) cs) ((sealt zs).set i c')) := Lib.hid fun W base g cs h => own_set h hsl i c' _ rfl
  have hz0 : (ee = 0 ↔ by' = 0) := by
    rw [← hee, opn_set zs (by omega) c', ← layB.at_get (by omega), hc, hsame hby]
  obtain ⟨t, ht1, ht2⟩ : ∃ t : Bool, ((ee : Int) == 0) = t ∧ ((by' : Int) == 0) = t := by
    by_cases hb0 : by' = 0
    · exact ⟨true, by rw [beq_iff_eq]; have := hz0.2 hb0; omega, by rw [beq_iff_eq]; omega⟩
    · exact ⟨false, by rw [beq_eq_false_iff_ne]; have := fun h => hb0 (hz0.1 h); omega, by rw [beq_eq_false_iff_ne]; omega⟩
  have hbe : (t == t) = true := by cases t <;> rfl
  have i0 : (0 : Int) ≤ i := by omega
  have i1 : (i : Int) < (zs.length : Int) + 8 := by omega
  have a4 : (zs.length : Int) ≤ 2000 := by omega
  have a5 : (0 : Int) ≤ at' := by omega
  have a6 : (at' : Int) < 65536 := by omega
  have a7 : (0 : Int) ≤ by' := by omega
  have a8 : (by' : Int) < 256 := by omega
  have ne8 : ((zs.length : Int) + 8) ≠ 0 := by omega
  have kL : k + 8 = zs.length := hk.symm
  have n0 : (zs.length : Int) - 8 = k := by omega
  have k0 : (0 : Int) ≤ k := by omega
  have k1 : ¬ (k : Int) < 0 := by omega
  have k2 : (k : Int) ≤ zs.length := by omega
  have k3 : (k : Int) ≤ cap := by omega
  have k4 : k ≤ cap := by omega
  have k5 : k ≤ zs.length := by omega
  have r1 := row_cut hrow k zs.length cap (by omega) (Nat.le_refl _) (by omega) g2
  rw [List.take_length] at r1
  have r2 := row_cut hrow 0 k cap (Nat.zero_le _) (by omega) (by omega) g2
  rw [cutq_none, List.drop_zero, Nat.sub_zero, Nat.sub_zero] at r2
  have hcut1 := fun w => cut_from p zs.length cap k (by omega) w
  have HS1 : Hid (∀ W, Below w.heap.size w W → (convert 22 9 (.slice (cutq p k cap) (zs.length - k) (cap - k))).run Try.prog W = .ok (.string (str (zs.drop k))) W) := Lib.hid fun W hb => text_run (r1.on hb)
  have HS2 : Hid (∀ W, Below w.heap.size w W → (convert 22 9 (.slice p k cap)).run Try.prog W = .ok (.string (str (zs.take k))) W) := Lib.hid fun W hb => text_run (r2.on hb)
  have CR : Hid (∀ W, Below w.heap.size w W → Calls Try.prog 8 #[.slice p k cap] W fun e w' => e = .returned (.int .u64 (dg (zs.take k) : Nat)) ∧ W = w') := Lib.hid fun W hb => refof_any _ _ W (r2.on hb)
  have hD := dg_lt (zs.take k)
  have CD : Hid (∀ W, Calls Try.prog 10 #[.int .u64 (dg (zs.take k))] W (GivesR (big (dg (zs.take k))) 8 W)) := Lib.hid fun W => (big_any _ W hD).mono fun e w' h => gives_row h rfl (big_len _)
  have hq : ((str (zs.drop k)).toList == (str (big (dg (zs.take k)))).toList) = false := by rw [str_beq, beq_eq_false_iff_ne]; exact hd
  obtain ⟨L, hL⟩ : ∃ L, zs.length = L := ⟨_, rfl⟩
  rw [hL] at CS CO2 HRow HSt HGet HSet hrem i1 a4 ne8 n0 g1 HS1 hcut1 k2 k5 kL ⊢
  generalize cutq p k cap = q1 at HS1 hcut1
  generalize L - k = m1 at HS1 hcut1
  generalize cap - k = m2 at HS1 hcut1
  generalize big (dg (zs.take k)) = bg at CD hq
  generalize dg (zs.take k) = dk at CR CD
  generalize zs.take k = tk at HS2
  clear r1 r2 hD kL
  generalize sealt zs = sl at CS CO2 CO3 HGet HSet
  generalize sl.set i c' = sx at CO3 HSet
  generalize c'.toNat = x' at hadd HSet
  generalize c.toNat = x at hadd HGet
  have wA : IntKind.i64.wrap (at' : Int) = at' := IntWalk.i64_in _ (by omega)
  generalize (at' : Int) = A at hrem a5 a6 wA ⊢
  generalize (by' : Int) = B at hadd ht2 a7 a8 ⊢
  clear hrow hl hsl hL hi hil hc hsame hee hz0 hat hby hk hd
  go_enter Try.func4, Try.ntmps4
  go_wp2_with (first
    | (at_builtin; refine wp_rows rfl _ _ rfl w.heap.size _ [] rfl HO1.out D0.out.size (.slice p L cap) zs rfl (HRow.out _ D0.out) HL.out ?_; intro u2 w2 HO2 HB2; have D2 := Lib.hid (D0.out.trans HB2.out))
    | (go_at_call 11; (with_reducible refine (CO1.out _ _ (rowB HO2.out)).mono ?_); rintro e w3 ⟨pi, ci, rfl, hr, hb⟩; have X3 := Lib.hid hr; have D3 := Lib.hid (D2.out.trans (hb.mono D2.out.size)); clear hr hb))
  have HSA : Hid (∀ w', Below w3.heap.size w3 w' → Below w.heap.size w w' ∧ (convert 22 9 (.slice q1 m1 m2)).run Try.prog w' = .ok (.string (str (zs.drop k))) w') := Lib.hid fun W hb => ⟨D3.out.trans (hb.mono D3.out.size), HS1.out _ (D3.out.trans (hb.mono D3.out.size))⟩
  have R3 := Lib.hid (Below.refl w3.heap.size w3).drew
  refine wp_region_held_drew (S := (fun w' => Below w.heap.size w w' ∧ (convert 22 9 (.slice q1 m1 m2)).run Try.prog w' = .ok (.string (str (zs.drop k))) w')) (by kernel_rfl) (HSA.out _ R3.out) (fun hHeld => ?_)
  refine wpAnyH_take (i := 0) (v := ?_) rfl (by kernel_rfl) (by kernel_rfl) (by kernel_rfl) (fun _ _ _ h => h) (Or.inl ⟨by rfl, fun w hSw => ?_⟩) (by assumption) ?_
  rotate_left
  · (try dsimp only at hSw); go_simp; (try with_reducible rfl)
  try simp only [List.getElem_toArray, List.getElem_cons_succ, List.getElem_cons_zero, Act.put, List.setIfInBounds_toArray, List.set_cons_zero, List.set_cons_succ]
  refine wpAnyH_take (i := 1) (v := ?_) rfl (by kernel_rfl) (by kernel_rfl) (by kernel_rfl) (fun _ _ _ h => h) (Or.inl ⟨by rfl, fun w hSw => ?_⟩) (by assumption) ?_
  rotate_left
  · (try dsimp only at hSw); go_simp; (try with_reducible rfl)
  try simp only [List.getElem_toArray, List.getElem_cons_succ, List.getElem_cons_zero, Act.put, List.setIfInBounds_toArray, List.set_cons_zero, List.set_cons_succ]
  refine wpAnyH_take (i := 2) (v := .slice q1 m1 m2) rfl (by kernel_rfl) (by kernel_rfl) (by kernel_rfl) (fun _ _ _ h => h) (Or.inl ⟨by rfl, fun w hSw => ?_⟩) (by assumption) ?_
  · exact slice_from_run _ _ _ _ _ _ rfl (hcut1 _)
  try simp only [List.getElem_toArray, List.getElem_cons_succ, List.getElem_cons_zero, Act.put, List.setIfInBounds_toArray, List.set_cons_zero, List.set_cons_succ]
  refine wpAnyH_take (i := 3) (v := ?_) rfl (by kernel_rfl) (by kernel_rfl) (by kernel_rfl) (fun _ _ _ h => h) (Or.inl ⟨by rfl, fun w hSw => ?_⟩) (by assumption) ?_
  rotate_left
  · (try dsimp only at hSw); go_simp; (try with_reducible rfl)
  try simp only [List.getElem_toArray, List.getElem_cons_succ, List.getElem_cons_zero, Act.put, List.setIfInBounds_toArray, List.set_cons_zero, List.set_cons_succ]
  refine wpAnyH_take (i := 4) (v := ?_) rfl (by kernel_rfl) (by kernel_rfl) (by kernel_rfl) (fun _ _ _ h => h) (Or.inl ⟨by rfl, fun w hSw => ?_⟩) (by assumption) ?_
  rotate_left
  · (try dsimp only at hSw); go_simp; (try with_reducible rfl)
  try simp only [List.getElem_toArray, List.getElem_cons_succ, List.getElem_cons_zero, Act.put, List.setIfInBounds_toArray, List.set_cons_zero, List.set_cons_succ]
  refine wpAnyH_take (i := 5) (v := ?_) rfl (by kernel_rfl) (by kernel_rfl) (by kernel_rfl) (fun _ _ _ h => h) (Or.inl ⟨by rfl, fun w hSw => ?_⟩) (by assumption) ?_
  rotate_left
  · (try dsimp only at hSw); go_simp; (try with_reducible rfl)
  try simp only [List.getElem_toArray, List.getElem_cons_succ, List.getElem_cons_zero, Act.put, List.setIfInBounds_toArray, List.set_cons_zero, List.set_cons_succ]
  refine wpAnyH_take (i := 6) (v := ?_) rfl (by kernel_rfl) (by kernel_rfl) (by kernel_rfl) (fun _ _ _ h => h) (Or.inl ⟨by rfl, fun w hSw => ?_⟩) (by assumption) ?_
  rotate_left
  · (try dsimp only at hSw); go_simp; (try with_reducible rfl)
  try simp only [List.getElem_toArray, List.getElem_cons_succ, List.getElem_cons_zero, Act.put, List.setIfInBounds_toArray, List.set_cons_zero, List.set_cons_succ]
  refine wpAnyH_ready (rs := [7]) (by kernel_rfl) (by simp) ?_
  refine AllReadyH.cons rfl (fun K hK => ?_) ?_
  rotate_left
  · exact AllReadyH.nil
  go_simp
  (go_at_call 8; (with_reducible refine (CR.out _ hHeld.1).mono ?_); rintro e wx ⟨rfl, rfl⟩)
  refine hK.out _ _ ?_ (fun hHeld => ?_)
  · exact hHeld
  clear hK K
  try simp only [List.getElem_toArray, List.getElem_cons_succ, List.getElem_cons_zero, Act.put, List.setIfInBounds_toArray, List.set_cons_zero, List.set_cons_succ]
  refine wpAnyH_ready (rs := [8]) (by kernel_rfl) (by simp) ?_
  refine AllReadyH.cons rfl (fun K hK => ?_) ?_
  rotate_left
  · exact AllReadyH.nil
  go_simp
  (go_at_call 10; (with_reducible refine (CD.out _).mono ?_); rintro e wb ⟨pb, cb, rfl, hcb, hr, hb⟩; have Rb := Lib.hid (R3.out.trans (hb.mono R3.out.size)); have htb := text_run hr; clear hr hb)
  refine hK.out _ _ ?_ (fun hHeld => ?_)
  · exact HSA.out _ Rb.out
  clear hK K
  try simp only [List.getElem_toArray, List.getElem_cons_succ, List.getElem_cons_zero, Act.put, List.setIfInBounds_toArray, List.set_cons_zero, List.set_cons_succ]
  refine wpAnyH_ready (rs := [9]) (by kernel_rfl) (by simp) ?_
  refine AllReadyH.cons rfl (fun K hK => ?_) ?_
  rotate_left
  · exact AllReadyH.nil
  go_simp
  skip
  refine hK.out _ _ ?_ (fun hHeld => ?_)
  · exact HSA.out _ Rb.out
  clear hK K
  try simp only [List.getElem_toArray, List.getElem_cons_succ, List.getElem_cons_zero, Act.put, List.setIfInBounds_toArray, List.set_cons_zero, List.set_cons_succ]
  refine wpAnyH_take (i := 10) (v := ?_) rfl (by kernel_rfl) (by kernel_rfl) (by kernel_rfl) (fun _ _ _ h => h) (Or.inl ⟨by rfl, fun w hSw => ?_⟩) (by assumption) ?_
  rotate_left
  · (try dsimp only at hSw); go_simp; (try with_reducible rfl)
  try simp only [List.getElem_toArray, List.getElem_cons_succ, List.getElem_cons_zero, Act.put, List.setIfInBounds_toArray, List.set_cons_zero, List.set_cons_succ]
  refine wpAnyH_take (i := 11) (v := ?_) rfl (by kernel_rfl) (by kernel_rfl) (by kernel_rfl) (fun _ _ _ h => h) (Or.inl ⟨by rfl, fun w hSw => ?_⟩) (by assumption) ?_
  rotate_left
  · (try dsimp only at hSw); go_simp; (try with_reducible rfl)
  try simp only [List.getElem_toArray, List.getElem_cons_succ, List.getElem_cons_zero, Act.put, List.setIfInBounds_toArray, List.set_cons_zero, List.set_cons_succ]
  refine wpAnyH_done (by kernel_rfl) ?_ _
  go_wp2
  have D3y := Lib.hid (D3.out.trans (Rb.out.mono D3.out.size))
  have D3z := Lib.hid D3y.out.drew
  have HSB : Hid ((fun w' => (convert 22 9 (.slice pi 0 ci)).run Try.prog w' = .ok (.string (str [])) w' ∧ (convert 22 9 (.slice p k cap)).run Try.prog w' = .ok (.string (str tk)) w') wb.drew) := Lib.hid ⟨text_run ((X3.out.on Rb.out).on (Below.refl _ _).drew), HS2.out _ D3z.out⟩
  refine wp_region_held_drew (S := (fun w' => (convert 22 9 (.slice pi 0 ci)).run Try.prog w' = .ok (.string (str [])) w' ∧ (convert 22 9 (.slice p k cap)).run Try.prog w' = .ok (.string (str tk)) w')) (by kernel_rfl) HSB.out (fun hHeld => ?_)
  refine wpAnyH_take (i := 0) (v := ?_) rfl (by kernel_rfl) (by kernel_rfl) (by kernel_rfl) (fun _ _ _ h => h) (Or.inl ⟨by rfl, fun w hSw => ?_⟩) (by assumption) ?_
  rotate_left
  · (try dsimp only at hSw); go_simp; (try with_reducible rfl)
  try simp only [List.getElem_toArray, List.getElem_cons_succ, List.getElem_cons_zero, Act.put, List.setIfInBounds_toArray, List.set_cons_zero, List.set_cons_succ]
  refine wpAnyH_take (i := 1) (v := ?_) rfl (by kernel_rfl) (by kernel_rfl) (by kernel_rfl) (fun _ _ _ h => h) (Or.inl ⟨by rfl, fun w hSw => ?_⟩) (by assumption) ?_
  rotate_left
  · (try dsimp only at hSw); go_simp; (try with_reducible rfl)
  try simp only [List.getElem_toArray, List.getElem_cons_succ, List.getElem_cons_zero, Act.put, List.setIfInBounds_toArray, List.set_cons_zero, List.set_cons_succ]
  refine wpAnyH_take (i := 2) (v := _) rfl (by kernel_rfl) (by kernel_rfl) (by kernel_rfl) (fun _ _ _ h => h) (Or.inr ⟨by rfl, rfl⟩) (by assumption) ?_
  try simp only [List.getElem_toArray, List.getElem_cons_succ, List.getElem_cons_zero, Act.put, List.setIfInBounds_toArray, List.set_cons_zero, List.set_cons_succ]
  refine wpAnyH_take (i := 3) (v := _) rfl (by kernel_rfl) (by kernel_rfl) (by kernel_rfl) (fun _ _ _ h => h) (Or.inr ⟨by rfl, rfl⟩) (by assumption) ?_
  try simp only [List.getElem_toArray, List.getElem_cons_succ, List.getElem_cons_zero, Act.put, List.setIfInBounds_toArray, List.set_cons_zero, List.set_cons_succ]
  refine wpAnyH_take (i := 4) (v := _) rfl (by kernel_rfl) (by kernel_rfl) (by kernel_rfl) (fun _ _ _ h => h) (Or.inr ⟨by rfl, rfl⟩) (by assumption) ?_
  try simp only [List.getElem_toArray, List.getElem_cons_succ, List.getElem_cons_zero, Act.put, List.setIfInBounds_toArray, List.set_cons_zero, List.set_cons_succ]
  refine wpAnyH_take (i := 5) (v := _) rfl (by kernel_rfl) (by kernel_rfl) (by kernel_rfl) (fun _ _ _ h => h) (Or.inr ⟨by rfl, rfl⟩) (by assumption) ?_
  try simp only [List.getElem_toArray, List.getElem_cons_succ, List.getElem_cons_zero, Act.put, List.setIfInBounds_toArray, List.set_cons_zero, List.set_cons_succ]
  refine wpAnyH_take (i := 6) (v := _) rfl (by kernel_rfl) (by kernel_rfl) (by kernel_rfl) (fun _ _ _ h => h) (Or.inr ⟨by rfl, rfl⟩) (by assumption) ?_
  try simp only [List.getElem_toArray, List.getElem_cons_succ, List.getElem_cons_zero, Act.put, List.setIfInBounds_toArray, List.set_cons_zero, List.set_cons_succ]
  refine wpAnyH_take (i := 7) (v := _) rfl (by kernel_rfl) (by kernel_rfl) (by kernel_rfl) (fun _ _ _ h => h) (Or.inr ⟨by rfl, rfl⟩) (by assumption) ?_
  try simp only [List.getElem_toArray, List.getElem_cons_succ, List.getElem_cons_zero, Act.put, List.setIfInBounds_toArray, List.set_cons_zero, List.set_cons_succ]
  refine wpAnyH_take (i := 8) (v := _) rfl (by kernel_rfl) (by kernel_rfl) (by kernel_rfl) (fun _ _ _ h => h) (Or.inr ⟨by rfl, rfl⟩) (by assumption) ?_
  try simp only [List.getElem_toArray, List.getElem_cons_succ, List.getElem_cons_zero, Act.put, List.setIfInBounds_toArray, List.set_cons_zero, List.set_cons_succ]
  refine wpAnyH_take (i := 9) (v := _) rfl (by kernel_rfl) (by kernel_rfl) (by kernel_rfl) (fun _ _ _ h => h) (Or.inr ⟨by rfl, rfl⟩) (by assumption) ?_
  try simp only [List.getElem_toArray, List.getElem_cons_succ, List.getElem_cons_zero, Act.put, List.setIfInBounds_toArray, List.set_cons_zero, List.set_cons_succ]
  refine wpAnyH_take (i := 10) (v := _) rfl (by kernel_rfl) (by kernel_rfl) (by kernel_rfl) (fun _ _ _ h => h) (Or.inr ⟨by rfl, rfl⟩) (by assumption) ?_
  try simp only [List.getElem_toArray, List.getElem_cons_succ, List.getElem_cons_zero, Act.put, List.setIfInBounds_toArray, List.set_cons_zero, List.set_cons_succ]
  refine wpAnyH_take (i := 11) (v := _) rfl (by kernel_rfl) (by kernel_rfl) (by kernel_rfl) (fun _ _ _ h => h) (Or.inr ⟨by rfl, rfl⟩) (by assumption) ?_
  try simp only [List.getElem_toArray, List.getElem_cons_succ, List.getElem_cons_zero, Act.put, List.setIfInBounds_toArray, List.set_cons_zero, List.set_cons_succ]
  refine wpAnyH_take (i := 12) (v := _) rfl (by kernel_rfl) (by kernel_rfl) (by kernel_rfl) (fun _ _ _ h => h) (Or.inr ⟨by rfl, rfl⟩) (by assumption) ?_
  try simp only [List.getElem_toArray, List.getElem_cons_succ, List.getElem_cons_zero, Act.put, List.setIfInBounds_toArray, List.set_cons_zero, List.set_cons_succ]
  refine wpAnyH_take (i := 13) (v := ?_) rfl (by kernel_rfl) (by kernel_rfl) (by kernel_rfl) (fun _ _ _ h => h) (Or.inl ⟨by rfl, fun w hSw => ?_⟩) (by assumption) ?_
  rotate_left
  · (try dsimp only at hSw); go_simp; (try with_reducible rfl)
  try simp only [List.getElem_toArray, List.getElem_cons_succ, List.getElem_cons_zero, Act.put, List.setIfInBounds_toArray, List.set_cons_zero, List.set_cons_succ]
  refine wpAnyH_take (i := 14) (v := ?_) rfl (by kernel_rfl) (by kernel_rfl) (by kernel_rfl) (fun _ _ _ h => h) (Or.inl ⟨by rfl, fun w hSw => ?_⟩) (by assumption) ?_
  rotate_left
  · (try dsimp only at hSw); go_simp; (try with_reducible rfl)
  try simp only [List.getElem_toArray, List.getElem_cons_succ, List.getElem_cons_zero, Act.put, List.setIfInBounds_toArray, List.set_cons_zero, List.set_cons_succ]
  refine wpAnyH_take (i := 15) (v := ?_) rfl (by kernel_rfl) (by kernel_rfl) (by kernel_rfl) (fun _ _ _ h => h) (Or.inl ⟨by rfl, fun w hSw => ?_⟩) (by assumption) ?_
  rotate_left
  · (try dsimp only at hSw); go_simp; (try with_reducible rfl)
  try simp only [List.getElem_toArray, List.getElem_cons_succ, List.getElem_cons_zero, Act.put, List.setIfInBounds_toArray, List.set_cons_zero, List.set_cons_succ]
  refine wpAnyH_take (i := 16) (v := ?_) rfl (by kernel_rfl) (by kernel_rfl) (by kernel_rfl) (fun _ _ _ h => h) (Or.inl ⟨by rfl, fun w hSw => ?_⟩) (by assumption) ?_
  rotate_left
  · (try dsimp only at hSw); go_simp; (try with_reducible rfl)
  try simp only [List.getElem_toArray, List.getElem_cons_succ, List.getElem_cons_zero, Act.put, List.setIfInBounds_toArray, List.set_cons_zero, List.set_cons_succ]
  refine wpAnyH_take (i := 17) (v := ?_) rfl (by kernel_rfl) (by kernel_rfl) (by kernel_rfl) (fun _ _ _ h => h) (Or.inl ⟨by rfl, fun w hSw => ?_⟩) (by assumption) ?_
  rotate_left
  · (try dsimp only at hSw); go_simp; (try with_reducible rfl)
  try simp only [List.getElem_toArray, List.getElem_cons_succ, List.getElem_cons_zero, Act.put, List.setIfInBounds_toArray, List.set_cons_zero, List.set_cons_succ]
  refine wpAnyH_take (i := 18) (v := ?_) rfl (by kernel_rfl) (by kernel_rfl) (by kernel_rfl) (fun _ _ _ h => h) (Or.inl ⟨by rfl, fun w hSw => ?_⟩) (by assumption) ?_
  rotate_left
  · (try dsimp only at hSw); go_simp; (try with_reducible rfl)
  try simp only [List.getElem_toArray, List.getElem_cons_succ, List.getElem_cons_zero, Act.put, List.setIfInBounds_toArray, List.set_cons_zero, List.set_cons_succ]
  refine wpAnyH_take (i := 19) (v := ?_) rfl (by kernel_rfl) (by kernel_rfl) (by kernel_rfl) (fun _ _ _ h => h) (Or.inl ⟨by rfl, fun w hSw => ?_⟩) (by assumption) ?_
  rotate_left
  · (try dsimp only at hSw); go_simp; (try with_reducible rfl)
  try simp only [List.getElem_toArray, List.getElem_cons_succ, List.getElem_cons_zero, Act.put, List.setIfInBounds_toArray, List.set_cons_zero, List.set_cons_succ]
  refine wpAnyH_take (i := 20) (v := ?_) rfl (by kernel_rfl) (by kernel_rfl) (by kernel_rfl) (fun _ _ _ h => h) (Or.inl ⟨by rfl, fun w hSw => ?_⟩) (by assumption) ?_
  rotate_left
  · (try dsimp only at hSw); go_simp; (try with_reducible rfl)
  try simp only [List.getElem_toArray, List.getElem_cons_succ, List.getElem_cons_zero, Act.put, List.setIfInBounds_toArray, List.set_cons_zero, List.set_cons_succ]
  refine wpAnyH_take (i := 21) (v := ?_) rfl (by kernel_rfl) (by kernel_rfl) (by kernel_rfl) (fun _ _ _ h => h) (Or.inl ⟨by rfl, fun w hSw => ?_⟩) (by assumption) ?_
  rotate_left
  · (try dsimp only at hSw); go_simp; (try with_reducible rfl)
  try simp only [List.getElem_toArray, List.getElem_cons_succ, List.getElem_cons_zero, Act.put, List.setIfInBounds_toArray, List.set_cons_zero, List.set_cons_succ]
  refine wpAnyH_take (i := 22) (v := ?_) rfl (by kernel_rfl) (by kernel_rfl) (by kernel_rfl) (fun _ _ _ h => h) (Or.inl ⟨by rfl, fun w hSw => ?_⟩) (by assumption) ?_
  rotate_left
  · (try dsimp only at hSw); go_simp; (try with_reducible rfl)
  try simp only [List.getElem_toArray, List.getElem_cons_succ, List.getElem_cons_zero, Act.put, List.setIfInBounds_toArray, List.set_cons_zero, List.set_cons_succ]
  refine wpAnyH_take (i := 23) (v := ?_) rfl (by kernel_rfl) (by kernel_rfl) (by kernel_rfl) (fun _ _ _ h => h) (Or.inl ⟨by rfl, fun w hSw => ?_⟩) (by assumption) ?_
  rotate_left
  · (try dsimp only at hSw); go_simp; (try with_reducible rfl)
  try simp only [List.getElem_toArray, List.getElem_cons_succ, List.getElem_cons_zero, Act.put, List.setIfInBounds_toArray, List.set_cons_zero, List.set_cons_succ]
  refine wpAnyH_take (i := 24) (v := ?_) rfl (by kernel_rfl) (by kernel_rfl) (by kernel_rfl) (fun _ _ _ h => h) (Or.inl ⟨by rfl, fun w hSw => ?_⟩) (by assumption) ?_
  rotate_left
  · (try dsimp only at hSw); go_simp; (try with_reducible rfl)
  try simp only [List.getElem_toArray, List.getElem_cons_succ, List.getElem_cons_zero, Act.put, List.setIfInBounds_toArray, List.set_cons_zero, List.set_cons_succ]
  refine wpAnyH_take (i := 25) (v := ?_) rfl (by kernel_rfl) (by kernel_rfl) (by kernel_rfl) (fun _ _ _ h => h) (Or.inl ⟨by rfl, fun w hSw => ?_⟩) (by assumption) ?_
  rotate_left
  · (try dsimp only at hSw); go_simp; (try with_reducible rfl)
  try simp only [List.getElem_toArray, List.getElem_cons_succ, List.getElem_cons_zero, Act.put, List.setIfInBounds_toArray, List.set_cons_zero, List.set_cons_succ]
  refine wpAnyH_take (i := 26) (v := ?_) rfl (by kernel_rfl) (by kernel_rfl) (by kernel_rfl) (fun _ _ _ h => h) (Or.inl ⟨by rfl, fun w hSw => ?_⟩) (by assumption) ?_
  rotate_left
  · (try dsimp only at hSw); go_simp; (try with_reducible rfl)
  try simp only [List.getElem_toArray, List.getElem_cons_succ, List.getElem_cons_zero, Act.put, List.setIfInBounds_toArray, List.set_cons_zero, List.set_cons_succ]
  refine wpAnyH_done (by kernel_rfl) ?_ _
  go_wp2_with (first
    | (go_at_call 6; (with_reducible refine (CS.out _ D3z.out).mono ?_); rintro e w4 ⟨gs, cs, rfl, ho, hcs, hb⟩; have S4 := Lib.hid ho; have D4 := Lib.hid (D3z.out.trans (hb.mono D3z.out.size)); clear ho hb)
    | (go_at_call 11; (with_reducible refine (CO2.out _ _ (rowB S4.out)).mono ?_); rintro e w5 ⟨pj, cj, rfl, hr, hb⟩; have ht5 := text_run hr; have S5 := Lib.hid (own_below S4.out hb); have D5 := Lib.hid (D4.out.trans (hb.mono D4.out.size)); have hst5 := HSt.out _ D5.out; clear hr hb))
  have S6 := Lib.hid (own_below S5.out (Below.refl w5.heap.size w5).drew)
  have D6 := Lib.hid D5.out.drew
  obtain ⟨c6, f6⟩ := HGet.out _ _ _ _ S6.out
  refine wp_region_held_drew (S := (fun w' => True)) (by kernel_rfl) trivial (fun hHeld => ?_)
  refine wpAnyH_take (i := 0) (v := ?_) rfl (by kernel_rfl) (by kernel_rfl) (by kernel_rfl) (fun _ _ _ h => h) (Or.inl ⟨by rfl, fun w hSw => ?_⟩) (by assumption) ?_
  rotate_left
  · (try dsimp only at hSw); go_simp; (try with_reducible rfl)
  try simp only [List.getElem_toArray, List.getElem_cons_succ, List.getElem_cons_zero, Act.put, List.setIfInBounds_toArray, List.set_cons_zero, List.set_cons_succ]
  refine wpAnyH_take (i := 1) (v := ?_) rfl (by kernel_rfl) (by kernel_rfl) (by kernel_rfl) (fun _ _ _ h => h) (Or.inl ⟨by rfl, fun w hSw => ?_⟩) (by assumption) ?_
  rotate_left
  · (try dsimp only at hSw); go_simp; (try with_reducible rfl)
  try simp only [List.getElem_toArray, List.getElem_cons_succ, List.getElem_cons_zero, Act.put, List.setIfInBounds_toArray, List.set_cons_zero, List.set_cons_succ]
  refine wpAnyH_take (i := 3) (v := ?_) rfl (by kernel_rfl) (by kernel_rfl) (by kernel_rfl) (fun _ _ _ h => h) (Or.inl ⟨by rfl, fun w hSw => ?_⟩) (by assumption) ?_
  rotate_left
  · (try dsimp only at hSw); go_simp; (try with_reducible rfl)
  try simp only [List.getElem_toArray, List.getElem_cons_succ, List.getElem_cons_zero, Act.put, List.setIfInBounds_toArray, List.set_cons_zero, List.set_cons_succ]
  refine wpAnyH_take (i := 6) (v := ?_) rfl (by kernel_rfl) (by kernel_rfl) (by kernel_rfl) (fun _ _ _ h => h) (Or.inl ⟨by rfl, fun w hSw => ?_⟩) (by assumption) ?_
  rotate_left
  · (try dsimp only at hSw); go_simp; (try with_reducible rfl)
  try simp only [List.getElem_toArray, List.getElem_cons_succ, List.getElem_cons_zero, Act.put, List.setIfInBounds_toArray, List.set_cons_zero, List.set_cons_succ]
  refine wpAnyH_take (i := 7) (v := ?_) rfl (by kernel_rfl) (by kernel_rfl) (by kernel_rfl) (fun _ _ _ h => h) (Or.inl ⟨by rfl, fun w hSw => ?_⟩) (by assumption) ?_
  rotate_left
  · (try dsimp only at hSw); go_simp; (try with_reducible rfl)
  try simp only [List.getElem_toArray, List.getElem_cons_succ, List.getElem_cons_zero, Act.put, List.setIfInBounds_toArray, List.set_cons_zero, List.set_cons_succ]
  refine wpAnyH_take (i := 9) (v := ?_) rfl (by kernel_rfl) (by kernel_rfl) (by kernel_rfl) (fun _ _ _ h => h) (Or.inl ⟨by rfl, fun w hSw => ?_⟩) (by assumption) ?_
  rotate_left
  · (try dsimp only at hSw); go_simp; (try with_reducible rfl)
  try simp only [List.getElem_toArray, List.getElem_cons_succ, List.getElem_cons_zero, Act.put, List.setIfInBounds_toArray, List.set_cons_zero, List.set_cons_succ]
  refine wpAnyH_take (i := 14) (v := ?_) rfl (by kernel_rfl) (by kernel_rfl) (by kernel_rfl) (fun _ _ _ h => h) (Or.inl ⟨by rfl, fun w hSw => ?_⟩) (by assumption) ?_
  rotate_left
  · (try dsimp only at hSw); go_simp; (try with_reducible rfl)
  try simp only [List.getElem_toArray, List.getElem_cons_succ, List.getElem_cons_zero, Act.put, List.setIfInBounds_toArray, List.set_cons_zero, List.set_cons_succ]
  refine wpAnyH_take (i := 2) (v := ?_) rfl (by kernel_rfl) (by kernel_rfl) (by kernel_rfl) (fun _ _ _ h => h) (Or.inl ⟨by rfl, fun w hSw => ?_⟩) (by assumption) ?_
  rotate_left
  · (try dsimp only at hSw); go_simp; (try with_reducible rfl)
  try simp only [List.getElem_toArray, List.getElem_cons_succ, List.getElem_cons_zero, Act.put, List.setIfInBounds_toArray, List.set_cons_zero, List.set_cons_succ]
  refine wpAnyH_take (i := 4) (v := ?_) rfl (by kernel_rfl) (by kernel_rfl) (by kernel_rfl) (fun _ _ _ h => h) (Or.inl ⟨by rfl, fun w hSw => ?_⟩) (by assumption) ?_
  rotate_left
  · (try dsimp only at hSw); go_simp; (try with_reducible rfl)
  try simp only [List.getElem_toArray, List.getElem_cons_succ, List.getElem_cons_zero, Act.put, List.setIfInBounds_toArray, List.set_cons_zero, List.set_cons_succ]
  refine wpAnyH_take (i := 8) (v := ?_) rfl (by kernel_rfl) (by kernel_rfl) (by kernel_rfl) (fun _ _ _ h => h) (Or.inl ⟨by rfl, fun w hSw => ?_⟩) (by assumption) ?_
  rotate_left
  · (try dsimp only at hSw); go_simp; (try with_reducible rfl)
  try simp only [List.getElem_toArray, List.getElem_cons_succ, List.getElem_cons_zero, Act.put, List.setIfInBounds_toArray, List.set_cons_zero, List.set_cons_succ]
  refine wpAnyH_take (i := 10) (v := ?_) rfl (by kernel_rfl) (by kernel_rfl) (by kernel_rfl) (fun _ _ _ h => h) (Or.inl ⟨by rfl, fun w hSw => ?_⟩) (by assumption) ?_
  rotate_left
  · (try dsimp only at hSw); go_simp; (try with_reducible rfl)
  try simp only [List.getElem_toArray, List.getElem_cons_succ, List.getElem_cons_zero, Act.put, List.setIfInBounds_toArray, List.set_cons_zero, List.set_cons_succ]
  refine wpAnyH_take (i := 5) (v := ?_) rfl (by kernel_rfl) (by kernel_rfl) (by kernel_rfl) (fun _ _ _ h => h) (Or.inl ⟨by rfl, fun w hSw => ?_⟩) (by assumption) ?_
  rotate_left
  · (try dsimp only at hSw); go_simp; (try with_reducible rfl)
  try simp only [List.getElem_toArray, List.getElem_cons_succ, List.getElem_cons_zero, Act.put, List.setIfInBounds_toArray, List.set_cons_zero, List.set_cons_succ]
  refine wpAnyH_take (i := 11) (v := ?_) rfl (by kernel_rfl) (by kernel_rfl) (by kernel_rfl) (fun _ _ _ h => h) (Or.inl ⟨by rfl, fun w hSw => ?_⟩) (by assumption) ?_
  rotate_left
  · (try dsimp only at hSw); go_simp; (try with_reducible rfl)
  try simp only [List.getElem_toArray, List.getElem_cons_succ, List.getElem_cons_zero, Act.put, List.setIfInBounds_toArray, List.set_cons_zero, List.set_cons_succ]
  refine wpAnyH_take (i := 12) (v := ?_) rfl (by kernel_rfl) (by kernel_rfl) (by kernel_rfl) (fun _ _ _ h => h) (Or.inl ⟨by rfl, fun w hSw => ?_⟩) (by assumption) ?_
  rotate_left
  · (try dsimp only at hSw); go_simp; (try with_reducible rfl)
  try simp only [List.getElem_toArray, List.getElem_cons_succ, List.getElem_cons_zero, Act.put, List.setIfInBounds_toArray, List.set_cons_zero, List.set_cons_succ]
  refine wpAnyH_ready (rs := [13]) (by kernel_rfl) (by simp) ?_
  refine AllReadyH.cons rfl (fun K hK => ?_) ?_
  rotate_left
  · exact AllReadyH.nil
  go_simp
  skip
  refine hK.out _ _ ?_ (fun hHeld => ?_)
  · trivial
  clear hK K
  try simp only [List.getElem_toArray, List.getElem_cons_succ, List.getElem_cons_zero, Act.put, List.setIfInBounds_toArray, List.set_cons_zero, List.set_cons_succ]
  refine wpAnyH_take (i := 15) (v := ?_) rfl (by kernel_rfl) (by kernel_rfl) (by kernel_rfl) (fun _ _ _ h => h) (Or.inl ⟨by rfl, fun w hSw => ?_⟩) (by assumption) ?_
  rotate_left
  · (try dsimp only at hSw); go_simp; (try with_reducible rfl)
  try simp only [List.getElem_toArray, List.getElem_cons_succ, List.getElem_cons_zero, Act.put, List.setIfInBounds_toArray, List.set_cons_zero, List.set_cons_succ]
  refine wpAnyH_take (i := 16) (v := ?_) rfl (by kernel_rfl) (by kernel_rfl) (by kernel_rfl) (fun _ _ _ h => h) (Or.inl ⟨by rfl, fun w hSw => ?_⟩) (by assumption) ?_
  rotate_left
  · (try dsimp only at hSw); go_simp; (try with_reducible rfl)
  try simp only [List.getElem_toArray, List.getElem_cons_succ, List.getElem_cons_zero, Act.put, List.setIfInBounds_toArray, List.set_cons_zero, List.set_cons_succ]
  refine wpAnyH_ready (rs := [17]) (by kernel_rfl) (by simp) ?_
  refine AllReadyH.cons rfl (fun K hK => ?_) ?_
  rotate_left
  · exact AllReadyH.nil
  go_simp
  skip
  refine hK.out _ _ ?_ (fun hHeld => ?_)
  · trivial
  clear hK K
  try simp only [List.getElem_toArray, List.getElem_cons_succ, List.getElem_cons_zero, Act.put, List.setIfInBounds_toArray, List.set_cons_zero, List.set_cons_succ]
  refine wpAnyH_done (by kernel_rfl) ?_ _
  have X7 := Lib.hid ((HSet.out _ _ _ _ S5.out).on (Below.refl _ _).drew)
  have D7 := Lib.hid (set_below D5.out S5.out D3z.out.size i (.int .u8 x')).drew
  go_wp2_with (first
    | (go_at_call 11; (with_reducible refine (CO3.out _ _ X7.out).mono ?_); rintro e w8 ⟨pk, nk, ck, rfl, hb⟩; have D8 := Lib.hid (D7.out.trans (hb.mono D7.out.size)); clear hb)
    | (go_at_call 5; (with_reducible refine (CW.out _).mono ?_); rintro e w9 ⟨rfl, hb⟩; have D9 := Lib.hid (D8.out.trans (hb.mono D8.out.size)); clear hb))
  go_ret
  exact ⟨rfl, D9.out⟩
end Go.Proofs.Ytbijiklemkdebaa.Dig
