/- What the vault's Twin gives: a vault with the same, in new memory (layer 13, vault). Conditions: the vault lies in memory as its cells and its maps say; it has at most 100000 keys, and its logs are not longer than 100000. -/
import Derived.Test.YtacgmhnalbbgbaaVauN
import Derived.Laws.IdiomRangeMap
import Derived.Deep.LoopGhost
namespace Go.Proofs.Ytacgmhnalbbgbaa.Vau
open Go.RowKit F64 Cmd Bat Cel Wid Go.Maps Go.WideElems Go.ChangeMaps Go.Sort
set_option linter.unusedVariables false
set_option linter.unusedSimpArgs false

theorem run_makeHint (t : TypeId) (n : Nat) (k e : TypeId) (ht : Try.prog.underlying t = some (.map k e)) (w : World) : (Instr.makeMap t (some (.int .i64 (n : Int)))).run Try.prog w = .ok (.map (some w.heap.size)) (w.alloc (.map #[] 0)) := by
  simp [Instr.makeMap, run_underlying ht, asInt, asIntOf, Result.andThen]

/-! ### The cells' map copied -/
set_option maxHeartbeats 4000000 in
set_option maxRecDepth 100000 in
theorem twin1_any (f : Bool) (z : Nat) (w : World) : Calls Try.prog 26 #[.agg #[.bool f, .float .f64 z]] w (RetBelow (.agg #[.bool f, .float .f64 z]) w) := by
  have D0 := Lib.hid (Bx2.start w f z false 0)
  obtain ⟨a0, a1, a2, a3⟩ := D0.out.a.facts
  obtain ⟨b0, b1, b2, b3⟩ := D0.out.b.facts
  go_enter Try.func26, Try.ntmps26
  go_wp2
  have P := Bx2.start w f z f z
  obtain ⟨d0, d1, -, -⟩ := P.b.facts
  exact bodyPost_ret (cell_result rfl _ rfl d0 d1) rfl ⟨rfl, P.below⟩
def part (f : Key → Option Value) (ss : List Key) : Key → Option Value := fun s => if s ∈ ss then f s else none
theorem part_nil (f : Key → Option Value) : part f [] = fun _ => none := by funext s; unfold part; simp
theorem part_snoc {f : Key → Option Value} {ss : List Key} {s : Key} {v : Value} (h : f s = some v) : setF (part f ss) s (some v) = part f (ss ++ [s]) := by
  funext t
  unfold setF part
  by_cases e : t = s
  · subst e; rw [if_pos rfl, if_pos (by simp), h]
  · rw [if_neg e]
    by_cases m : t ∈ ss
    · rw [if_pos m, if_pos (by simp [m])]
    · rw [if_neg m, if_neg (by simp [m, e])]
theorem part_all {ks : List Key} {f : Key → Option Value} {left : Lit → Bool} {ss : List Key} (h : CollR ks f left ss) (hl : ∀ kl, left kl = false) : ∀ s, part f ss s = f s := fun s => by
  unfold part
  by_cases m : s ∈ ss
  · rw [if_pos m]
  · rw [if_neg m]
    cases hf : f s with
    | none => rfl
    | some v => exact absurd ((h.mem s).2 ⟨by rw [hf]; rfl, hl _⟩) m
def GivesMap (N : Nat) (f : Key → Option Value) (w : World) (E : Ending) (w' : World) : Prop := E = .returned (.map (some w.heap.size)) ∧ MapF w' w.heap.size N f ∧ Below w.heap.size w w'
set_option maxHeartbeats 16000000 in
set_option maxRecDepth 100000 in
theorem twinsC_any (mc N : Nat) (f : Key → Option Value) (C : Key → Cell2) (w : World) (hm : MapF w mc N f) (hci : ∀ s, CellIs (f s) (C s)) (hN : N ≤ 100000) : Calls Try.prog 27 #[.map (some mc), .func (.func 26) #[] #[]] w (GivesMap N f w) := by
  have hmh := fun (n : Nat) W => run_makeHint 64 n _ _ und_mc W
  have hlt := hm.lt
  have M0 := Lib.hid (MapF.made w)
  obtain ⟨D, ks, hD, S, hle⟩ := hm
  have hlen := fun ty => hD.len und_mc ty
  have HOW := Lib.hid (hD.alloc (.map #[] 0))
  have hown := HOW.out
  have B0 := Lib.hid (Cmd.below_one w (.map #[] 0))
  have HS := Lib.hid S
  have HLE := Lib.hid hle
  have HNN := Lib.hid hN
  have HCI := Lib.hid hci
  have hmcne : mc ≠ w.heap.size := by omega
  have hmcr : mc ≠ w.heap.size + 1 := by omega
  have CT := Lib.hid (fun f z W => twin1_any f z W)
  have hsz0 : (w.alloc (.map #[] 0)).heap.size = w.heap.size + 1 := by simp
  have HSZ0 := Lib.hid hsz0
  rw [S.size] at hlen
  clear hD S hle hN hci hsz0
  go_enter Try.func27, Try.ntmps27
  go_wp2_with (first
    | (at_range; refine wpList_range_own _ rfl _ 64 rfl 9 54 klaw und_mc raw mc ks.length D rfl hown ?_; intro w0 hrg0 hg0 hs0; have HRG := Lib.hid hrg0; have HG0 := Lib.hid hg0; have HS0 := Lib.hid hs0; clear hrg0 hg0 hs0)
    | fail)
  try go_frame
  try rw [HSZ0.out] at HRG
  try rw [HSZ0.out]
  clear hown hlen hmh
  go_loopw [13] (fun _ wr => ∃ (left : Lit → Bool) (cnt : Nat) (ss : List Key), Hid (GoingR wr mc (w.heap.size + 1) ks.length D left cnt) ∧ Hid (MapF wr w.heap.size ss.length (part f ss)) ∧ Hid (Below w.heap.size w wr) ∧ Hid (CollR ks f left ss)) (fun _ wr => wr.rangeLeft mc (w.heap.size + 1))
  case atStart =>
    refine ⟨_, _, [], HRG, Lib.hid ?_, Lib.hid (Below.grown B0.out HG0.out B0.out.size (fun k hk => by cases hk)), Lib.hid (CollR.start HS.out)⟩
    rw [part_nil]
    exact M0.out.block (HG0.out.block _ (by rw [HSZ0.out]; omega) (by simp))
  case round =>
    obtain ⟨left, cnt, ss, hrg, hmp, hbw, hC⟩ := hrel
    go_wp2_with (first
      | (at_next; refine wp_next_raw rfl _ rfl mc (w.heap.size + 1) ks.length D ks f HS.out left cnt rfl hrg.out ?_ ?_)
      | fail)
    · refine Lib.hid fun hl0 => ?_
      have HM := Lib.hid ((hmp.out.ext (part_all hC.out hl0)).mono (Nat.le_trans hC.out.len HLE.out))
      clear hl0
      go_wp2
      go_ret
      exact ⟨rfl, HM.out, hbw.out⟩
    · refine Lib.hid ?_
      intro s v w2 cnt2 hf hlen hlk hrg2 hlt2 hg2 hs2 hen
      have hcv := HCI.out s
      rw [hf] at hcv
      obtain ⟨z, rfl, hz⟩ := hcv
      have HM2 : Hid (MapF w2 w.heap.size ss.length (part f ss)) := Lib.hid (hmp.out.block (hg2.block _ hmp.out.lt (by simp)))
      have HB2 : Hid (Below w.heap.size w w2) := Lib.hid (Below.grown hbw.out hg2 hbw.out.size (fun k hk => by cases hk; omega))
      have HG2 := Lib.hid hrg2
      have HC2 := Lib.hid (hC.out.step HS.out hf hlk)
      have HLT := Lib.hid hlt2
      have HSL : Hid (ss.length ≤ 1000000) := Lib.hid (by have := hC.out.len; have := HLE.out; have := HNN.out; omega)
      have HKL := Lib.hid hlen
      have HPS : Hid (setF (part f ss) s (some (.agg #[.bool true, .float .f64 z])) = part f (ss ++ [s])) := Lib.hid (part_snoc hf)
      obtain ⟨x0, x1, x2, x3⟩ := (Bx.new w2 true z).facts
      have X0 := Lib.hid (Bx.new w2 true z)
      have HB3 := Lib.hid (HB2.out.alloc HB2.out.size (.cells #[.bool true, .float .f64 z] 54))
      clear hrg2 hlt2 hg2 hs2 hf hlk hz hlen
      go_wp2_with (first
        | (go_at_call 26; ((with_reducible refine (CT.out true z _).mono ?_); rintro e w3 ⟨rfl, hb⟩; have HB4 := Lib.hid (HB3.out.trans (hb.mono HB3.out.size)); have HG4 := Lib.hid ((HG2.out.alloc _).kept (grown_of hb) (by simp) (by simp)); have HM4 := Lib.hid ((HM2.out.alloc _).below hb (HM2.out.alloc _).lt); obtain ⟨w5, hst, hm5, ht5⟩ := MapF.store HM4.out und_mc HSL.out HKL.out (.agg #[.bool true, .float .f64 z]); have HM5 := Lib.hid hm5; have HT5 := Lib.hid ht5; clear hb hm5 ht5))
        | fail)
      have X3 := Lib.hid (HG4.out.kept HT5.out.grown (by simp; omega) (by simp))
      go_roundw
      case rel => exact ⟨_, cnt2, ss ++ [s], X3, Lib.hid (by rw [← HPS.out, List.length_append]; exact HM5.out), Lib.hid (Below.grown HB4.out HT5.out.grown HB4.out.size (fun k hk => by cases hk; exact Nat.le_refl _)), HC2⟩
      case measure => rw [X3.out.left_eq, hrg.out.left_eq]; exact HLT.out

/-! ### The logs' map copied -/
structure Cps (L : Key → List Wr) (ss : List Key) (base : Nat) (ho : Key → Option Value) (W : World) : Prop where
  no : ∀ s, s ∉ ss → ho s = none
  yes : ∀ s ∈ ss, ∃ v k, ho s = some v ∧ OwnL W base v (L s) ∧ L s ≠ [] ∧ v.ownBlock = some k ∧ base ≤ k ∧ k < W.heap.size
  apart : ∀ s t u v k, ho s = some u → ho t = some v → u.ownBlock = some k → v.ownBlock = some k → s = t
theorem Cps.some {L : Key → List Wr} {ss : List Key} {base : Nat} {ho : Key → Option Value} {W : World} (h : Cps L ss base ho W) {s : Key} {v : Value} (hv : ho s = some v) : s ∈ ss ∧ OwnL W base v (L s) ∧ L s ≠ [] ∧ ∃ k, v.ownBlock = some k ∧ base ≤ k ∧ k < W.heap.size := by
  have hs : s ∈ ss := Classical.byContradiction fun hn => by rw [h.no s hn] at hv; cases hv
  obtain ⟨v', k, h1, h2, h3, h4⟩ := h.yes s hs
  rw [hv] at h1; cases h1
  exact ⟨hs, h2, h3, k, h4⟩
theorem Cps.keep {L : Key → List Wr} {ss : List Key} {base : Nat} {ho : Key → Option Value} {W W' : World} (h : Cps L ss base ho W) (hs : W.heap.size ≤ W'.heap.size) (hb : ∀ k, base ≤ k → k < W.heap.size → W'.heap[k]? = W.heap[k]?) : Cps L ss base ho W' :=
  ⟨h.no, fun s hm => by
    obtain ⟨v, k, h1, h2, h3, h4, h5, h6⟩ := h.yes s hm
    exact ⟨v, k, h1, ownL_block h2 (fun k' hk' => by rw [h4] at hk'; cases hk'; exact hb k h5 h6), h3, h4, h5, Nat.lt_of_lt_of_le h6 hs⟩, h.apart⟩
theorem Cps.add {L : Key → List Wr} {ss : List Key} {base n : Nat} {ho : Key → Option Value} {W0 W : World} (h : Cps L ss base ho W0) (hb : Below W0.heap.size W0 W) {s : Key} (hns : s ∉ ss) {v : Value} (ho2 : OwnL W W0.heap.size v (L s)) (hL : L s ≠ []) (hbase : base ≤ W0.heap.size) : Cps L (ss ++ [s]) base (setF ho s (.some v)) W := by
  have h' := h.keep hb.size (fun k _ hk => hb.block k hk)
  obtain ⟨kv, hkv, hge, hlt⟩ : ∃ kv, v.ownBlock = .some kv ∧ W0.heap.size ≤ kv ∧ kv < W.heap.size := by
    have hl := World.ownsRow.lt ho2
    rcases ho2.2 with ⟨_, h0⟩ | ⟨q, cap, cur, rfl, hq, _⟩
    · exact absurd (List.eq_nil_of_length_eq_zero h0) hL
    · exact ⟨q, rfl, hq, (hl q rfl).2⟩
  have hold : ∀ t u k, ho t = .some u → u.ownBlock = .some k → k < W0.heap.size := fun t u k hu hk => by
    obtain ⟨_, _, _, k', h1, _, h2⟩ := h.some hu
    rw [h1] at hk; cases hk; exact h2
  refine ⟨fun t ht => ?_, fun t ht => ?_, fun a b u1 u2 k h1 h2 h3 h4 => ?_⟩
  · rw [List.mem_append, List.mem_singleton] at ht
    rw [setF_other _ _ (fun e => ht (.inr e))]
    exact h.no t (fun e => ht (.inl e))
  · by_cases e : t = s
    · subst e
      exact ⟨v, kv, setF_same _ _ _, Wd.Own.lower ho2 hbase, hL, hkv, by omega, hlt⟩
    · rcases List.mem_append.1 ht with ht | ht
      · rw [setF_other _ _ e]; exact h'.yes t ht
      · exact absurd (List.mem_singleton.1 ht) e
  · by_cases e : a = s
    · by_cases e2 : b = s
      · rw [e, e2]
      · rw [e, setF_same] at h1; cases h1
        rw [setF_other _ _ e2] at h2
        have := hold b u2 k h2 h4
        rw [hkv] at h3; cases h3; omega
    · rw [setF_other _ _ e] at h1
      by_cases e2 : b = s
      · rw [e2, setF_same] at h2; cases h2
        have := hold a u1 k h1 h3
        rw [hkv] at h4; cases h4; omega
      · rw [setF_other _ _ e2] at h2
        exact h.apart a b u1 u2 k h1 h2 h3 h4
def GivesLogs (N : Nat) (h : Key → Option Value) (L : Key → List Wr) (w : World) (E : Ending) (w' : World) : Prop :=
  ∃ ho ss, E = .returned (.map (some w.heap.size)) ∧ MapF w' w.heap.size N ho ∧ Cps L ss (w.heap.size + 1 + 1) ho w' ∧ (∀ s, s ∈ ss ↔ (h s).isSome = true) ∧ Below w.heap.size w w'
set_option maxHeartbeats 16000000 in
set_option maxRecDepth 100000 in
theorem twinsL_any (ml N : Nat) (h : Key → Option Value) (L : Key → List Wr) (w : World) (hm : MapF w ml N h) (hli : ∀ s v, h s = some v → L s ≠ [] ∧ ∀ W, Below w.heap.size w W → layW.Row W v (L s)) (hll : ∀ s, (L s).length ≤ 100000) (hN : N ≤ 100000) : Calls Try.prog 28 #[.map (some ml), .func (.func 29) #[] #[]] w (GivesLogs N h L w) := by
  have hmh := fun (n : Nat) W => run_makeHint 65 n _ _ und_ml W
  have hlt := hm.lt
  have M0 := Lib.hid (MapF.made w)
  obtain ⟨D, ks, hD, S, hle⟩ := hm
  have hlen := fun ty => hD.len und_ml ty
  have HOW := Lib.hid (hD.alloc (.map #[] 0))
  have hown := HOW.out
  have B0 := Lib.hid (Cmd.below_one w (.map #[] 0))
  have HS := Lib.hid S
  have HLE := Lib.hid hle
  have HNN := Lib.hid hN
  have HLI := Lib.hid hli
  have HLL := Lib.hid hll
  have hmcne : ml ≠ w.heap.size := by omega
  have hmcr : ml ≠ w.heap.size + 1 := by omega
  have hsz0 : (w.alloc (.map #[] 0)).heap.size = w.heap.size + 1 := by simp
  have HSZ0 := Lib.hid hsz0
  rw [S.size] at hlen
  clear hD S hle hN hli hsz0 hll
  go_enter Try.func28, Try.ntmps28
  go_wp2_with (first
    | (at_range; refine wpList_range_own _ rfl _ 65 rfl 9 57 klaw und_ml raw ml ks.length D rfl hown ?_; intro w0 hrg0 hg0 hs0; have HRG := Lib.hid hrg0; have HG0 := Lib.hid hg0; have HS0 := Lib.hid hs0; clear hrg0 hg0 hs0)
    | fail)
  try go_frame
  try rw [HSZ0.out] at HRG
  try rw [HSZ0.out] at HS0
  try rw [HSZ0.out]
  clear hown hlen hmh
  go_loopw [13] (fun _ wr => ∃ (left : Lit → Bool) (cnt : Nat) (ss : List Key) (ho : Key → Option Value), Hid (GoingR wr ml (w.heap.size + 1) ks.length D left cnt) ∧ Hid (MapF wr w.heap.size ss.length ho) ∧ Hid (Below w.heap.size w wr) ∧ Hid (CollR ks h left ss) ∧ Hid (Cps L ss (w.heap.size + 1 + 1) ho wr) ∧ Hid (w.heap.size + 1 + 1 ≤ wr.heap.size)) (fun _ wr => wr.rangeLeft ml (w.heap.size + 1))
  case atStart =>
    refine ⟨_, _, [], _, HRG, Lib.hid (M0.out.block (HG0.out.block _ (by rw [HSZ0.out]; omega) (by simp))), Lib.hid (Below.grown B0.out HG0.out B0.out.size (fun k hk => by cases hk)), Lib.hid (CollR.start HS.out), Lib.hid ⟨fun _ _ => rfl, fun s hs => (by cases hs), fun s t u v k h1 => (by cases h1)⟩, Lib.hid (by rw [HS0.out]; exact Nat.le_refl _)⟩
  case round =>
    obtain ⟨left, cnt, ss, ho, hrg, hmp, hbw, hC, hcp, hsz⟩ := hrel
    go_wp2_with (first
      | (at_next; refine wp_next_raw rfl _ rfl ml (w.heap.size + 1) ks.length D ks h HS.out left cnt rfl hrg.out ?_ ?_)
      | fail)
    · refine Lib.hid fun hl0 => ?_
      have HM := Lib.hid (hmp.out.mono (Nat.le_trans hC.out.len HLE.out))
      have HME : Hid (∀ s, s ∈ ss ↔ (h s).isSome = true) := Lib.hid fun s => by rw [hC.out.mem s, hl0]; simp
      clear hl0
      go_wp2
      go_ret
      exact ⟨ho, ss, rfl, HM.out, hcp.out, HME.out, hbw.out⟩
    · refine Lib.hid ?_
      intro s v w2 cnt2 hf hlen hlk hrg2 hlt2 hg2 hs2 hen
      obtain ⟨hne, hrow⟩ := HLI.out s v hf
      have HM2 : Hid (MapF w2 w.heap.size ss.length ho) := Lib.hid (hmp.out.block (hg2.block _ hmp.out.lt (by simp)))
      have HB2 : Hid (Below w.heap.size w w2) := Lib.hid (Below.grown hbw.out hg2 hbw.out.size (fun k hk => by cases hk; omega))
      have HG2 := Lib.hid hrg2
      have HC2 := Lib.hid (hC.out.step HS.out hf hlk)
      have HLT := Lib.hid hlt2
      have HSL : Hid (ss.length ≤ 1000000) := Lib.hid (by have := hC.out.len; have := HLE.out; have := HNN.out; omega)
      have HKL := Lib.hid hlen
      have HNE := Lib.hid hne
      have HNS : Hid (s ∉ ss) := Lib.hid fun hm => by have := ((hC.out.mem s).1 hm).2; rw [hlk] at this; cases this
      have HCP2 : Hid (Cps L ss (w.heap.size + 1 + 1) ho w2) := Lib.hid (hcp.out.keep (by rw [hs2]; exact Nat.le_refl _) (fun k hk hk2 => hg2.block k hk2 (by simp; omega)))
      have HSZ2 : Hid (w.heap.size + 1 + 1 ≤ w2.heap.size) := Lib.hid (by rw [hs2]; exact hsz.out)
      have CW := Lib.hid (wclone_any v (L s) w2 (hrow w2 HB2.out) (HLL.out s))
      clear hrg2 hlt2 hg2 hs2 hf hlk hlen hne hrow
      go_wp2_with (first
        | (go_at_call 29; ((with_reducible refine CW.out.mono ?_); rintro e w3 ⟨u, rfl, hu, hb⟩; have HB4 := Lib.hid (HB2.out.trans (hb.mono HB2.out.size)); have HG4 := Lib.hid (HG2.out.kept (grown_of hb) (by simp) (by simp)); have HM4 := Lib.hid (HM2.out.below hb HM2.out.lt); have HCP4 := Lib.hid (Cps.add (n := 0) HCP2.out hb HNS.out hu HNE.out HSZ2.out); have HSZ4 := Lib.hid (Nat.le_trans HSZ2.out hb.size); obtain ⟨w5, hst, hm5, ht5⟩ := MapF.store HM4.out und_ml HSL.out HKL.out u; have HM5 := Lib.hid hm5; have HT5 := Lib.hid ht5; clear hb hm5 ht5 hu))
        | fail)
      have X3 := Lib.hid (HG4.out.kept HT5.out.grown (by simp; omega) (by simp))
      go_roundw
      case rel => exact ⟨_, cnt2, ss ++ [s], _, X3, Lib.hid (by rw [List.length_append]; exact HM5.out), Lib.hid (Below.grown HB4.out HT5.out.grown HB4.out.size (fun k hk => by cases hk; exact Nat.le_refl _)), HC2, Lib.hid (HCP4.out.keep HT5.out.grown.size (fun k hk hk2 => HT5.out.grown.block k hk2 (by simp; omega))), Lib.hid (Nat.le_trans HSZ4.out HT5.out.grown.size)⟩
      case measure => rw [X3.out.left_eq, hrg.out.left_eq]; exact HLT.out
end Go.Proofs.Ytacgmhnalbbgbaa.Vau

/- What the vault's Twin gives: a vault with the same, in new memory; nil's (layer 13, vault). Conditions: the vault lies in memory as its cells and its maps say; it has at most 100000 keys, and its logs are not longer than 100000. (Written by tools/gen_vauq.py.) -/
namespace Go.Proofs.Ytacgmhnalbbgbaa.Vau
open Go.RowKit F64 Cmd Bat Cel Wid Go.Maps Go.WideElems Go.ChangeMaps Go.Sort
set_option linter.unusedVariables false
set_option linter.unusedSimpArgs false

theorem twin_vm {w W0 w1 w2 w3 : World} {base base' : Nat} {F : Nat → Prop} {g mc ml : Nat} {f h ho : Key → Option Value} {C : Key → Cell2} {L : Key → List Wr} {N : Nat} {cnt : Int} {ss : List Key} (V : VM w base F g mc ml f h C L N cnt) (hbase : base' ≤ w.heap.size) (h0 : Below w.heap.size w W0) (hs0 : W0.heap.size = w.heap.size) (hb1 : Below W0.heap.size W0 w1) (hb2 : Below w1.heap.size w1 w2)
    (hm : MapF w1 W0.heap.size N f) (hl : MapF w2 w1.heap.size N ho) (hc : Cps L ss (w1.heap.size + 1 + 1) ho w2) (hss : ∀ s, s ∈ ss ↔ (h s).isSome = true) (hw3 : w3 = w2.alloc (.cells #[.map (some W0.heap.size), .map (some w1.heap.size), .int .i64 cnt] 67)) :
    VP w3 base' (More (fun _ => False) w.heap.size w3.heap.size) w2.heap.size C L N cnt ∧ Below w.heap.size w w3 := by
  subst hw3
  have b3 := Cmd.below_one w2 (.cells #[.map (some W0.heap.size), .map (some w1.heap.size), .int .i64 cnt] 67)
  have s1 := hb1.size
  have s2 := hb2.size
  have l1 := hm.lt
  have l2 := hl.lt
  have s3 : (w2.alloc (.cells #[.map (some W0.heap.size), .map (some w1.heap.size), .int .i64 cnt] 67)).heap.size = w2.heap.size + 1 := by simp
  refine ⟨⟨W0.heap.size, w1.heap.size, f, ho, heap_alloc_new w2 _, (hm.below hb2 l1).below b3 (by omega), hl.below b3 l2, V.ci, fun s hn => ?_, fun s v hv => ?_, fun s v hv => ?_, hc.apart, by omega, .inr ⟨by omega, by omega⟩, .inr ⟨by omega, by omega⟩, .inr ⟨by omega, by omega⟩, fun b hf => ?_⟩, ?_⟩
  · have hns : s ∉ ss := fun hm => by obtain ⟨v, k, h1, _⟩ := hc.yes s hm; rw [hn] at h1; cases h1
    refine V.no s ?_
    cases hh : h s with
    | none => rfl
    | some u => exact absurd ((hss s).2 (by rw [hh]; rfl)) hns
  · obtain ⟨_, h1, h2, _⟩ := hc.some hv
    exact ⟨Wd.Own.lower (Wd.Own.below h1 b3) (by omega), h2⟩
  · obtain ⟨_, _, _, k, h1, h2, h3⟩ := hc.some hv
    exact ⟨k, h1, .inr ⟨by omega, by omega⟩, by omega, by omega, by omega⟩
  · rcases hf with hf | hf
    · exact hf.elim
    · exact ⟨by omega, hf.2⟩
  · exact ((h0.trans (hb1.mono (by omega))).trans (hb2.mono (by omega))).trans (b3.mono (by omega))
set_option maxHeartbeats 4000000 in
set_option maxRecDepth 100000 in
theorem vtwin_nil (w : World) : Calls Try.prog 8 #[.pointer none] w (RetBelow (.pointer none) w) := by
  go_enter Try.func8, Try.ntmps8
  go_wp2
  go_ret
  exact ⟨rfl, Below.refl _ _⟩
set_option maxHeartbeats 16000000 in
set_option maxRecDepth 100000 in
theorem vtwin_any {w : World} {base base' : Nat} {F : Nat → Prop} {g : Nat} {C : Key → Cell2} {L : Key → List Wr} {N : Nat} {cnt : Int} (V : VP w base F g C L N cnt) (hbase : base' ≤ w.heap.size) (hN : N ≤ 100000) (hL : ∀ s, (L s).length ≤ 100000) : Calls Try.prog 8 #[vptr g] w (GivesV base' C L N cnt w) := by
  obtain ⟨mc, ml, f, h, V⟩ := V
  have HV := Lib.hid V
  have CC : Hid (∀ W, Below w.heap.size w W → Calls Try.prog 27 #[.map (some mc), .func (.func 26) #[] #[]] W (GivesMap N f W)) := Lib.hid fun W hb => twinsC_any mc N f C W (V.on hb).cm V.ci hN
  have CL : Hid (∀ W, Below w.heap.size w W → Calls Try.prog 28 #[.map (some ml), .func (.func 29) #[] #[]] W (GivesLogs N h L W)) := Lib.hid fun W hb => twinsL_any ml N h L W (V.on hb).lm (fun s v hv => ⟨(V.yes s v hv).2, fun X hX => Wd.Own.row (((V.on hb).on hX).yes s v hv).1⟩) hL hN
  have HS : Hid (∀ W, Below w.heap.size w W → W.cell? ⟨g, 0, none⟩ = some (.map (some mc)) ∧ W.cell? ⟨g, 1, none⟩ = some (.map (some ml)) ∧ W.cell? ⟨g, 2, none⟩ = some (.int .i64 cnt)) := Lib.hid fun W hb => ⟨(V.on hb).cells.1, (V.on hb).cells.2.1, (V.on hb).cells.2.2.1⟩
  have HBA := Lib.hid hbase
  have HN0 := Lib.hid ((Below.refl w.heap.size w).drew)
  have HZ0 : Hid (w.drew.heap.size = w.heap.size) := Lib.hid rfl
  clear V hN hL hbase
  unfold vptr
  go_enter Try.func8, Try.ntmps8
  go_wp2_with fail
  refine wp_region_held_drew (S := (fun w' => w'.cell? ⟨g, 0, none⟩ = some (.map (some mc)) ∧ w'.cell? ⟨g, 1, none⟩ = some (.map (some ml)) ∧ w'.cell? ⟨g, 2, none⟩ = some (.int .i64 cnt))) (by kernel_rfl) (HS.out _ HN0.out) (fun hHeld => ?_)
  generalize w.drew = W0 at HN0 HZ0 hHeld ⊢
  refine wpAnyH_take (i := 0) (v := ?_) rfl (by kernel_rfl) (by kernel_rfl) (by kernel_rfl) (fun _ _ _ h => h) (Or.inl ⟨by rfl, fun w hSw => ?_⟩) (by assumption) ?_
  rotate_left
  · (try dsimp only at hSw); go_simp; (try with_reducible rfl)
  try simp only [List.getElem_toArray, List.getElem_cons_succ, List.getElem_cons_zero, Act.put, List.setIfInBounds_toArray, List.set_cons_zero, List.set_cons_succ]
  refine wpAnyH_take (i := 1) (v := ?_) rfl (by kernel_rfl) (by kernel_rfl) (by kernel_rfl) (fun _ _ _ h => h) (Or.inl ⟨by rfl, fun w hSw => ?_⟩) (by assumption) ?_
  rotate_left
  · (try dsimp only at hSw); go_simp; (try with_reducible rfl)
  try simp only [List.getElem_toArray, List.getElem_cons_succ, List.getElem_cons_zero, Act.put, List.setIfInBounds_toArray, List.set_cons_zero, List.set_cons_succ]
  refine wpAnyH_take (i := 2) (v := ?_) rfl (by kernel_rfl) (by kernel_rfl) (by kernel_rfl) (fun _ _ _ h => h) (Or.inl ⟨by rfl, fun w hSw => ?_⟩) (by assumption) ?_
  rotate_left
  · (try dsimp only at hSw); go_simp; (try with_reducible rfl)
  try simp only [List.getElem_toArray, List.getElem_cons_succ, List.getElem_cons_zero, Act.put, List.setIfInBounds_toArray, List.set_cons_zero, List.set_cons_succ]
  refine wpAnyH_take (i := 3) (v := ?_) rfl (by kernel_rfl) (by kernel_rfl) (by kernel_rfl) (fun _ _ _ h => h) (Or.inl ⟨by rfl, fun w hSw => ?_⟩) (by assumption) ?_
  rotate_left
  · (try dsimp only at hSw); go_simp; (try with_reducible rfl)
  try simp only [List.getElem_toArray, List.getElem_cons_succ, List.getElem_cons_zero, Act.put, List.setIfInBounds_toArray, List.set_cons_zero, List.set_cons_succ]
  refine wpAnyH_take (i := 4) (v := ?_) rfl (by kernel_rfl) (by kernel_rfl) (by kernel_rfl) (fun _ _ _ h => h) (Or.inl ⟨by rfl, fun w hSw => ?_⟩) (by assumption) ?_
  rotate_left
  · (try dsimp only at hSw); go_simp; (try with_reducible rfl)
  try simp only [List.getElem_toArray, List.getElem_cons_succ, List.getElem_cons_zero, Act.put, List.setIfInBounds_toArray, List.set_cons_zero, List.set_cons_succ]
  refine wpAnyH_take (i := 6) (v := ?_) rfl (by kernel_rfl) (by kernel_rfl) (by kernel_rfl) (fun _ _ _ h => h) (Or.inl ⟨by rfl, fun w hSw => ?_⟩) (by assumption) ?_
  rotate_left
  · (try dsimp only at hSw); go_simp; (try with_reducible rfl)
  try simp only [List.getElem_toArray, List.getElem_cons_succ, List.getElem_cons_zero, Act.put, List.setIfInBounds_toArray, List.set_cons_zero, List.set_cons_succ]
  refine wpAnyH_take (i := 7) (v := ?_) rfl (by kernel_rfl) (by kernel_rfl) (by kernel_rfl) (fun _ _ _ h => h) (Or.inl ⟨by rfl, fun w hSw => ?_⟩) (by assumption) ?_
  rotate_left
  · (try dsimp only at hSw); go_simp; (try with_reducible rfl)
  try simp only [List.getElem_toArray, List.getElem_cons_succ, List.getElem_cons_zero, Act.put, List.setIfInBounds_toArray, List.set_cons_zero, List.set_cons_succ]
  refine wpAnyH_take (i := 8) (v := ?_) rfl (by kernel_rfl) (by kernel_rfl) (by kernel_rfl) (fun _ _ _ h => h) (Or.inl ⟨by rfl, fun w hSw => ?_⟩) (by assumption) ?_
  rotate_left
  · (try dsimp only at hSw); go_simp; (try with_reducible rfl)
  try simp only [List.getElem_toArray, List.getElem_cons_succ, List.getElem_cons_zero, Act.put, List.setIfInBounds_toArray, List.set_cons_zero, List.set_cons_succ]
  refine wpAnyH_take (i := 9) (v := ?_) rfl (by kernel_rfl) (by kernel_rfl) (by kernel_rfl) (fun _ _ _ h => h) (Or.inl ⟨by rfl, fun w hSw => ?_⟩) (by assumption) ?_
  rotate_left
  · (try dsimp only at hSw); go_simp; (try with_reducible rfl)
  try simp only [List.getElem_toArray, List.getElem_cons_succ, List.getElem_cons_zero, Act.put, List.setIfInBounds_toArray, List.set_cons_zero, List.set_cons_succ]
  refine wpAnyH_take (i := 11) (v := ?_) rfl (by kernel_rfl) (by kernel_rfl) (by kernel_rfl) (fun _ _ _ h => h) (Or.inl ⟨by rfl, fun w hSw => ?_⟩) (by assumption) ?_
  rotate_left
  · (try dsimp only at hSw); go_simp; (try with_reducible rfl)
  try simp only [List.getElem_toArray, List.getElem_cons_succ, List.getElem_cons_zero, Act.put, List.setIfInBounds_toArray, List.set_cons_zero, List.set_cons_succ]
  refine wpAnyH_take (i := 12) (v := ?_) rfl (by kernel_rfl) (by kernel_rfl) (by kernel_rfl) (fun _ _ _ h => h) (Or.inl ⟨by rfl, fun w hSw => ?_⟩) (by assumption) ?_
  rotate_left
  · (try dsimp only at hSw); go_simp; (try with_reducible rfl)
  try simp only [List.getElem_toArray, List.getElem_cons_succ, List.getElem_cons_zero, Act.put, List.setIfInBounds_toArray, List.set_cons_zero, List.set_cons_succ]
  refine wpAnyH_take (i := 13) (v := ?_) rfl (by kernel_rfl) (by kernel_rfl) (by kernel_rfl) (fun _ _ _ h => h) (Or.inl ⟨by rfl, fun w hSw => ?_⟩) (by assumption) ?_
  rotate_left
  · (try dsimp only at hSw); go_simp; (try with_reducible rfl)
  try simp only [List.getElem_toArray, List.getElem_cons_succ, List.getElem_cons_zero, Act.put, List.setIfInBounds_toArray, List.set_cons_zero, List.set_cons_succ]
  refine wpAnyH_take (i := 14) (v := ?_) rfl (by kernel_rfl) (by kernel_rfl) (by kernel_rfl) (fun _ _ _ h => h) (Or.inl ⟨by rfl, fun w hSw => ?_⟩) (by assumption) ?_
  rotate_left
  · (try dsimp only at hSw); go_simp; (try with_reducible rfl)
  try simp only [List.getElem_toArray, List.getElem_cons_succ, List.getElem_cons_zero, Act.put, List.setIfInBounds_toArray, List.set_cons_zero, List.set_cons_succ]
  refine wpAnyH_ready (rs := [5]) (by kernel_rfl) (by simp) ?_
  refine AllReadyH.cons rfl (fun K hK => ?_) ?_
  rotate_left
  · exact AllReadyH.nil
  go_simp
  (go_at_call 27; (with_reducible refine (CC.out _ HN0.out).mono ?_); rintro E w1 ⟨rfl, hm, hb⟩; have HM1 := Lib.hid hm; have HB1 := Lib.hid hb; have HN1 := Lib.hid (HN0.out.trans (hb.mono HN0.out.size)); clear hm hb)
  refine hK.out _ _ ?_ (fun hHeld => ?_)
  · exact HS.out _ HN1.out
  clear hK K
  try simp only [List.getElem_toArray, List.getElem_cons_succ, List.getElem_cons_zero, Act.put, List.setIfInBounds_toArray, List.set_cons_zero, List.set_cons_succ]
  refine wpAnyH_ready (rs := [10]) (by kernel_rfl) (by simp) ?_
  refine AllReadyH.cons rfl (fun K hK => ?_) ?_
  rotate_left
  · exact AllReadyH.nil
  go_simp
  (go_at_call 28; (with_reducible refine (CL.out _ HN1.out).mono ?_); rintro E w2 ⟨ho, ss, rfl, hm, hc, hss, hb⟩; have HM2 := Lib.hid hm; have HC2 := Lib.hid hc; have HSS := Lib.hid hss; have HB2 := Lib.hid hb; have HN2 := Lib.hid (HN1.out.trans (hb.mono HN1.out.size)); clear hm hc hss hb)
  refine hK.out _ _ ?_ (fun hHeld => ?_)
  · exact HS.out _ HN2.out
  clear hK K
  try simp only [List.getElem_toArray, List.getElem_cons_succ, List.getElem_cons_zero, Act.put, List.setIfInBounds_toArray, List.set_cons_zero, List.set_cons_succ]
  refine wpAnyH_take (i := 15) (v := ?_) rfl (by kernel_rfl) (by kernel_rfl) (by kernel_rfl) (fun _ _ _ h => h) (Or.inl ⟨by rfl, fun w hSw => ?_⟩) (by assumption) ?_
  rotate_left
  · (try dsimp only at hSw); go_simp; (try with_reducible rfl)
  try simp only [List.getElem_toArray, List.getElem_cons_succ, List.getElem_cons_zero, Act.put, List.setIfInBounds_toArray, List.set_cons_zero, List.set_cons_succ]
  refine wpAnyH_ready (rs := [16]) (by kernel_rfl) (by simp) ?_
  refine AllReadyH.cons rfl (fun K hK => ?_) ?_
  rotate_left
  · exact AllReadyH.nil
  go_simp
  skip
  refine hK.out _ _ ?_ (fun hHeld => ?_)
  · exact HS.out _ (HN2.out.alloc HN2.out.size _)
  clear hK K
  try simp only [List.getElem_toArray, List.getElem_cons_succ, List.getElem_cons_zero, Act.put, List.setIfInBounds_toArray, List.set_cons_zero, List.set_cons_succ]
  refine wpAnyH_take (i := 17) (v := ?_) rfl (by kernel_rfl) (by kernel_rfl) (by kernel_rfl) (fun _ _ _ h => h) (Or.inl ⟨by rfl, fun w hSw => ?_⟩) (by assumption) ?_
  rotate_left
  · (try dsimp only at hSw); go_simp; (try with_reducible rfl)
  try simp only [List.getElem_toArray, List.getElem_cons_succ, List.getElem_cons_zero, Act.put, List.setIfInBounds_toArray, List.set_cons_zero, List.set_cons_succ]
  refine wpAnyH_done (by kernel_rfl) ?_ _
  go_wp2_with fail
  go_ret
  have hfin := twin_vm (base' := base') HV.out HBA.out HN0.out HZ0.out HB1.out HB2.out HM1.out HM2.out HC2.out HSS.out rfl
  exact ⟨_, rfl, hfin.1, hfin.2⟩
end Go.Proofs.Ytacgmhnalbbgbaa.Vau

/- What the library's EqualFunc gives at a vault's maps, and what Same gives, of nil too (layer 13, vault). Conditions: the vaults lie in memory as their cells and their maps say. (Written by tools/gen_vaur.py.) -/
namespace Go.Proofs.Ytacgmhnalbbgbaa.Vau
open Go.RowKit F64 Cmd Bat Cel Wid Go.Maps Go.WideElems Go.ChangeMaps Go.Sort
set_option linter.unusedVariables false
set_option linter.unusedSimpArgs false

/-! ### Two maps -/
theorem eq_end {D1 D2 : DataW Value} {ks1 ks2 : List Key} {f1 f2 : Key → Option Value} {G : Key → Bool} (S1 : Says D1 ks1 f1) (S2 : Says D2 ks2 f2) (hl : ks1.length = ks2.length) (h0 : ∀ s, f1 s = none → f2 s = none → G s = true) (h1 : ∀ s, (f1 s).isSome = true → f2 s = none → G s = false) (hg : ∀ s, (f1 s).isSome = true → G s = true) : ∀ s, G s = true := fun s => by
  cases hf : f1 s with
  | some v => exact hg s (by rw [hf]; rfl)
  | none =>
    cases hf2 : f2 s with
    | none => exact h0 s hf hf2
    | some u =>
      have hsub : ∀ x ∈ ks1, x ∈ ks2 := fun x hx => by
        have hx1 := (S1.mem x).1 hx
        rw [S2.mem x]
        cases h2 : f2 x with
        | some _ => rfl
        | none => have e1 := h1 x hx1 h2; rw [hg x hx1] at e1; cases e1
      have hin := nodup_all S1.nodup hsub (by omega) (x := s) ((S2.mem s).2 (by rw [hf2]; rfl))
      have := (S1.mem s).1 hin
      rw [hf] at this; cases this
theorem eq_size {D1 D2 : DataW Value} {ks1 ks2 : List Key} {f1 f2 : Key → Option Value} {G : Key → Bool} (S1 : Says D1 ks1 f1) (S2 : Says D2 ks2 f2) (hl : ks1.length ≠ ks2.length) (h1 : ∀ s, (f1 s).isSome = true → f2 s = none → G s = false) (h2 : ∀ s, f1 s = none → (f2 s).isSome = true → G s = false) : ¬ ∀ s, G s = true := fun hall => by
  have a : ∀ x ∈ ks1, x ∈ ks2 := fun x hx => by
    have hx1 := (S1.mem x).1 hx
    rw [S2.mem x]
    cases hf : f2 x with
    | some _ => rfl
    | none => have e1 := h1 x hx1 hf; rw [hall x] at e1; cases e1
  have b : ∀ x ∈ ks2, x ∈ ks1 := fun x hx => by
    have hx1 := (S2.mem x).1 hx
    rw [S1.mem x]
    cases hf : f1 x with
    | some _ => rfl
    | none => have e1 := h2 x hf hx1; rw [hall x] at e1; cases e1
  have := nodup_len S1.nodup a
  have := nodup_len S2.nodup b
  omega
theorem same_fit {f g : Bool} {z y : Nat} {c d : Cell2} (h : Fit f z c) (k : Fit g y d) : sameC (f, z) (g, y) = sameC c d := by
  unfold sameC same
  rw [h.found, k.found, h.val, k.val]
def allC (C1 C2 : Key → Cell2) : Prop := ∀ s, sameC (C1 s) (C2 s) = true
def allL (L1 L2 : Key → List Wr) : Prop := ∀ s, L1 s = L2 s
noncomputable def eqC (C1 C2 : Key → Cell2) : Bool := @decide (allC C1 C2) (Classical.propDecidable _)
noncomputable def eqL (L1 L2 : Key → List Wr) : Bool := @decide (allL L1 L2) (Classical.propDecidable _)
theorem eqC_true {C1 C2 : Key → Cell2} (h : allC C1 C2) : eqC C1 C2 = true := @decide_eq_true _ (Classical.propDecidable _) h
theorem eqC_false {C1 C2 : Key → Cell2} (h : ¬ allC C1 C2) : eqC C1 C2 = false := @decide_eq_false _ (Classical.propDecidable _) h
theorem eqL_true {L1 L2 : Key → List Wr} (h : allL L1 L2) : eqL L1 L2 = true := @decide_eq_true _ (Classical.propDecidable _) h
theorem eqL_false {L1 L2 : Key → List Wr} (h : ¬ allL L1 L2) : eqL L1 L2 = false := @decide_eq_false _ (Classical.propDecidable _) h

set_option maxHeartbeats 16000000 in
set_option maxRecDepth 100000 in
theorem eqCells_any {m1 m2 N1 N2 : Nat} {f1 f2 : Key → Option Value} {w : World} (hm1 : MapF w m1 N1 f1) (hm2 : MapF w m2 N2 f2) (G : Key → Bool) (r : Bool) (hr1 : (∀ s, G s = true) → r = true) (hr0 : (¬ ∀ s, G s = true) → r = false) (h00 : ∀ s, f1 s = none → f2 s = none → G s = true) (h10 : ∀ s, (f1 s).isSome = true → f2 s = none → G s = false) (h01 : ∀ s, f1 s = none → (f2 s).isSome = true → G s = false)
    (hv : ∀ s v, f1 s = some v → ∃ z, v = .agg #[.bool true, .float .f64 z]) (hv2 : ∀ s v, f2 s = some v → ∃ z, v = .agg #[.bool true, .float .f64 z]) (heq : ∀ s v u, f1 s = some v → f2 s = some u → ∀ W, Below w.heap.size w W → Calls Try.prog 40 #[v, u] W (RetBelow (.bool (G s)) W)) :
    Calls Try.prog 39 #[.map (some m1), .map (some m2), .func (.func 40) #[] #[]] w (RetBelow (.bool r) w) := by
  obtain ⟨D1, ks1, hD1, S1, -⟩ := hm1
  have HM2 := Lib.hid hm2
  obtain ⟨D2, ks2, hD2, S2, -⟩ := hm2
  have l1 := fun ty => hD1.len und_mc ty
  have l2 := fun ty => hD2.len und_mc ty
  rw [S1.size] at l1
  rw [S2.size] at l2
  have HEQ := Lib.hid heq
  have HV1 := Lib.hid hv
  have HV2 := Lib.hid hv2
  have HLT : Hid (m2 < w.heap.size) := Lib.hid hD2.lt
  by_cases hsz : ks1.length = ks2.length
  · have HEND : Hid ((∀ s, (f1 s).isSome = true → G s = true) → r = true) := Lib.hid fun hg => hr1 (eq_end S1 S2 hsz h00 h10 hg)
    have HBAD : Hid (∀ s, G s = false → r = false) := Lib.hid fun s hs => hr0 fun hall => by rw [hall s] at hs; cases hs
    have H10 := Lib.hid h10
    have HS1 := Lib.hid S1
    have hne : ((ks1.length : Int) != (ks2.length : Int)) = false := by rw [hsz]; simp
    have hown := hD1
    clear hD1 hD2 S1 S2 heq hv hv2 hr1 hr0 h00 h10 h01 hsz
    go_enter Try.func39, Try.ntmps39
    go_wp2_with (first
      | (at_range; refine wpList_range_own _ rfl _ 64 rfl 9 54 klaw und_mc raw m1 ks1.length D1 rfl hown ?_; intro w0 hrg0 hg0 hs0; have HRG := Lib.hid hrg0; have HG0 := Lib.hid hg0; have HS0 := Lib.hid hs0; clear hrg0 hg0 hs0)
      | fail)
    try go_frame
    clear hown l1 l2
    go_loopw [18] (fun _ wr => ∃ (left : Lit → Bool) (cnt : Nat), Hid (GoingR wr m1 w.heap.size ks1.length D1 left cnt) ∧ Hid (Below w.heap.size w wr) ∧ Hid (∀ s, (f1 s).isSome = true → left (.string s) = false → G s = true)) (fun _ wr => wr.rangeLeft m1 w.heap.size)
    case atStart => exact ⟨_, _, HRG, Lib.hid (Below.grown (Below.refl _ _) HG0.out (Nat.le_refl _) (fun k hk => by cases hk)), Lib.hid fun s h1 h2 => by rw [HS1.out.has s, h1] at h2; cases h2⟩
    case round =>
      obtain ⟨left, cnt, hrg, hbw, hgd⟩ := hrel
      go_wp2_with (first
        | (at_next; refine wp_next_raw rfl _ rfl m1 w.heap.size ks1.length D1 ks1 f1 HS1.out left cnt rfl hrg.out ?_ ?_)
        | fail)
      · refine Lib.hid fun hl0 => ?_
        have HX : Hid (r = true) := Lib.hid (HEND.out fun s h1 => hgd.out s h1 (hl0 _))
        clear hl0
        go_wp2
        go_ret
        exact ⟨ret_bool HX.out.symm, hbw.out⟩
      · refine Lib.hid ?_
        intro s v w2 cnt2 hf hlen hlk hrg2 hlt2 hg2 hs2 hen
        obtain ⟨z, rfl⟩ := HV1.out s v hf
        have HB2 : Hid (Below w.heap.size w w2) := Lib.hid (Below.grown hbw.out hg2 hbw.out.size (fun k hk => by cases hk; exact Nat.le_refl _))
        have HG2 := Lib.hid hrg2
        have HLT2 := Lib.hid hlt2
        have HF := Lib.hid hf
        have HSL : Hid (s.length ≤ 140737488351232) := Lib.hid (by omega)
        have HSTEP : Hid (G s = true → ∀ t, (f1 t).isSome = true → (left (.string t) && !(Lit.string t).sameKey (.string s)) = false → G t = true) := Lib.hid fun hgs t h1 h2 => by
          rcases left_after.1 h2 with h | rfl
          · exact hgd.out t h1 h
          · exact hgs
        have HB3 := Lib.hid (HB2.out.alloc HB2.out.size (.cells #[.bool true, .float .f64 z] 54))
        have HG3 := Lib.hid (HG2.out.alloc (.cells #[.bool true, .float .f64 z] 54))
        obtain ⟨x0, x1, x2, x3⟩ := (Bx.new w2 true z).facts
        clear hrg2 hlt2 hg2 hs2 hlk hlen hf
        cases hf2 : f2 s with
        | none =>
          have HX : Hid (r = false) := Lib.hid (HBAD.out s (H10.out s (by rw [HF.out]; rfl) hf2))
          have hlk2 := MapF.look_ok (HM2.out.below HB3.out HLT.out) und_mc zero_cell HSL.out
          rw [hf2] at hlk2
          have hlk3 : (Instr.lookup 64 (.map (some m2)) (.string (str s)) true).run Try.prog (w2.alloc (.cells #[.bool true, .float .f64 z] 54)) = .ok (.tuple #[.agg #[.bool false, .float .f64 0], .bool false]) (w2.alloc (.cells #[.bool true, .float .f64 z] 54)) := hlk2
          clear hlk2 hf2
          go_wp2_with fail
          go_ret
          exact ⟨ret_bool HX.out.symm, HB3.out.alloc HB3.out.size _⟩
        | some u =>
          obtain ⟨y, rfl⟩ := HV2.out s u hf2
          have hlk2 := MapF.look_ok (HM2.out.below HB3.out HLT.out) und_mc zero_cell HSL.out
          rw [hf2] at hlk2
          have hlk3 : (Instr.lookup 64 (.map (some m2)) (.string (str s)) true).run Try.prog (w2.alloc (.cells #[.bool true, .float .f64 z] 54)) = .ok (.tuple #[.agg #[.bool true, .float .f64 y], .bool true]) (w2.alloc (.cells #[.bool true, .float .f64 z] 54)) := hlk2
          have CE := Lib.hid (HEQ.out s _ _ HF.out hf2)
          have D2 := Lib.hid (Bx2.start w2 true z true y)
          have HB4 := Lib.hid (HB3.out.alloc HB3.out.size (.cells #[.bool true, .float .f64 y] 54))
          have HG4 := Lib.hid (HG3.out.alloc (.cells #[.bool true, .float .f64 y] 54))
          obtain ⟨a0, a1, a2, a3⟩ := D2.out.a.facts
          obtain ⟨b0, b1, b2, b3⟩ := D2.out.b.facts
          cases hgs : G s with
          | false =>
            have HX : Hid (r = false) := Lib.hid (HBAD.out s hgs)
            rw [hgs] at CE
            clear hlk2 hf2 hgs
            go_wp2_with (go_at_call 40; ((with_reducible refine (CE.out _ HB4.out).mono ?_); rintro e w4 ⟨rfl, hb⟩; have HB5 := Lib.hid (HB4.out.trans (hb.mono HB4.out.size)); clear hb))
            go_ret
            exact ⟨ret_bool HX.out.symm, HB5.out⟩
          | true =>
            have HGS := Lib.hid (HSTEP.out hgs)
            rw [hgs] at CE
            clear hlk2 hf2 hgs
            go_wp2_with (go_at_call 40; ((with_reducible refine (CE.out _ HB4.out).mono ?_); rintro e w4 ⟨rfl, hb⟩; have HB5 := Lib.hid (HB4.out.trans (hb.mono HB4.out.size)); have HG5 := Lib.hid (HG4.out.kept (grown_of hb) (by simp) (by simp)); clear hb))
            go_roundw
            case rel => exact ⟨_, cnt2, HG5, HB5, HGS⟩
            case measure => rw [HG5.out.left_eq, hrg.out.left_eq]; exact HLT2.out
  · have HX : Hid (r = false) := Lib.hid (hr0 (eq_size S1 S2 hsz h10 h01))
    have hne : ((ks1.length : Int) != (ks2.length : Int)) = true := by simp; omega
    clear hD1 hD2 S1 S2 heq hv hv2 hr1 hr0 h00 h10 h01
    go_enter Try.func39, Try.ntmps39
    go_wp2
    go_ret
    exact ⟨ret_bool HX.out.symm, Below.refl _ _⟩
set_option maxHeartbeats 16000000 in
set_option maxRecDepth 100000 in
theorem eqCells_nil {m2 N2 : Nat} {f2 : Key → Option Value} {w : World} (hm2 : MapF w m2 N2 f2) (fv : Value) (r : Bool) (hr1 : (∀ s, f2 s = none) → r = true) (hr0 : (¬ ∀ s, f2 s = none) → r = false) : Calls Try.prog 39 #[.map none, .map (some m2), fv] w (RetBelow (.bool r) w) := by
  obtain ⟨D2, ks2, hD2, S2, -⟩ := hm2
  have l1 : ∀ ty, (Builtin.len_ #[64] ty #[.map none]).run Try.prog w = .ok (.int .i64 0) w := fun ty => Maps.len_nil und_mc ty
  have l2 := fun ty => hD2.len und_mc ty
  rw [S2.size] at l2
  by_cases hs : ks2.length = 0
  · have HX : Hid (r = true) := Lib.hid (hr1 fun s => by
      cases hf : f2 s with
      | none => rfl
      | some u =>
        have h1 := (S2.mem s).2 (by rw [hf]; rfl)
        rw [List.eq_nil_of_length_eq_zero hs] at h1; cases h1)
    rw [hs] at l2
    have hrg := run_range_nilMap (P := Try.prog) w 64 _ _ und_mc
    have hnx : ∀ ty, (Instr.next (.pointer (some ⟨w.heap.size, 0, none⟩)) false ty).run Try.prog (w.alloc (.mapIter none 0 #[] 0)) = _ := fun ty => run_next_nilMap _ ty 0 0 #[]
    have HB := Lib.hid (Cmd.below_one w (.mapIter none 0 #[] 0))
    clear hD2 S2 hr1 hr0 hs
    go_enter Try.func39, Try.ntmps39
    go_wp2
    refine wp_loop_rounds 1 ?_
    rw [rounds_succ]
    go_wp2
    go_ret
    exact ⟨ret_bool HX.out.symm, HB.out⟩
  · have HX : Hid (r = false) := Lib.hid (hr0 fun hall => hs (by
      cases hk : ks2 with
      | nil => rfl
      | cons s t => have := (S2.mem s).1 (by rw [hk]; exact List.mem_cons_self); rw [hall s] at this; cases this))
    have hne : ¬ ((0 : Int) = (ks2.length : Int)) := fun e => hs (by omega)
    clear hD2 S2 hr1 hr0 hs
    go_enter Try.func39, Try.ntmps39
    go_wp2
    go_ret
    exact ⟨ret_bool HX.out.symm, Below.refl _ _⟩

set_option maxHeartbeats 16000000 in
set_option maxRecDepth 100000 in
theorem eqLogs_any {m1 m2 N1 N2 : Nat} {f1 f2 : Key → Option Value} {w : World} (hm1 : MapF w m1 N1 f1) (hm2 : MapF w m2 N2 f2) (G : Key → Bool) (r : Bool) (hr1 : (∀ s, G s = true) → r = true) (hr0 : (¬ ∀ s, G s = true) → r = false) (h00 : ∀ s, f1 s = none → f2 s = none → G s = true) (h10 : ∀ s, (f1 s).isSome = true → f2 s = none → G s = false) (h01 : ∀ s, f1 s = none → (f2 s).isSome = true → G s = false)
    (hv : ∀ s v, f1 s = some v → ∃ (p : Option Addr) (n c : Nat), v = .slice p n c) (hv2 : ∀ s v, f2 s = some v → ∃ (p : Option Addr) (n c : Nat), v = .slice p n c) (heq : ∀ s v u, f1 s = some v → f2 s = some u → ∀ W, Below w.heap.size w W → Calls Try.prog 42 #[v, u] W (RetBelow (.bool (G s)) W)) :
    Calls Try.prog 41 #[.map (some m1), .map (some m2), .func (.func 42) #[] #[]] w (RetBelow (.bool r) w) := by
  obtain ⟨D1, ks1, hD1, S1, -⟩ := hm1
  have HM2 := Lib.hid hm2
  obtain ⟨D2, ks2, hD2, S2, -⟩ := hm2
  have l1 := fun ty => hD1.len und_ml ty
  have l2 := fun ty => hD2.len und_ml ty
  rw [S1.size] at l1
  rw [S2.size] at l2
  have HEQ := Lib.hid heq
  have HV1 := Lib.hid hv
  have HV2 := Lib.hid hv2
  have HLT : Hid (m2 < w.heap.size) := Lib.hid hD2.lt
  by_cases hsz : ks1.length = ks2.length
  · have HEND : Hid ((∀ s, (f1 s).isSome = true → G s = true) → r = true) := Lib.hid fun hg => hr1 (eq_end S1 S2 hsz h00 h10 hg)
    have HBAD : Hid (∀ s, G s = false → r = false) := Lib.hid fun s hs => hr0 fun hall => by rw [hall s] at hs; cases hs
    have H10 := Lib.hid h10
    have HS1 := Lib.hid S1
    have hne : ((ks1.length : Int) != (ks2.length : Int)) = false := by rw [hsz]; simp
    have hown := hD1
    clear hD1 hD2 S1 S2 heq hv hv2 hr1 hr0 h00 h10 h01 hsz
    go_enter Try.func41, Try.ntmps41
    go_wp2_with (first
      | (at_range; refine wpList_range_own _ rfl _ 65 rfl 9 57 klaw und_ml raw m1 ks1.length D1 rfl hown ?_; intro w0 hrg0 hg0 hs0; have HRG := Lib.hid hrg0; have HG0 := Lib.hid hg0; have HS0 := Lib.hid hs0; clear hrg0 hg0 hs0)
      | fail)
    try go_frame
    clear hown l1 l2
    go_loopw [18] (fun _ wr => ∃ (left : Lit → Bool) (cnt : Nat), Hid (GoingR wr m1 w.heap.size ks1.length D1 left cnt) ∧ Hid (Below w.heap.size w wr) ∧ Hid (∀ s, (f1 s).isSome = true → left (.string s) = false → G s = true)) (fun _ wr => wr.rangeLeft m1 w.heap.size)
    case atStart => exact ⟨_, _, HRG, Lib.hid (Below.grown (Below.refl _ _) HG0.out (Nat.le_refl _) (fun k hk => by cases hk)), Lib.hid fun s h1 h2 => by rw [HS1.out.has s, h1] at h2; cases h2⟩
    case round =>
      obtain ⟨left, cnt, hrg, hbw, hgd⟩ := hrel
      go_wp2_with (first
        | (at_next; refine wp_next_raw rfl _ rfl m1 w.heap.size ks1.length D1 ks1 f1 HS1.out left cnt rfl hrg.out ?_ ?_)
        | fail)
      · refine Lib.hid fun hl0 => ?_
        have HX : Hid (r = true) := Lib.hid (HEND.out fun s h1 => hgd.out s h1 (hl0 _))
        clear hl0
        go_wp2
        go_ret
        exact ⟨ret_bool HX.out.symm, hbw.out⟩
      · refine Lib.hid ?_
        intro s v w2 cnt2 hf hlen hlk hrg2 hlt2 hg2 hs2 hen
        obtain ⟨p, n, c, rfl⟩ := HV1.out s v hf
        have HB2 : Hid (Below w.heap.size w w2) := Lib.hid (Below.grown hbw.out hg2 hbw.out.size (fun k hk => by cases hk; exact Nat.le_refl _))
        have HG2 := Lib.hid hrg2
        have HLT2 := Lib.hid hlt2
        have HF := Lib.hid hf
        have HSL : Hid (s.length ≤ 140737488351232) := Lib.hid (by omega)
        have HSTEP : Hid (G s = true → ∀ t, (f1 t).isSome = true → (left (.string t) && !(Lit.string t).sameKey (.string s)) = false → G t = true) := Lib.hid fun hgs t h1 h2 => by
          rcases left_after.1 h2 with h | rfl
          · exact hgd.out t h1 h
          · exact hgs
        have HB3 := HB2
        have HG3 := HG2
        clear hrg2 hlt2 hg2 hs2 hlk hlen hf
        cases hf2 : f2 s with
        | none =>
          have HX : Hid (r = false) := Lib.hid (HBAD.out s (H10.out s (by rw [HF.out]; rfl) hf2))
          have hlk2 := MapF.look_ok (HM2.out.below HB3.out HLT.out) und_ml zero_log HSL.out
          rw [hf2] at hlk2
          have hlk3 : (Instr.lookup 65 (.map (some m2)) (.string (str s)) true).run Try.prog w2 = .ok (.tuple #[.slice none 0 0, .bool false]) w2 := hlk2
          clear hlk2 hf2
          go_wp2_with fail
          go_ret
          exact ⟨ret_bool HX.out.symm, HB3.out⟩
        | some u =>
          obtain ⟨p', n', c', rfl⟩ := HV2.out s u hf2
          have hlk2 := MapF.look_ok (HM2.out.below HB3.out HLT.out) und_ml zero_log HSL.out
          rw [hf2] at hlk2
          have hlk3 : (Instr.lookup 65 (.map (some m2)) (.string (str s)) true).run Try.prog w2 = .ok (.tuple #[(.slice p' n' c' : Value), .bool true]) w2 := hlk2
          have CE := Lib.hid (HEQ.out s _ _ HF.out hf2)
          have HB4 := HB3
          have HG4 := HG3
          cases hgs : G s with
          | false =>
            have HX : Hid (r = false) := Lib.hid (HBAD.out s hgs)
            rw [hgs] at CE
            clear hlk2 hf2 hgs
            go_wp2_with (go_at_call 42; ((with_reducible refine (CE.out _ HB4.out).mono ?_); rintro e w4 ⟨rfl, hb⟩; have HB5 := Lib.hid (HB4.out.trans (hb.mono HB4.out.size)); clear hb))
            go_ret
            exact ⟨ret_bool HX.out.symm, HB5.out⟩
          | true =>
            have HGS := Lib.hid (HSTEP.out hgs)
            rw [hgs] at CE
            clear hlk2 hf2 hgs
            go_wp2_with (go_at_call 42; ((with_reducible refine (CE.out _ HB4.out).mono ?_); rintro e w4 ⟨rfl, hb⟩; have HB5 := Lib.hid (HB4.out.trans (hb.mono HB4.out.size)); have HG5 := Lib.hid (HG4.out.kept (grown_of hb) (by simp) (by simp)); clear hb))
            go_roundw
            case rel => exact ⟨_, cnt2, HG5, HB5, HGS⟩
            case measure => rw [HG5.out.left_eq, hrg.out.left_eq]; exact HLT2.out
  · have HX : Hid (r = false) := Lib.hid (hr0 (eq_size S1 S2 hsz h10 h01))
    have hne : ((ks1.length : Int) != (ks2.length : Int)) = true := by simp; omega
    clear hD1 hD2 S1 S2 heq hv hv2 hr1 hr0 h00 h10 h01
    go_enter Try.func41, Try.ntmps41
    go_wp2
    go_ret
    exact ⟨ret_bool HX.out.symm, Below.refl _ _⟩
set_option maxHeartbeats 16000000 in
set_option maxRecDepth 100000 in
theorem eqLogs_nil {m2 N2 : Nat} {f2 : Key → Option Value} {w : World} (hm2 : MapF w m2 N2 f2) (fv : Value) (r : Bool) (hr1 : (∀ s, f2 s = none) → r = true) (hr0 : (¬ ∀ s, f2 s = none) → r = false) : Calls Try.prog 41 #[.map none, .map (some m2), fv] w (RetBelow (.bool r) w) := by
  obtain ⟨D2, ks2, hD2, S2, -⟩ := hm2
  have l1 : ∀ ty, (Builtin.len_ #[65] ty #[.map none]).run Try.prog w = .ok (.int .i64 0) w := fun ty => Maps.len_nil und_ml ty
  have l2 := fun ty => hD2.len und_ml ty
  rw [S2.size] at l2
  by_cases hs : ks2.length = 0
  · have HX : Hid (r = true) := Lib.hid (hr1 fun s => by
      cases hf : f2 s with
      | none => rfl
      | some u =>
        have h1 := (S2.mem s).2 (by rw [hf]; rfl)
        rw [List.eq_nil_of_length_eq_zero hs] at h1; cases h1)
    rw [hs] at l2
    have hrg := run_range_nilMap (P := Try.prog) w 65 _ _ und_ml
    have hnx : ∀ ty, (Instr.next (.pointer (some ⟨w.heap.size, 0, none⟩)) false ty).run Try.prog (w.alloc (.mapIter none 0 #[] 0)) = _ := fun ty => run_next_nilMap _ ty 0 0 #[]
    have HB := Lib.hid (Cmd.below_one w (.mapIter none 0 #[] 0))
    clear hD2 S2 hr1 hr0 hs
    go_enter Try.func41, Try.ntmps41
    go_wp2
    refine wp_loop_rounds 1 ?_
    rw [rounds_succ]
    go_wp2
    go_ret
    exact ⟨ret_bool HX.out.symm, HB.out⟩
  · have HX : Hid (r = false) := Lib.hid (hr0 fun hall => hs (by
      cases hk : ks2 with
      | nil => rfl
      | cons s t => have := (S2.mem s).1 (by rw [hk]; exact List.mem_cons_self); rw [hall s] at this; cases this))
    have hne : ¬ ((0 : Int) = (ks2.length : Int)) := fun e => hs (by omega)
    clear hD2 S2 hr1 hr0 hs
    go_enter Try.func41, Try.ntmps41
    go_wp2
    go_ret
    exact ⟨ret_bool HX.out.symm, Below.refl _ _⟩
end Go.Proofs.Ytacgmhnalbbgbaa.Vau

/- What the vault's Same gives, of nil too (layer 13, vault). Conditions: the vaults lie in memory as their cells and their maps say. -/
namespace Go.Proofs.Ytacgmhnalbbgbaa.Vau
open Go.RowKit F64 Cmd Bat Cel Wid Go.Maps Go.WideElems Go.ChangeMaps Go.Sort
set_option linter.unusedVariables false
set_option linter.unusedSimpArgs false

/-- Two boxes of vaults, made in a row. -/
theorem two_vaults (w : World) (a b c d : Option Nat) (m n : Int) : Below w.heap.size w ((w.alloc (.cells #[.map a, .map b, .int .i64 m] 67)).alloc (.cells #[.map c, .map d, .int .i64 n] 67)) ∧
    ((w.alloc (.cells #[.map a, .map b, .int .i64 m] 67)).alloc (.cells #[.map c, .map d, .int .i64 n] 67)).heap[w.heap.size]? = some (.cells #[.map a, .map b, .int .i64 m] 67 (0, 0)) ∧
    ((w.alloc (.cells #[.map a, .map b, .int .i64 m] 67)).alloc (.cells #[.map c, .map d, .int .i64 n] 67)).heap[w.heap.size + 1]? = some (.cells #[.map c, .map d, .int .i64 n] 67 (0, 0)) := by
  have b1 := Cmd.below_one w (.cells #[.map a, .map b, .int .i64 m] 67)
  have b2 := Cmd.below_one (w.alloc (.cells #[.map a, .map b, .int .i64 m] 67)) (.cells #[.map c, .map d, .int .i64 n] 67)
  have s1 : (w.alloc (.cells #[.map a, .map b, .int .i64 m] 67)).heap.size = w.heap.size + 1 := by simp
  refine ⟨b1.trans (b2.mono b1.size), (b2.block _ (by omega)).trans (heap_alloc_new w _), ?_⟩
  have h := heap_alloc_new (w.alloc (.cells #[.map a, .map b, .int .i64 m] 67)) (.cells #[.map c, .map d, .int .i64 n] 67)
  rw [s1] at h; exact h
theorem vault_cells {W : World} {g : Nat} {a b : Option Nat} {m : Int} (h : W.heap[g]? = some (.cells #[.map a, .map b, .int .i64 m] 67 (0, 0))) : W.cell? ⟨g, 0, none⟩ = some (.map a) ∧ W.cell? ⟨g, 1, none⟩ = some (.map b) ∧ g < W.heap.size :=
  ⟨by simp [World.cell?, h], by simp [World.cell?, h], (Array.getElem?_eq_some_iff.1 h).1⟩
set_option maxHeartbeats 16000000 in
set_option maxRecDepth 100000 in
theorem vsame_run (v o : Value) (a b c d : Option Nat) (m n : Int) (p q : Bool) (w : World) (CH1 : Hid (∀ W, Below w.heap.size w W → Calls Try.prog 38 #[v] W (RetBelow (.agg #[.map a, .map b, .int .i64 m]) W))) (CH2 : Hid (∀ W, Below w.heap.size w W → Calls Try.prog 38 #[o] W (RetBelow (.agg #[.map c, .map d, .int .i64 n]) W)))
    (CE : Hid (∀ W, Below w.heap.size w W → Calls Try.prog 39 #[.map a, .map c, .func (.func 40) #[] #[]] W (RetBelow (.bool p) W)))
    (CL : Hid (∀ W, Below w.heap.size w W → Calls Try.prog 41 #[.map b, .map d, .func (.func 42) #[] #[]] W (RetBelow (.bool q) W)))
    (hv : ∃ x, v = .pointer x) (ho : ∃ x, o = .pointer x) :
    Calls Try.prog 14 #[v, o] w (RetBelow (.bool (p && q)) w) := by
  obtain ⟨xv, rfl⟩ := hv
  obtain ⟨xo, rfl⟩ := ho
  have CH10 := Lib.hid (CH1.out w (Below.refl _ _))
  cases p
  all_goals
    go_enter Try.func14, Try.ntmps14
    go_wp2_with (first
      | (go_at_call 38; ((with_reducible refine CH10.out.mono ?_); rintro E w1 ⟨rfl, hb⟩; have B1 := Lib.hid hb; have CH20 := Lib.hid (CH2.out w1 B1.out); clear hb CH10))
      | (go_at_call 38; ((with_reducible refine CH20.out.mono ?_); rintro E w2 ⟨rfl, hb⟩; have B2 := Lib.hid (B1.out.trans (hb.mono B1.out.size)); obtain ⟨t0, t1, t2⟩ := two_vaults w2 a b c d m n; have B3 := Lib.hid (B2.out.trans (t0.mono B2.out.size)); have T0 := Lib.hid t0; have T1 := Lib.hid t1; have T2 := Lib.hid t2; obtain ⟨x0, x1, x2⟩ := vault_cells t1; obtain ⟨y0, y1, y2⟩ := vault_cells t2; clear hb t0 t1 t2))
      | (go_at_call 39; ((with_reducible refine (CE.out _ B3.out).mono ?_); rintro E w4 ⟨rfl, hb⟩; have B4 := Lib.hid (B3.out.trans (hb.mono B3.out.size)); obtain ⟨u0, u1, u2⟩ := vault_cells ((hb.block _ (vault_cells T1.out).2.2).trans T1.out); obtain ⟨v0, v1, v2⟩ := vault_cells ((hb.block _ (vault_cells T2.out).2.2).trans T2.out); clear hb))
      | (go_at_call 41; ((with_reducible refine (CL.out _ B4.out).mono ?_); rintro E w5 ⟨rfl, hb⟩; have B5 := Lib.hid (B4.out.trans (hb.mono B4.out.size)); clear hb)))
    go_ret
    first
      | exact ⟨rfl, B5.out⟩
      | exact ⟨rfl, B4.out⟩
theorem cellIs_shape {o : Option Value} {c : Cell2} (h : CellIs o c) : ∀ v, o = some v → ∃ z, v = .agg #[.bool true, .float .f64 z] := fun v hv => by
  rw [hv] at h; obtain ⟨z, h1, -⟩ := h; exact ⟨z, h1⟩
theorem vsame_any {w : World} {base base' : Nat} {F F' : Nat → Prop} {g g' : Nat} {C C' : Key → Cell2} {L L' : Key → List Wr} {N N' : Nat} {cnt cnt' : Int} (V : VP w base F g C L N cnt) (V' : VP w base' F' g' C' L' N' cnt') : Calls Try.prog 14 #[vptr g, vptr g'] w (RetBelow (.bool (eqC C C' && eqL L L')) w) := by
  obtain ⟨mc, ml, f, h, V⟩ := V
  obtain ⟨mc', ml', f', h', V'⟩ := V'
  have e00 : ∀ s, f s = none → f' s = none → sameC (C s) (C' s) = true := fun s h1 h2 => by
    have a := V.ci s; rw [h1] at a
    have b := V'.ci s; rw [h2] at b
    rw [← same_fit a b]; decide
  have e10 : ∀ s, (f s).isSome = true → f' s = none → sameC (C s) (C' s) = false := fun s h1 h2 => by
    obtain ⟨v, hv⟩ := Option.isSome_iff_exists.1 h1
    have a := V.ci s; rw [hv] at a
    obtain ⟨z, -, hz⟩ := a
    have b := V'.ci s; rw [h2] at b
    rw [← same_fit hz b]; rfl
  have e01 : ∀ s, f s = none → (f' s).isSome = true → sameC (C s) (C' s) = false := fun s h1 h2 => by
    obtain ⟨v, hv⟩ := Option.isSome_iff_exists.1 h2
    have a := V'.ci s; rw [hv] at a
    obtain ⟨z, -, hz⟩ := a
    have b := V.ci s; rw [h1] at b
    rw [← same_fit b hz]; rfl
  refine vsame_run _ _ (some mc) (some ml) (some mc') (some ml') cnt cnt' _ _ w (Lib.hid fun W hb => held_any (V.on hb)) (Lib.hid fun W hb => held_any (V'.on hb)) (Lib.hid fun W hb => ?_) (Lib.hid fun W hb => ?_) ⟨_, rfl⟩ ⟨_, rfl⟩
  · refine eqCells_any (V.on hb).cm (V'.on hb).cm (fun s => sameC (C s) (C' s)) _ (fun hall => eqC_true hall) (fun hn => eqC_false hn) e00 e10 e01 (fun s v hv => cellIs_shape (V.ci s) v hv) (fun s v hv => cellIs_shape (V'.ci s) v hv) (fun s v u hv hu X hX => ?_)
    have a := V.ci s; rw [hv] at a
    obtain ⟨z, rfl, hz⟩ := a
    have b := V'.ci s; rw [hu] at b
    obtain ⟨y, rfl, hy⟩ := b
    have := dsame_any (true, z) (true, y) X hz.lt hy.lt
    rw [same_fit hz hy] at this; exact this
  · have hrow : ∀ s v, h s = some v → ∃ (p : Option Addr) (n c : Nat), v = .slice p n c := fun s v hv => by
      obtain ⟨p, c, e, _⟩ := Wd.Own.row (V.yes s v hv).1; exact ⟨p, _, c, e⟩
    have hrow' : ∀ s v, h' s = some v → ∃ (p : Option Addr) (n c : Nat), v = .slice p n c := fun s v hv => by
      obtain ⟨p, c, e, _⟩ := Wd.Own.row (V'.yes s v hv).1; exact ⟨p, _, c, e⟩
    refine eqLogs_any (V.on hb).lm (V'.on hb).lm (fun s => decide (L s = L' s)) _ (fun hall => eqL_true fun s => of_decide_eq_true (hall s)) (fun hn => eqL_false fun hall => hn fun s => decide_eq_true (hall s)) (fun s h1 h2 => decide_eq_true (by rw [V.no s h1, V'.no s h2])) (fun s h1 h2 => decide_eq_false (by
      obtain ⟨v, hv⟩ := Option.isSome_iff_exists.1 h1
      rw [V'.no s h2]; exact (V.yes s v hv).2)) (fun s h1 h2 => decide_eq_false (by
      obtain ⟨v, hv⟩ := Option.isSome_iff_exists.1 h2
      rw [V.no s h1]; exact fun e => (V'.yes s v hv).2 e.symm)) hrow hrow' (fun s v u hv hu X hX => ?_)
    exact wequal_any v u (L s) (L' s) X (Wd.Own.row (((V.on hb).on hX).yes s v hv).1) (Wd.Own.row (((V'.on hb).on hX).yes s u hu).1)
theorem vsame_nil {w : World} {base' : Nat} {F' : Nat → Prop} {g' : Nat} {C' : Key → Cell2} {L' : Key → List Wr} {N' : Nat} {cnt' : Int} (V' : VP w base' F' g' C' L' N' cnt') : Calls Try.prog 14 #[.pointer none, vptr g'] w (RetBelow (.bool (eqC noC C' && eqL noL L')) w) := by
  obtain ⟨mc', ml', f', h', V'⟩ := V'
  refine vsame_run _ _ none none (some mc') (some ml') 0 cnt' _ _ w (Lib.hid fun W hb => held_nil W) (Lib.hid fun W hb => held_any (V'.on hb)) (Lib.hid fun W hb => ?_) (Lib.hid fun W hb => ?_) ⟨_, rfl⟩ ⟨_, rfl⟩
  · refine eqCells_nil (V'.on hb).cm _ _ (fun hall => eqC_true fun s => ?_) (fun hn => eqC_false fun hall => hn fun s => ?_)
    · have b := V'.ci s; rw [hall s] at b
      have a : Fit false 0 (noC s) := ⟨rfl, rfl, fun _ => rfl, by decide⟩
      rw [← same_fit a b]; decide
    · cases hf : f' s with
      | none => rfl
      | some v =>
        have b := V'.ci s; rw [hf] at b
        obtain ⟨z, -, hz⟩ := b
        have a : Fit false 0 (noC s) := ⟨rfl, rfl, fun _ => rfl, by decide⟩
        have h1 := hall s
        rw [← same_fit a hz] at h1
        cases h1
  · refine eqLogs_nil (V'.on hb).lm _ _ (fun hall => eqL_true fun s => ?_) (fun hn => eqL_false fun hall => hn fun s => ?_)
    · rw [V'.no s (hall s)]; rfl
    · cases hf : h' s with
      | none => rfl
      | some v => exact absurd (hall s).symm (V'.yes s v hf).2
end Go.Proofs.Ytacgmhnalbbgbaa.Vau
