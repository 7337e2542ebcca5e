/- What the program's turned goes over: the pairs of places that stand turned (layer 19, traces). Conditions: those in each statement. -/
import Derived.Test.YtlkndpofegemdaaGreatTraO
import Derived.Test.YtlkndpofegemdaaGreatRnd
import Derived.Test.YtlkndpofegemdaaGreatTraD
import Derived.RangeFuncFrom
import Derived.Shelf.Abstract
import Derived.WalkKit
import Derived.OwnWalkIn
import Derived.TacticsInMore
import Derived.RegionIn
import Derived.LoopNIn
import Derived.LoopIn
namespace Go.Proofs.YtlkndpofegemdaaGreat.Tra
open Go.RowKit Cmd Bat Ids Rec Wid Gra Rea Cps
set_option linter.unusedVariables false
set_option linter.unusedSimpArgs false
attribute [local go_sem] Oper.semAt_some

/-! ### The turned pairs -/
abbrev TP (ps : List Nat) : Type := { x : Nat × Nat // x.1 < x.2 ∧ x.2 < ps.length ∧ nthN ps x.2 < nthN ps x.1 }
def prTo (ps : List Nat) (i : Nat) : Nat → List (TP ps)
  | 0 => []
  | k + 1 => prTo ps i k ++ (if h : i < k ∧ k < ps.length ∧ nthN ps k < nthN ps i then [⟨(i, k), h⟩] else [])
def prs (ps : List Nat) : Nat → List (TP ps)
  | 0 => []
  | i + 1 => prs ps i ++ prTo ps i ps.length
theorem prTo_len (ps : List Nat) (i : Nat) : ∀ k, k ≤ ps.length → (prTo ps i k).length = invTo ps i k
  | 0, _ => rfl
  | k + 1, h => by
    rw [prTo, invTo, List.length_append, prTo_len ps i k (by omega)]
    by_cases e : i < k ∧ nthN ps k < nthN ps i
    · rw [if_pos e, dif_pos ⟨e.1, by omega, e.2⟩]; rfl
    · rw [if_neg e, dif_neg (fun h => e ⟨h.1, h.2.2⟩)]; rfl
theorem prs_len (ps : List Nat) : ∀ n, (prs ps n).length = inv ps n
  | 0 => rfl
  | n + 1 => by rw [prs, inv, List.length_append, prs_len ps n, prTo_len ps n _ (Nat.le_refl _)]
theorem prTo_low (ps : List Nat) (i : Nat) : ∀ k, k ≤ i + 1 → prTo ps i k = []
  | 0, _ => rfl
  | k + 1, h => by rw [prTo, prTo_low ps i k (by omega), dif_neg (by omega)]; rfl
theorem mem_prTo {ps : List Nat} (x : TP ps) : ∀ k, x.1.2 < k → x ∈ prTo ps x.1.1 k
  | 0, h => by omega
  | k + 1, h => by
    rw [prTo]
    by_cases e : x.1.2 < k
    · exact List.mem_append_left _ (mem_prTo x k e)
    · obtain rfl : k = x.1.2 := by omega
      rw [dif_pos x.2]
      exact List.mem_append_right _ (List.mem_singleton.2 rfl)
theorem mem_prs {ps : List Nat} (x : TP ps) : ∀ n, x.1.1 < n → x ∈ prs ps n
  | 0, h => by omega
  | n + 1, h => by
    rw [prs]
    by_cases e : x.1.1 < n
    · exact List.mem_append_left _ (mem_prs x n e)
    · obtain rfl : n = x.1.1 := by omega
      exact List.mem_append_right _ (mem_prTo x _ x.2.2.1)
theorem prs_few {ps : List Nat} (h : ps.length ≤ 1000) {k t : Nat} (hk : k < ps.length) (ht : t ≤ ps.length) : (prs ps k ++ prTo ps k t).length < 2000000 := by
  have h1 := inv_le ps k
  have h2 := invTo_le ps k t
  have h3 : k * ps.length ≤ 1000 * 1000 := Nat.mul_le_mul (by omega) h
  rw [List.length_append, prs_len, prTo_len ps k t ht]
  omega
theorem prTo_yes {ps : List Nat} {i k : Nat} (h : i < k ∧ k < ps.length ∧ nthN ps k < nthN ps i) : prTo ps i (k + 1) = prTo ps i k ++ [⟨(i, k), h⟩] := by rw [prTo, dif_pos h]
theorem prTo_no {ps : List Nat} {i k : Nat} (h : ¬ nthN ps k < nthN ps i) : prTo ps i (k + 1) = prTo ps i k := by rw [prTo, dif_neg (fun e => h e.2.2), List.append_nil]
def encP {ps : List Nat} (x : TP ps) : Array Value := #[.int .i64 (x.1.1 : Int), .int .i64 (x.1.2 : Int)]

/-! ### The iterator -/
abbrev turnFn (B : Nat) : Value := .func (.func 42) #[] #[.pointer (some ⟨B, 0, none⟩)]
theorem turned_any (p : Option Addr) (n c : Nat) (w : World) : Calls Tryz.prog 23 #[.slice p n c] w fun e w' => e = .returned (turnFn w.heap.size) ∧ w' = w.alloc (.cells #[.slice p n c] 58) := by
  go_enter Tryz.func23, Tryz.ntmps23
  go_wp2
  go_ret
  exact ⟨rfl, rfl⟩
/-- What a round keeps: what lies low, and the box of the row. -/
structure Kp2 (n0 Bm : Nat) (W W' : World) : Prop where
  low : Below n0 W W'
  box : W'.heap[Bm]? = W.heap[Bm]?
theorem Kp2.refl (n0 Bm : Nat) (W : World) : Kp2 n0 Bm W W := ⟨Below.refl _ _, rfl⟩
theorem Kp2.trans {n0 Bm : Nat} {A B C : World} (h : Kp2 n0 Bm A B) (k : Kp2 n0 Bm B C) : Kp2 n0 Bm A C := ⟨h.low.trans k.low, k.box.trans h.box⟩
theorem Kp2.drew {n0 Bm : Nat} {A B : World} (h : Kp2 n0 Bm A B) : Kp2 n0 Bm A B.drew := ⟨h.low.drew, h.box⟩
theorem Kp2.put {n0 Bm : Nat} {w : World} (h0 : n0 ≤ w.heap.size) (h1 : Bm < w.heap.size) (W : World) (l : Nat) (o o' : Obj) (hl : w.heap.size ≤ l) (h : W.heap[l]? = some o) (hc : o.isCells = false) (hw : o.isWalk = false) : Kp2 n0 Bm W (W.putObj l o') := ⟨belowK_b (w := w) h0 W l o o' hl h hc hw, World.putObj_heap_other (by omega)⟩
set_option maxRecDepth 100000 in
set_option maxHeartbeats 4000000 in
theorem turned1_any (F : Fence) (n : Nat) (hf : F.fn 42) (hro : F.round = none) (hn : 1 ≤ n) (l Bm n0 : Nat) (ps : List Nat) (p : Option Addr) (cap : Nat) (J Jx : List (TP ps) → World → Prop) (hps : ps.length ≤ 1000)
    (hY : ∀ pre x W, J pre W → pre.length < 2000000 → YieldAt F (n - 1) Tryz.prog l (encP x) W fun e W' => (e = .returned (.bool true) ∧ J (pre ++ [x]) W' ∧ Kp2 n0 Bm W W') ∨ (e = .returned (.bool false) ∧ Jx (pre ++ [x]) W'))
    (W : World) (hJ : AbidesFrom W.heap.size J) (hm : W.cell? ⟨Bm, 0, none⟩ = some (.slice p ps.length cap)) (hr : ps.length = 0 ∨ ∃ B off, p = some ⟨B, off, none⟩ ∧ B < n0 ∧ Hid (layN.In W B off ps)) (h0 : J [] W) :
    CallsIn F n Tryz.prog 42 #[.func (.yield l) #[] #[], .pointer (some ⟨Bm, 0, none⟩)] W fun e W' => (∃ v, e = .returned v) ∧
      ((∃ xs, xs = prs ps ps.length ∧ J xs W') ∨ (∃ pre, True ∧ Jx pre W')) := by
  have HJ := Lib.hid hJ
  have HY := Lib.hid hY
  have HC := Lib.hid (fun W' (hW : Kp2 n0 Bm W W') => (World.cell?_of_block (w := W) (a := ⟨Bm, 0, none⟩) hW.box).trans hm)
  have HDR := Lib.hid (fun (pre : List (TP ps)) (X : World) (h : J pre X) => hJ pre X X.drew none h ⟨rfl, rfl, rfl, Nat.le_refl _, fun _ _ _ => rfl⟩ (fun r e => by cases e))
  have H0 := Lib.hid h0
  obtain ⟨m, hm'⟩ : ∃ m, m = ps.length := ⟨_, rfl⟩
  have HM := Lib.hid hm'
  rw [← hm'] at hps hm hr HC
  clear hJ hY h0 hm'
  refine callsIn_of_wp Tryz.func42 rfl hf ?_ hro
  simp only [Tryz.ntmps42, List.size_toArray, List.length_cons, List.length_nil, Nat.reduceAdd, Nat.reduceSub, Array.replicate_succ, Array.replicate_zero, List.push_toArray, List.append_toArray, List.nil_append, List.cons_append]
  gi_wp2
  clear hm
  gi_loopw [7] (fun i X => ∃ k : Nat, i = .int .i64 k ∧ k ≤ m ∧ Hid (J (prs ps k) X) ∧ Hid (Kp2 n0 Bm W X)) (fun i _ => m - (intOf i).toNat)
  case atStart => exact ⟨0, rfl, Nat.zero_le _, H0, Lib.hid (Kp2.refl _ _ _)⟩
  case round =>
    clear H0
    obtain ⟨k, rfl, hk, HK, HB⟩ := hrel
    have k0 : (0 : Int) ≤ k := by omega
    by_cases hkm : k < m
    · have km : (k : Int) < m := by omega
      obtain ⟨B, off, rfl, hBn, HR⟩ := hr.resolve_left (by omega)
      have HBn := Lib.hid hBn
      have HKL : Hid (k < ps.length) := Lib.hid (by rw [← HM.out]; exact hkm)
      have HI : Hid (J (prs ps k ++ prTo ps k (k + 1)) wr) := Lib.hid (by rw [prTo_low ps k (k + 1) (Nat.le_refl _), List.append_nil]; exact HK.out)
      clear hr hBn HK
      gi_wp2
      gi_loopw [4] (fun b X => ∃ t : Nat, b = .int .i64 t ∧ k + 1 ≤ t ∧ t ≤ m ∧ Hid (J (prs ps k ++ prTo ps k t) X) ∧ Hid (Kp2 n0 Bm W X)) (fun b _ => m - (intOf b).toNat)
      case atStart => exact ⟨k + 1, by go_num, Nat.le_refl _, by omega, HI, HB⟩
      case round =>
        clear HI HB
        obtain ⟨t, rfl, ht1, ht, HT, HB⟩ := hrel
        have t0 : (0 : Int) ≤ t := by omega
        have hbx := HC.out _ HB.out
        by_cases htm : t < m
        · have tm : (t : Int) < m := by omega
          have HTL : Hid (t < ps.length) := Lib.hid (by rw [← HM.out]; exact htm)
          obtain ⟨x, hx⟩ : ∃ x, x = nthN ps k := ⟨_, rfl⟩
          obtain ⟨y, hy⟩ : ∃ y, y = nthN ps t := ⟨_, rfl⟩
          have HX := Lib.hid hx
          have HYY := Lib.hid hy
          have d1 : wr.drew.cell? ⟨B, off + k, none⟩ = some (.int .i64 (x : Int)) := (HB.out.low.cell (p := ⟨B, off + k, none⟩) HBn.out).trans (by rw [hx]; exact row_n HR.out HKL.out)
          have d2 : wr.drew.cell? ⟨B, off + t, none⟩ = some (.int .i64 (y : Int)) := (HB.out.low.cell (p := ⟨B, off + t, none⟩) HBn.out).trans (by rw [hy]; exact row_n HR.out HTL.out)
          have d0 : wr.drew.cell? ⟨Bm, 0, none⟩ = some (.slice (some ⟨B, off, none⟩) m cap) := hbx
          have HV : Hid (Kp2 n0 Bm W wr.drew) := Lib.hid HB.out.drew
          have HJV := Lib.hid (HDR.out _ _ HT.out)
          clear hx hy
          by_cases hyx : y < x
          · have yx : (y : Int) < x := by omega
            have hgt : decide ((y : Int) < x) = true := decide_eq_true yx
            have hTP : k < t ∧ t < ps.length ∧ nthN ps t < nthN ps k := ⟨by omega, HTL.out, by rw [← HX.out, ← HYY.out]; exact hyx⟩
            obtain ⟨fn, tmps, assign, body, hy, hR⟩ := HY.out (prs ps k ++ prTo ps k t) ⟨(k, t), hTP⟩ wr.drew HJV.out (prs_few (by rw [← HM.out]; exact hps) HKL.out (by rw [← HM.out]; exact ht))
            have hy2 : (Instr.yield l #[.int .i64 (k : Int), .int .i64 (t : Int)]).run Tryz.prog wr.drew = .ok (.round l fn tmps assign body) wr.drew := hy
            have HR2 := Lib.hid hR
            have HTP := Lib.hid (prTo_yes hTP)
            clear hy hR
            gi_wp2
            refine wpIn_region_any (by kernel_rfl) ?_
            change wpAnyIn _ _ _ _ _ _ _ _ _ (World.drew _)
            generalize wr.drew = V at *
            apply Rnd.join0
            case h1 =>
              intro tail
              refine wpAnyIn_take (i := 1) (v := ?_) hro rfl (by kernel_rfl) (by kernel_rfl) (by kernel_rfl) (fun _ _ _ h => h) ⟨Or.inl ⟨by rfl, fun w => ?_⟩, fun _ => rfl⟩ ?_
              rotate_left
              · go_simp; (try with_reducible rfl)
              try simp only [List.getElem_toArray, List.getElem_cons_succ, List.getElem_cons_zero, Act.put, List.setIfInBounds_toArray, List.set_cons_zero, List.set_cons_succ]
              refine wpAnyIn_take (i := 5) (v := ?_) hro rfl (by kernel_rfl) (by kernel_rfl) (by kernel_rfl) (fun _ _ _ h => h) ⟨Or.inl ⟨by rfl, fun w => ?_⟩, fun _ => rfl⟩ ?_
              rotate_left
              · go_simp; (try with_reducible rfl)
              try simp only [List.getElem_toArray, List.getElem_cons_succ, List.getElem_cons_zero, Act.put, List.setIfInBounds_toArray, List.set_cons_zero, List.set_cons_succ]
              refine wpAnyIn_ready (rs := [0, 4]) (by kernel_rfl) (by simp) ?_
              refine AllReadyIn.cons rfl (fun K hK => ?_) ?_
              · go_simp
                refine hK _ _ ?_
                clear hK K
                try simp only [List.getElem_toArray, List.getElem_cons_succ, List.getElem_cons_zero, Act.put, List.setIfInBounds_toArray, List.set_cons_zero, List.set_cons_succ]
                refine wpAnyIn_take (i := 2) (v := ?_) hro rfl (by kernel_rfl) (by kernel_rfl) (by kernel_rfl) (fun _ _ _ h => h) ⟨Or.inl ⟨by rfl, fun w => ?_⟩, fun _ => rfl⟩ ?_
                rotate_left
                · go_simp; (try with_reducible rfl)
                try simp only [List.getElem_toArray, List.getElem_cons_succ, List.getElem_cons_zero, Act.put, List.setIfInBounds_toArray, List.set_cons_zero, List.set_cons_succ]
                refine wpAnyIn_ready (rs := [3, 4]) (by kernel_rfl) (by simp) ?_
                refine AllReadyIn.cons rfl (fun K hK => ?_) ?_
                · go_simp
                  refine hK _ _ ?_
                  clear hK K
                  try simp only [List.getElem_toArray, List.getElem_cons_succ, List.getElem_cons_zero, Act.put, List.setIfInBounds_toArray, List.set_cons_zero, List.set_cons_succ]
                  refine wpAnyIn_ready (rs := [4]) (by kernel_rfl) (by simp) ?_
                  refine AllReadyIn.cons rfl (fun K hK => ?_) ?_
                  · go_simp
                    refine hK _ _ ?_
                    clear hK K
                    try simp only [List.getElem_toArray, List.getElem_cons_succ, List.getElem_cons_zero, Act.put, List.setIfInBounds_toArray, List.set_cons_zero, List.set_cons_succ]
                    refine wpAnyIn_take (i := 6) (v := ?_) hro rfl (by kernel_rfl) (by kernel_rfl) (by kernel_rfl) (fun _ _ _ h => h) ⟨Or.inl ⟨by rfl, fun w => ?_⟩, fun _ => rfl⟩ ?_
                    rotate_left
                    · go_simp; (try with_reducible rfl)
                    try simp only [List.getElem_toArray, List.getElem_cons_succ, List.getElem_cons_zero, Act.put, List.setIfInBounds_toArray, List.set_cons_zero, List.set_cons_succ]
                    refine wpAnyIn_ready (rs := [7]) (by kernel_rfl) (by simp) ?_
                    refine AllReadyIn.cons rfl (fun K hK => ?_) ?_
                    · go_simp
                      refine hK _ _ ?_
                      clear hK K
                      try simp only [List.getElem_toArray, List.getElem_cons_succ, List.getElem_cons_zero, Act.put, List.setIfInBounds_toArray, List.set_cons_zero, List.set_cons_succ]
                      refine Rnd.to_listedIn (L' := #[true, true, true, true, true, true, true, true, false, false, false, false, false, false, false, false]) (f' := 8) (by kernel_rfl) (by kernel_rfl) ?_
                      exact tail
                    exact AllReadyIn.nil
                  exact AllReadyIn.nil
                refine AllReadyIn.cons rfl (fun K hK => ?_) ?_
                · go_simp
                  refine hK _ _ ?_
                  clear hK K
                  try simp only [List.getElem_toArray, List.getElem_cons_succ, List.getElem_cons_zero, Act.put, List.setIfInBounds_toArray, List.set_cons_zero, List.set_cons_succ]
                  refine wpAnyIn_take (i := 6) (v := ?_) hro rfl (by kernel_rfl) (by kernel_rfl) (by kernel_rfl) (fun _ _ _ h => h) ⟨Or.inl ⟨by rfl, fun w => ?_⟩, fun _ => rfl⟩ ?_
                  rotate_left
                  · go_simp; (try with_reducible rfl)
                  try simp only [List.getElem_toArray, List.getElem_cons_succ, List.getElem_cons_zero, Act.put, List.setIfInBounds_toArray, List.set_cons_zero, List.set_cons_succ]
                  refine wpAnyIn_ready (rs := [3, 7]) (by kernel_rfl) (by simp) ?_
                  refine AllReadyIn.cons rfl (fun K hK => ?_) ?_
                  · go_simp
                    refine hK _ _ ?_
                    clear hK K
                    try simp only [List.getElem_toArray, List.getElem_cons_succ, List.getElem_cons_zero, Act.put, List.setIfInBounds_toArray, List.set_cons_zero, List.set_cons_succ]
                    refine wpAnyIn_ready (rs := [7]) (by kernel_rfl) (by simp) ?_
                    refine AllReadyIn.cons rfl (fun K hK => ?_) ?_
                    · go_simp
                      refine hK _ _ ?_
                      clear hK K
                      try simp only [List.getElem_toArray, List.getElem_cons_succ, List.getElem_cons_zero, Act.put, List.setIfInBounds_toArray, List.set_cons_zero, List.set_cons_succ]
                      refine Rnd.to_listedIn (L' := #[true, true, true, true, true, true, true, true, false, false, false, false, false, false, false, false]) (f' := 8) (by kernel_rfl) (by kernel_rfl) ?_
                      exact tail
                    exact AllReadyIn.nil
                  refine AllReadyIn.cons rfl (fun K hK => ?_) ?_
                  · go_simp
                    refine hK _ _ ?_
                    clear hK K
                    try simp only [List.getElem_toArray, List.getElem_cons_succ, List.getElem_cons_zero, Act.put, List.setIfInBounds_toArray, List.set_cons_zero, List.set_cons_succ]
                    refine wpAnyIn_ready (rs := [3]) (by kernel_rfl) (by simp) ?_
                    refine AllReadyIn.cons rfl (fun K hK => ?_) ?_
                    · go_simp
                      refine hK _ _ ?_
                      clear hK K
                      try simp only [List.getElem_toArray, List.getElem_cons_succ, List.getElem_cons_zero, Act.put, List.setIfInBounds_toArray, List.set_cons_zero, List.set_cons_succ]
                      refine Rnd.to_listedIn (L' := #[true, true, true, true, true, true, true, true, false, false, false, false, false, false, false, false]) (f' := 8) (by kernel_rfl) (by kernel_rfl) ?_
                      exact tail
                    exact AllReadyIn.nil
                  exact AllReadyIn.nil
                exact AllReadyIn.nil
              refine AllReadyIn.cons rfl (fun K hK => ?_) ?_
              · go_simp
                refine hK _ _ ?_
                clear hK K
                try simp only [List.getElem_toArray, List.getElem_cons_succ, List.getElem_cons_zero, Act.put, List.setIfInBounds_toArray, List.set_cons_zero, List.set_cons_succ]
                refine wpAnyIn_take (i := 6) (v := ?_) hro rfl (by kernel_rfl) (by kernel_rfl) (by kernel_rfl) (fun _ _ _ h => h) ⟨Or.inl ⟨by rfl, fun w => ?_⟩, fun _ => rfl⟩ ?_
                rotate_left
                · go_simp; (try with_reducible rfl)
                try simp only [List.getElem_toArray, List.getElem_cons_succ, List.getElem_cons_zero, Act.put, List.setIfInBounds_toArray, List.set_cons_zero, List.set_cons_succ]
                refine wpAnyIn_ready (rs := [0, 7]) (by kernel_rfl) (by simp) ?_
                refine AllReadyIn.cons rfl (fun K hK => ?_) ?_
                · go_simp
                  refine hK _ _ ?_
                  clear hK K
                  try simp only [List.getElem_toArray, List.getElem_cons_succ, List.getElem_cons_zero, Act.put, List.setIfInBounds_toArray, List.set_cons_zero, List.set_cons_succ]
                  refine wpAnyIn_take (i := 2) (v := ?_) hro rfl (by kernel_rfl) (by kernel_rfl) (by kernel_rfl) (fun _ _ _ h => h) ⟨Or.inl ⟨by rfl, fun w => ?_⟩, fun _ => rfl⟩ ?_
                  rotate_left
                  · go_simp; (try with_reducible rfl)
                  try simp only [List.getElem_toArray, List.getElem_cons_succ, List.getElem_cons_zero, Act.put, List.setIfInBounds_toArray, List.set_cons_zero, List.set_cons_succ]
                  refine wpAnyIn_ready (rs := [3, 7]) (by kernel_rfl) (by simp) ?_
                  refine AllReadyIn.cons rfl (fun K hK => ?_) ?_
                  · go_simp
                    refine hK _ _ ?_
                    clear hK K
                    try simp only [List.getElem_toArray, List.getElem_cons_succ, List.getElem_cons_zero, Act.put, List.setIfInBounds_toArray, List.set_cons_zero, List.set_cons_succ]
                    refine wpAnyIn_ready (rs := [7]) (by kernel_rfl) (by simp) ?_
                    refine AllReadyIn.cons rfl (fun K hK => ?_) ?_
                    · go_simp
                      refine hK _ _ ?_
                      clear hK K
                      try simp only [List.getElem_toArray, List.getElem_cons_succ, List.getElem_cons_zero, Act.put, List.setIfInBounds_toArray, List.set_cons_zero, List.set_cons_succ]
                      refine Rnd.to_listedIn (L' := #[true, true, true, true, true, true, true, true, false, false, false, false, false, false, false, false]) (f' := 8) (by kernel_rfl) (by kernel_rfl) ?_
                      exact tail
                    exact AllReadyIn.nil
                  refine AllReadyIn.cons rfl (fun K hK => ?_) ?_
                  · go_simp
                    refine hK _ _ ?_
                    clear hK K
                    try simp only [List.getElem_toArray, List.getElem_cons_succ, List.getElem_cons_zero, Act.put, List.setIfInBounds_toArray, List.set_cons_zero, List.set_cons_succ]
                    refine wpAnyIn_ready (rs := [3]) (by kernel_rfl) (by simp) ?_
                    refine AllReadyIn.cons rfl (fun K hK => ?_) ?_
                    · go_simp
                      refine hK _ _ ?_
                      clear hK K
                      try simp only [List.getElem_toArray, List.getElem_cons_succ, List.getElem_cons_zero, Act.put, List.setIfInBounds_toArray, List.set_cons_zero, List.set_cons_succ]
                      refine Rnd.to_listedIn (L' := #[true, true, true, true, true, true, true, true, false, false, false, false, false, false, false, false]) (f' := 8) (by kernel_rfl) (by kernel_rfl) ?_
                      exact tail
                    exact AllReadyIn.nil
                  exact AllReadyIn.nil
                refine AllReadyIn.cons rfl (fun K hK => ?_) ?_
                · go_simp
                  refine hK _ _ ?_
                  clear hK K
                  try simp only [List.getElem_toArray, List.getElem_cons_succ, List.getElem_cons_zero, Act.put, List.setIfInBounds_toArray, List.set_cons_zero, List.set_cons_succ]
                  refine wpAnyIn_ready (rs := [0]) (by kernel_rfl) (by simp) ?_
                  refine AllReadyIn.cons rfl (fun K hK => ?_) ?_
                  · go_simp
                    refine hK _ _ ?_
                    clear hK K
                    try simp only [List.getElem_toArray, List.getElem_cons_succ, List.getElem_cons_zero, Act.put, List.setIfInBounds_toArray, List.set_cons_zero, List.set_cons_succ]
                    refine wpAnyIn_take (i := 2) (v := ?_) hro rfl (by kernel_rfl) (by kernel_rfl) (by kernel_rfl) (fun _ _ _ h => h) ⟨Or.inl ⟨by rfl, fun w => ?_⟩, fun _ => rfl⟩ ?_
                    rotate_left
                    · go_simp; (try with_reducible rfl)
                    try simp only [List.getElem_toArray, List.getElem_cons_succ, List.getElem_cons_zero, Act.put, List.setIfInBounds_toArray, List.set_cons_zero, List.set_cons_succ]
                    refine wpAnyIn_ready (rs := [3]) (by kernel_rfl) (by simp) ?_
                    refine AllReadyIn.cons rfl (fun K hK => ?_) ?_
                    · go_simp
                      refine hK _ _ ?_
                      clear hK K
                      try simp only [List.getElem_toArray, List.getElem_cons_succ, List.getElem_cons_zero, Act.put, List.setIfInBounds_toArray, List.set_cons_zero, List.set_cons_succ]
                      refine Rnd.to_listedIn (L' := #[true, true, true, true, true, true, true, true, false, false, false, false, false, false, false, false]) (f' := 8) (by kernel_rfl) (by kernel_rfl) ?_
                      exact tail
                    exact AllReadyIn.nil
                  exact AllReadyIn.nil
                exact AllReadyIn.nil
              exact AllReadyIn.nil
            case h2 =>
              refine wpAnyIn_take (i := 8) (v := ?_) hro rfl (by kernel_rfl) (by kernel_rfl) (by kernel_rfl) (fun _ _ _ h => h) ⟨Or.inl ⟨by rfl, fun w => ?_⟩, fun _ => rfl⟩ ?_
              rotate_left
              · go_simp; (try with_reducible rfl)
              try simp only [List.getElem_toArray, List.getElem_cons_succ, List.getElem_cons_zero, Act.put, List.setIfInBounds_toArray, List.set_cons_zero, List.set_cons_succ]
              refine wpAnyIn_take (i := 9) (v := ?_) hro rfl (by kernel_rfl) (by kernel_rfl) (by kernel_rfl) (fun _ _ _ h => h) ⟨Or.inl ⟨by rfl, fun w => ?_⟩, fun _ => rfl⟩ ?_
              rotate_left
              · go_simp; (try with_reducible rfl)
              try simp only [List.getElem_toArray, List.getElem_cons_succ, List.getElem_cons_zero, Act.put, List.setIfInBounds_toArray, List.set_cons_zero, List.set_cons_succ]
              refine wpAnyIn_take (i := 10) (v := ?_) hro rfl (by kernel_rfl) (by kernel_rfl) (by kernel_rfl) (fun _ _ _ h => h) ⟨Or.inl ⟨by rfl, fun w => ?_⟩, fun _ => rfl⟩ ?_
              rotate_left
              · go_simp; (try with_reducible rfl)
              try simp only [List.getElem_toArray, List.getElem_cons_succ, List.getElem_cons_zero, Act.put, List.setIfInBounds_toArray, List.set_cons_zero, List.set_cons_succ]
              refine wpAnyIn_take (i := 11) (v := ?_) hro rfl (by kernel_rfl) (by kernel_rfl) (by kernel_rfl) (fun _ _ _ h => h) ⟨Or.inl ⟨by rfl, fun w => ?_⟩, fun _ => rfl⟩ ?_
              rotate_left
              · go_simp; (try with_reducible rfl)
              try simp only [List.getElem_toArray, List.getElem_cons_succ, List.getElem_cons_zero, Act.put, List.setIfInBounds_toArray, List.set_cons_zero, List.set_cons_succ]
              refine wpAnyIn_take (i := 12) (v := ?_) hro rfl (by kernel_rfl) (by kernel_rfl) (by kernel_rfl) (fun _ _ _ h => h) ⟨Or.inl ⟨by rfl, fun w => ?_⟩, fun _ => rfl⟩ ?_
              rotate_left
              · go_simp; (try with_reducible rfl)
              try simp only [List.getElem_toArray, List.getElem_cons_succ, List.getElem_cons_zero, Act.put, List.setIfInBounds_toArray, List.set_cons_zero, List.set_cons_succ]
              refine wpAnyIn_ready (rs := [13]) (by kernel_rfl) (by simp) ?_
              refine AllReadyIn.cons rfl (fun K hK => ?_) ?_
              rotate_left
              · exact AllReadyIn.nil
              go_simp
              refine HR2.out.mono ?_
              rintro e W3 (⟨rfl, hJ3, hb3⟩ | ⟨rfl, hJx3⟩)
              · refine hK _ _ ?_
                clear hK K
                have HJ3 := Lib.hid hJ3
                have HB3 := Lib.hid (HV.out.trans hb3)
                clear hJ3 hb3
                try simp only [List.getElem_toArray, List.getElem_cons_succ, List.getElem_cons_zero, Act.put, List.setIfInBounds_toArray, List.set_cons_zero, List.set_cons_succ]
                refine wpAnyIn_take (i := 14) (v := ?_) hro rfl (by kernel_rfl) (by kernel_rfl) (by kernel_rfl) (fun _ _ _ h => h) ⟨Or.inl ⟨by rfl, fun w => ?_⟩, fun _ => rfl⟩ ?_
                rotate_left
                · go_simp; (try with_reducible rfl)
                try simp only [List.getElem_toArray, List.getElem_cons_succ, List.getElem_cons_zero, Act.put, List.setIfInBounds_toArray, List.set_cons_zero, List.set_cons_succ]
                refine wpAnyIn_take (i := 15) (v := ?_) hro rfl (by kernel_rfl) (by kernel_rfl) (by kernel_rfl) (fun _ _ _ h => h) ⟨Or.inl ⟨by rfl, fun w => ?_⟩, fun _ => rfl⟩ ?_
                rotate_left
                · go_simp; (try with_reducible rfl)
                try simp only [List.getElem_toArray, List.getElem_cons_succ, List.getElem_cons_zero, Act.put, List.setIfInBounds_toArray, List.set_cons_zero, List.set_cons_succ]
                refine wpAnyIn_done (by kernel_rfl) ?_ _
                gi_wp2
                go_roundw
                case rel => exact ⟨t + 1, by go_num, by omega, by omega, Lib.hid (by rw [HTP.out, ← List.append_assoc]; exact HJ3.out), HB3⟩
                case measure => simp [intOf]; omega
              · refine hK _ _ ?_
                clear hK K
                have HJ3 := Lib.hid hJx3
                clear hJx3
                try simp only [List.getElem_toArray, List.getElem_cons_succ, List.getElem_cons_zero, Act.put, List.setIfInBounds_toArray, List.set_cons_zero, List.set_cons_succ]
                refine wpAnyIn_take (i := 14) (v := ?_) hro rfl (by kernel_rfl) (by kernel_rfl) (by kernel_rfl) (fun _ _ _ h => h) ⟨Or.inl ⟨by rfl, fun w => ?_⟩, fun _ => rfl⟩ ?_
                rotate_left
                · go_simp; (try with_reducible rfl)
                try simp only [List.getElem_toArray, List.getElem_cons_succ, List.getElem_cons_zero, Act.put, List.setIfInBounds_toArray, List.set_cons_zero, List.set_cons_succ]
                refine wpAnyIn_take (i := 15) (v := ?_) hro rfl (by kernel_rfl) (by kernel_rfl) (by kernel_rfl) (fun _ _ _ h => h) ⟨Or.inl ⟨by rfl, fun w => ?_⟩, fun _ => rfl⟩ ?_
                rotate_left
                · go_simp; (try with_reducible rfl)
                try simp only [List.getElem_toArray, List.getElem_cons_succ, List.getElem_cons_zero, Act.put, List.setIfInBounds_toArray, List.set_cons_zero, List.set_cons_succ]
                refine wpAnyIn_done (by kernel_rfl) ?_ _
                gi_wp2
                refine bodyPost_ret (results_none rfl _ _ _) rfl ?_
                exact ⟨⟨_, rfl⟩, .inr ⟨_, trivial, HJ3.out⟩⟩
          · have yx : ¬ ((y : Int) < x) := by omega
            have hle : decide ((y : Int) < x) = false := decide_eq_false yx
            gi_wp2
            refine wpIn_region_any (by kernel_rfl) ?_
            change wpAnyIn _ _ _ _ _ _ _ _ _ (World.drew _)
            generalize wr.drew = V at *
            apply Rnd.join0
            case h1 =>
              intro tail
              refine wpAnyIn_take (i := 1) (v := ?_) hro rfl (by kernel_rfl) (by kernel_rfl) (by kernel_rfl) (fun _ _ _ h => h) ⟨Or.inl ⟨by rfl, fun w => ?_⟩, fun _ => rfl⟩ ?_
              rotate_left
              · go_simp; (try with_reducible rfl)
              try simp only [List.getElem_toArray, List.getElem_cons_succ, List.getElem_cons_zero, Act.put, List.setIfInBounds_toArray, List.set_cons_zero, List.set_cons_succ]
              refine wpAnyIn_take (i := 5) (v := ?_) hro rfl (by kernel_rfl) (by kernel_rfl) (by kernel_rfl) (fun _ _ _ h => h) ⟨Or.inl ⟨by rfl, fun w => ?_⟩, fun _ => rfl⟩ ?_
              rotate_left
              · go_simp; (try with_reducible rfl)
              try simp only [List.getElem_toArray, List.getElem_cons_succ, List.getElem_cons_zero, Act.put, List.setIfInBounds_toArray, List.set_cons_zero, List.set_cons_succ]
              refine wpAnyIn_ready (rs := [0, 4]) (by kernel_rfl) (by simp) ?_
              refine AllReadyIn.cons rfl (fun K hK => ?_) ?_
              · go_simp
                refine hK _ _ ?_
                clear hK K
                try simp only [List.getElem_toArray, List.getElem_cons_succ, List.getElem_cons_zero, Act.put, List.setIfInBounds_toArray, List.set_cons_zero, List.set_cons_succ]
                refine wpAnyIn_take (i := 2) (v := ?_) hro rfl (by kernel_rfl) (by kernel_rfl) (by kernel_rfl) (fun _ _ _ h => h) ⟨Or.inl ⟨by rfl, fun w => ?_⟩, fun _ => rfl⟩ ?_
                rotate_left
                · go_simp; (try with_reducible rfl)
                try simp only [List.getElem_toArray, List.getElem_cons_succ, List.getElem_cons_zero, Act.put, List.setIfInBounds_toArray, List.set_cons_zero, List.set_cons_succ]
                refine wpAnyIn_ready (rs := [3, 4]) (by kernel_rfl) (by simp) ?_
                refine AllReadyIn.cons rfl (fun K hK => ?_) ?_
                · go_simp
                  refine hK _ _ ?_
                  clear hK K
                  try simp only [List.getElem_toArray, List.getElem_cons_succ, List.getElem_cons_zero, Act.put, List.setIfInBounds_toArray, List.set_cons_zero, List.set_cons_succ]
                  refine wpAnyIn_ready (rs := [4]) (by kernel_rfl) (by simp) ?_
                  refine AllReadyIn.cons rfl (fun K hK => ?_) ?_
                  · go_simp
                    refine hK _ _ ?_
                    clear hK K
                    try simp only [List.getElem_toArray, List.getElem_cons_succ, List.getElem_cons_zero, Act.put, List.setIfInBounds_toArray, List.set_cons_zero, List.set_cons_succ]
                    refine wpAnyIn_take (i := 6) (v := ?_) hro rfl (by kernel_rfl) (by kernel_rfl) (by kernel_rfl) (fun _ _ _ h => h) ⟨Or.inl ⟨by rfl, fun w => ?_⟩, fun _ => rfl⟩ ?_
                    rotate_left
                    · go_simp; (try with_reducible rfl)
                    try simp only [List.getElem_toArray, List.getElem_cons_succ, List.getElem_cons_zero, Act.put, List.setIfInBounds_toArray, List.set_cons_zero, List.set_cons_succ]
                    refine wpAnyIn_ready (rs := [7]) (by kernel_rfl) (by simp) ?_
                    refine AllReadyIn.cons rfl (fun K hK => ?_) ?_
                    · go_simp
                      refine hK _ _ ?_
                      clear hK K
                      try simp only [List.getElem_toArray, List.getElem_cons_succ, List.getElem_cons_zero, Act.put, List.setIfInBounds_toArray, List.set_cons_zero, List.set_cons_succ]
                      refine Rnd.to_listedIn (L' := #[true, true, true, true, true, true, true, true, false, false, false, false, false, false, false, false]) (f' := 8) (by kernel_rfl) (by kernel_rfl) ?_
                      exact tail
                    exact AllReadyIn.nil
                  exact AllReadyIn.nil
                refine AllReadyIn.cons rfl (fun K hK => ?_) ?_
                · go_simp
                  refine hK _ _ ?_
                  clear hK K
                  try simp only [List.getElem_toArray, List.getElem_cons_succ, List.getElem_cons_zero, Act.put, List.setIfInBounds_toArray, List.set_cons_zero, List.set_cons_succ]
                  refine wpAnyIn_take (i := 6) (v := ?_) hro rfl (by kernel_rfl) (by kernel_rfl) (by kernel_rfl) (fun _ _ _ h => h) ⟨Or.inl ⟨by rfl, fun w => ?_⟩, fun _ => rfl⟩ ?_
                  rotate_left
                  · go_simp; (try with_reducible rfl)
                  try simp only [List.getElem_toArray, List.getElem_cons_succ, List.getElem_cons_zero, Act.put, List.setIfInBounds_toArray, List.set_cons_zero, List.set_cons_succ]
                  refine wpAnyIn_ready (rs := [3, 7]) (by kernel_rfl) (by simp) ?_
                  refine AllReadyIn.cons rfl (fun K hK => ?_) ?_
                  · go_simp
                    refine hK _ _ ?_
                    clear hK K
                    try simp only [List.getElem_toArray, List.getElem_cons_succ, List.getElem_cons_zero, Act.put, List.setIfInBounds_toArray, List.set_cons_zero, List.set_cons_succ]
                    refine wpAnyIn_ready (rs := [7]) (by kernel_rfl) (by simp) ?_
                    refine AllReadyIn.cons rfl (fun K hK => ?_) ?_
                    · go_simp
                      refine hK _ _ ?_
                      clear hK K
                      try simp only [List.getElem_toArray, List.getElem_cons_succ, List.getElem_cons_zero, Act.put, List.setIfInBounds_toArray, List.set_cons_zero, List.set_cons_succ]
                      refine Rnd.to_listedIn (L' := #[true, true, true, true, true, true, true, true, false, false, false, false, false, false, false, false]) (f' := 8) (by kernel_rfl) (by kernel_rfl) ?_
                      exact tail
                    exact AllReadyIn.nil
                  refine AllReadyIn.cons rfl (fun K hK => ?_) ?_
                  · go_simp
                    refine hK _ _ ?_
                    clear hK K
                    try simp only [List.getElem_toArray, List.getElem_cons_succ, List.getElem_cons_zero, Act.put, List.setIfInBounds_toArray, List.set_cons_zero, List.set_cons_succ]
                    refine wpAnyIn_ready (rs := [3]) (by kernel_rfl) (by simp) ?_
                    refine AllReadyIn.cons rfl (fun K hK => ?_) ?_
                    · go_simp
                      refine hK _ _ ?_
                      clear hK K
                      try simp only [List.getElem_toArray, List.getElem_cons_succ, List.getElem_cons_zero, Act.put, List.setIfInBounds_toArray, List.set_cons_zero, List.set_cons_succ]
                      refine Rnd.to_listedIn (L' := #[true, true, true, true, true, true, true, true, false, false, false, false, false, false, false, false]) (f' := 8) (by kernel_rfl) (by kernel_rfl) ?_
                      exact tail
                    exact AllReadyIn.nil
                  exact AllReadyIn.nil
                exact AllReadyIn.nil
              refine AllReadyIn.cons rfl (fun K hK => ?_) ?_
              · go_simp
                refine hK _ _ ?_
                clear hK K
                try simp only [List.getElem_toArray, List.getElem_cons_succ, List.getElem_cons_zero, Act.put, List.setIfInBounds_toArray, List.set_cons_zero, List.set_cons_succ]
                refine wpAnyIn_take (i := 6) (v := ?_) hro rfl (by kernel_rfl) (by kernel_rfl) (by kernel_rfl) (fun _ _ _ h => h) ⟨Or.inl ⟨by rfl, fun w => ?_⟩, fun _ => rfl⟩ ?_
                rotate_left
                · go_simp; (try with_reducible rfl)
                try simp only [List.getElem_toArray, List.getElem_cons_succ, List.getElem_cons_zero, Act.put, List.setIfInBounds_toArray, List.set_cons_zero, List.set_cons_succ]
                refine wpAnyIn_ready (rs := [0, 7]) (by kernel_rfl) (by simp) ?_
                refine AllReadyIn.cons rfl (fun K hK => ?_) ?_
                · go_simp
                  refine hK _ _ ?_
                  clear hK K
                  try simp only [List.getElem_toArray, List.getElem_cons_succ, List.getElem_cons_zero, Act.put, List.setIfInBounds_toArray, List.set_cons_zero, List.set_cons_succ]
                  refine wpAnyIn_take (i := 2) (v := ?_) hro rfl (by kernel_rfl) (by kernel_rfl) (by kernel_rfl) (fun _ _ _ h => h) ⟨Or.inl ⟨by rfl, fun w => ?_⟩, fun _ => rfl⟩ ?_
                  rotate_left
                  · go_simp; (try with_reducible rfl)
                  try simp only [List.getElem_toArray, List.getElem_cons_succ, List.getElem_cons_zero, Act.put, List.setIfInBounds_toArray, List.set_cons_zero, List.set_cons_succ]
                  refine wpAnyIn_ready (rs := [3, 7]) (by kernel_rfl) (by simp) ?_
                  refine AllReadyIn.cons rfl (fun K hK => ?_) ?_
                  · go_simp
                    refine hK _ _ ?_
                    clear hK K
                    try simp only [List.getElem_toArray, List.getElem_cons_succ, List.getElem_cons_zero, Act.put, List.setIfInBounds_toArray, List.set_cons_zero, List.set_cons_succ]
                    refine wpAnyIn_ready (rs := [7]) (by kernel_rfl) (by simp) ?_
                    refine AllReadyIn.cons rfl (fun K hK => ?_) ?_
                    · go_simp
                      refine hK _ _ ?_
                      clear hK K
                      try simp only [List.getElem_toArray, List.getElem_cons_succ, List.getElem_cons_zero, Act.put, List.setIfInBounds_toArray, List.set_cons_zero, List.set_cons_succ]
                      refine Rnd.to_listedIn (L' := #[true, true, true, true, true, true, true, true, false, false, false, false, false, false, false, false]) (f' := 8) (by kernel_rfl) (by kernel_rfl) ?_
                      exact tail
                    exact AllReadyIn.nil
                  refine AllReadyIn.cons rfl (fun K hK => ?_) ?_
                  · go_simp
                    refine hK _ _ ?_
                    clear hK K
                    try simp only [List.getElem_toArray, List.getElem_cons_succ, List.getElem_cons_zero, Act.put, List.setIfInBounds_toArray, List.set_cons_zero, List.set_cons_succ]
                    refine wpAnyIn_ready (rs := [3]) (by kernel_rfl) (by simp) ?_
                    refine AllReadyIn.cons rfl (fun K hK => ?_) ?_
                    · go_simp
                      refine hK _ _ ?_
                      clear hK K
                      try simp only [List.getElem_toArray, List.getElem_cons_succ, List.getElem_cons_zero, Act.put, List.setIfInBounds_toArray, List.set_cons_zero, List.set_cons_succ]
                      refine Rnd.to_listedIn (L' := #[true, true, true, true, true, true, true, true, false, false, false, false, false, false, false, false]) (f' := 8) (by kernel_rfl) (by kernel_rfl) ?_
                      exact tail
                    exact AllReadyIn.nil
                  exact AllReadyIn.nil
                refine AllReadyIn.cons rfl (fun K hK => ?_) ?_
                · go_simp
                  refine hK _ _ ?_
                  clear hK K
                  try simp only [List.getElem_toArray, List.getElem_cons_succ, List.getElem_cons_zero, Act.put, List.setIfInBounds_toArray, List.set_cons_zero, List.set_cons_succ]
                  refine wpAnyIn_ready (rs := [0]) (by kernel_rfl) (by simp) ?_
                  refine AllReadyIn.cons rfl (fun K hK => ?_) ?_
                  · go_simp
                    refine hK _ _ ?_
                    clear hK K
                    try simp only [List.getElem_toArray, List.getElem_cons_succ, List.getElem_cons_zero, Act.put, List.setIfInBounds_toArray, List.set_cons_zero, List.set_cons_succ]
                    refine wpAnyIn_take (i := 2) (v := ?_) hro rfl (by kernel_rfl) (by kernel_rfl) (by kernel_rfl) (fun _ _ _ h => h) ⟨Or.inl ⟨by rfl, fun w => ?_⟩, fun _ => rfl⟩ ?_
                    rotate_left
                    · go_simp; (try with_reducible rfl)
                    try simp only [List.getElem_toArray, List.getElem_cons_succ, List.getElem_cons_zero, Act.put, List.setIfInBounds_toArray, List.set_cons_zero, List.set_cons_succ]
                    refine wpAnyIn_ready (rs := [3]) (by kernel_rfl) (by simp) ?_
                    refine AllReadyIn.cons rfl (fun K hK => ?_) ?_
                    · go_simp
                      refine hK _ _ ?_
                      clear hK K
                      try simp only [List.getElem_toArray, List.getElem_cons_succ, List.getElem_cons_zero, Act.put, List.setIfInBounds_toArray, List.set_cons_zero, List.set_cons_succ]
                      refine Rnd.to_listedIn (L' := #[true, true, true, true, true, true, true, true, false, false, false, false, false, false, false, false]) (f' := 8) (by kernel_rfl) (by kernel_rfl) ?_
                      exact tail
                    exact AllReadyIn.nil
                  exact AllReadyIn.nil
                exact AllReadyIn.nil
              exact AllReadyIn.nil
            case h2 =>
              refine wpAnyIn_take (i := 8) (v := ?_) hro rfl (by kernel_rfl) (by kernel_rfl) (by kernel_rfl) (fun _ _ _ h => h) ⟨Or.inl ⟨by rfl, fun w => ?_⟩, fun _ => rfl⟩ ?_
              rotate_left
              · go_simp; (try with_reducible rfl)
              try simp only [List.getElem_toArray, List.getElem_cons_succ, List.getElem_cons_zero, Act.put, List.setIfInBounds_toArray, List.set_cons_zero, List.set_cons_succ]
              refine wpAnyIn_take (i := 9) (v := ?_) hro rfl (by kernel_rfl) (by kernel_rfl) (by kernel_rfl) (fun _ _ _ h => h) ⟨Or.inl ⟨by rfl, fun w => ?_⟩, fun _ => rfl⟩ ?_
              rotate_left
              · go_simp; (try with_reducible rfl)
              try simp only [List.getElem_toArray, List.getElem_cons_succ, List.getElem_cons_zero, Act.put, List.setIfInBounds_toArray, List.set_cons_zero, List.set_cons_succ]
              refine wpAnyIn_take (i := 10) (v := _) hro rfl (by kernel_rfl) (by kernel_rfl) (by kernel_rfl) (fun _ _ _ h => h) ⟨Or.inr ⟨by rfl, rfl⟩, fun _ => rfl⟩ ?_
              try simp only [List.getElem_toArray, List.getElem_cons_succ, List.getElem_cons_zero, Act.put, List.setIfInBounds_toArray, List.set_cons_zero, List.set_cons_succ]
              refine wpAnyIn_take (i := 11) (v := _) hro rfl (by kernel_rfl) (by kernel_rfl) (by kernel_rfl) (fun _ _ _ h => h) ⟨Or.inr ⟨by rfl, rfl⟩, fun _ => rfl⟩ ?_
              try simp only [List.getElem_toArray, List.getElem_cons_succ, List.getElem_cons_zero, Act.put, List.setIfInBounds_toArray, List.set_cons_zero, List.set_cons_succ]
              refine wpAnyIn_take (i := 12) (v := _) hro rfl (by kernel_rfl) (by kernel_rfl) (by kernel_rfl) (fun _ _ _ h => h) ⟨Or.inr ⟨by rfl, rfl⟩, fun _ => rfl⟩ ?_
              try simp only [List.getElem_toArray, List.getElem_cons_succ, List.getElem_cons_zero, Act.put, List.setIfInBounds_toArray, List.set_cons_zero, List.set_cons_succ]
              refine wpAnyIn_take (i := 13) (v := _) hro rfl (by kernel_rfl) (by kernel_rfl) (by kernel_rfl) (fun _ _ _ h => h) ⟨Or.inr ⟨by rfl, rfl⟩, fun _ => rfl⟩ ?_
              try simp only [List.getElem_toArray, List.getElem_cons_succ, List.getElem_cons_zero, Act.put, List.setIfInBounds_toArray, List.set_cons_zero, List.set_cons_succ]
              refine wpAnyIn_take (i := 14) (v := _) hro rfl (by kernel_rfl) (by kernel_rfl) (by kernel_rfl) (fun _ _ _ h => h) ⟨Or.inr ⟨by rfl, rfl⟩, fun _ => rfl⟩ ?_
              try simp only [List.getElem_toArray, List.getElem_cons_succ, List.getElem_cons_zero, Act.put, List.setIfInBounds_toArray, List.set_cons_zero, List.set_cons_succ]
              refine wpAnyIn_take (i := 15) (v := ?_) hro rfl (by kernel_rfl) (by kernel_rfl) (by kernel_rfl) (fun _ _ _ h => h) ⟨Or.inl ⟨by rfl, fun w => ?_⟩, fun _ => rfl⟩ ?_
              rotate_left
              · go_simp; (try with_reducible rfl)
              try simp only [List.getElem_toArray, List.getElem_cons_succ, List.getElem_cons_zero, Act.put, List.setIfInBounds_toArray, List.set_cons_zero, List.set_cons_succ]
              refine wpAnyIn_done (by kernel_rfl) ?_ _
              gi_wp2
              go_roundw
              case rel => exact ⟨t + 1, by go_num, by omega, by omega, Lib.hid (by rw [prTo_no (by rw [← HX.out, ← HYY.out]; exact hyx)]; exact HJV.out), HV⟩
              case measure => simp [intOf]; omega
        · have tm : ¬ (t : Int) < m := by omega
          have hte : t = m := by omega
          have HE : Hid (J (prs ps (k + 1)) wr) := Lib.hid (by
            have h := HT.out
            rw [hte, HM.out] at h
            exact h)
          gi_wp2
          go_roundw
          case rel => exact ⟨k + 1, by go_num, by omega, HE, HB⟩
          case measure => simp [intOf]; omega
    · have km : ¬ (k : Int) < m := by omega
      have hke : k = m := by omega
      gi_wp2
      go_end0
      exact ⟨⟨_, rfl⟩, .inl (by have h := HK.out; rw [hke, HM.out] at h; exact h)⟩
theorem turned_stops (F : Fence) (n : Nat) (hf : F.fn 42) (hro : F.round = none) (hn : 1 ≤ n) (Bm n0 : Nat) (ps : List Nat) (p : Option Addr) (cap : Nat) (w : World) (hps : ps.length ≤ 1000) (hm : w.cell? ⟨Bm, 0, none⟩ = some (.slice p ps.length cap)) (hr : ps.length = 0 ∨ ∃ B off, p = some ⟨B, off, none⟩ ∧ B < n0 ∧ Hid (layN.In w B off ps)) :
    SeqStopsK F n Tryz.prog 42 #[.pointer (some ⟨Bm, 0, none⟩)] encP (Kp2 n0 Bm) (fun xs => xs = prs ps ps.length) (fun _ => True) 2000000 w := fun l J Jx W hW hJ _ hY h0 =>
  turned1_any F n hf hro hn l Bm n0 ps p cap J Jx hps hY W hJ ((hW.cell (p := ⟨Bm, 0, none⟩) (World.block_lt_of_cell? _ _ hm)).trans hm) (hr.imp id fun ⟨B, off, e, h1, h2⟩ => ⟨B, off, e, h1, Lib.hid (h2.out.on hW)⟩) h0
end Go.Proofs.YtlkndpofegemdaaGreat.Tra
