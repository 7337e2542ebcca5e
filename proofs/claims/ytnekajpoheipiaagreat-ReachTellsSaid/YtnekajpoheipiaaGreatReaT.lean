/- The statement's function ReachTells of layer 16 (reach): it returns true, whatever way graphs are kept and gone along (under Graphs and Reaches). Conditions: the records and ids lie in memory as their cells say; numbers' words of 64 bits; texts of a length that Go reads. (Written by tools/gen_reat.py.) -/
import Derived.Test.YtnekajpoheipiaaGreatReaL
import Derived.Laws.Slices
namespace Go.Proofs.YtnekajpoheipiaaGreat.Rea
open Go.RowKit Cmd Bat Ids Rec Wid Gra
set_option linter.unusedVariables false
set_option linter.unusedSimpArgs false

theorem size_id (w : World) : (sizeOf (Tryz.prog.elem 23)).run Tryz.prog w = .ok 2 w := by kernel_rfl
theorem cutI (B off m cap k : Nat) (hk : k + 1 ≤ cap) (w : World) : (Instr.slice 23 (.slice (some ⟨B, off, none⟩) m cap) (some (.int .i64 k)) (some (.int .i64 ((k : Int) + 1))) none).run Tryz.prog w = .ok (.slice (some ⟨B, off + k * 2, none⟩) 1 (cap - k)) w := by
  rw [run_slice_lh w _ _ _ _ (by kernel_rfl) _ _ _ _ (by omega) (by omega) (by omega), size_id]
  show Result.ok (sliced (some ⟨B, off, none⟩) (Int.toNat k) (Int.toNat ((k : Int) + 1)) cap 2) w = _
  have e1 : Int.toNat ((k : Int) + 1) = k + 1 := by omega
  rw [e1, Int.toNat_natCast]
  unfold sliced
  rw [if_neg (by omega)]
  have e2 : k + 1 - k = 1 := by omega
  rw [e2]
  simp [Bat.add_lit, Addr.add]
theorem slice_both_run (o : Oper) (a : Act) (w : World) (x l h : Operand) (v : Value) (ho : o.op = .slice 23 x (some l) (some h) none) (hr : (Instr.slice 23 (a.eval x) (some (a.eval l)) (some (a.eval h)) none).run Tryz.prog w = .ok v w) : (execOp a.eval o).run Tryz.prog w = .ok (.value v) w := by
  have h2 : (Instr.sliceAt 23 (a.eval x) (some (a.eval l)) (some (a.eval h)) none).run Tryz.prog w = .ok v w := by
    have hu : Tryz.prog.underlying 23 = some (.slice (Tryz.prog.elem 23)) := by kernel_rfl
    rw [run_sliceAt_slice (h := hu)]; exact hr
  simp [execOp, ho, h2, Result.andThen]
theorem row_at {w : World} {B off cap k : Nat} {l : List Idn} (h : Row2 w B off l) (hk : k < l.length) (hc : k + 1 ≤ cap) (hc2 : cap ≤ 9223372036854775807) : RowAt w (.slice (some ⟨B, off + k * 2, none⟩) 1 (cap - k)) [nth l k] := by
  refine ⟨_, cap - k, rfl, by simp; omega, by omega, (fun e => by cases e), fun _ => ⟨B, off + k * 2, rfl, h.lt, fun j hj => ?_⟩⟩
  have hj0 : j = 0 := by simp at hj; exact hj
  subst hj0
  exact ⟨h.fst k hk, h.snd k hk⟩
set_option maxRecDepth 100000 in
theorem rtell_few (CP : ∀ w, Calls Tryz.prog 7 #[] w (RetBelow (.bool true) w)) (v : Value) (p : Option Addr) (m cap : Nat) (c d : Int) (rs : List Rcd) (w : World) (h : layG.Row w v rs) (hl : fewG rs 20 = false) : Calls Tryz.prog 3 #[v, .slice p m cap, .agg #[.int .i64 c, .int .i64 d]] w (RetBelow (.bool true) w) := by
  have HP := Lib.hid CP
  have b0 := Cmd.below_one w (.cells #[.int .i64 c, .int .i64 d] 25)
  have B0 := Lib.hid b0
  have CF : Hid (Calls Tryz.prog 5 #[v, .int .i64 20] (w.alloc (.cells #[.int .i64 c, .int .i64 d] 25)) (RetBelow (.bool false) (w.alloc (.cells #[.int .i64 c, .int .i64 d] 25)))) := Lib.hid (by have := few_any v rs 20 (by decide) _ (h.on b0); rw [hl] at this; exact this)
  clear h hl CP b0
  go_enter Tryz.func3, Tryz.ntmps3
  go_wp2_with (first
    | (go_at_call 5; ((with_reducible refine CF.out.mono ?_); rintro E w1 ⟨rfl, hb⟩; have B1 := Lib.hid (B0.out.trans (hb.mono B0.out.size)); clear hb))
    | (go_at_call 7; ((with_reducible refine (HP.out _).mono ?_); rintro E w3 ⟨rfl, hb⟩; have B3 := Lib.hid (B1.out.trans (hb.mono B1.out.size)); clear hb)))
  go_ret
  exact ⟨rfl, B3.out⟩
set_option maxRecDepth 100000 in
theorem rtell_long (CP : ∀ w, Calls Tryz.prog 7 #[] w (RetBelow (.bool true) w)) (v : Value) (p : Option Addr) (m cap : Nat) (c d : Int) (rs : List Rcd) (w : World) (h : layG.Row w v rs) (hl : fewG rs 20 = true) (hm : 20 < m) : Calls Tryz.prog 3 #[v, .slice p m cap, .agg #[.int .i64 c, .int .i64 d]] w (RetBelow (.bool true) w) := by
  have HP := Lib.hid CP
  have b0 := Cmd.below_one w (.cells #[.int .i64 c, .int .i64 d] 25)
  have B0 := Lib.hid b0
  have CF : Hid (Calls Tryz.prog 5 #[v, .int .i64 20] (w.alloc (.cells #[.int .i64 c, .int .i64 d] 25)) (RetBelow (.bool true) (w.alloc (.cells #[.int .i64 c, .int .i64 d] 25)))) := Lib.hid (by have := few_any v rs 20 (by decide) _ (h.on b0); rw [hl] at this; exact this)
  have q1 : decide ((20 : Int) < m) = true := decide_eq_true (by omega)
  clear h hl CP b0
  go_enter Tryz.func3, Tryz.ntmps3
  go_wp2_with (first
    | (go_at_call 5; ((with_reducible refine CF.out.mono ?_); rintro E w1 ⟨rfl, hb⟩; have B1 := Lib.hid (B0.out.trans (hb.mono B0.out.size)); clear hb))
    | (go_at_call 7; ((with_reducible refine (HP.out _).mono ?_); rintro E w3 ⟨rfl, hb⟩; have B3 := Lib.hid (B1.out.trans (hb.mono B1.out.size)); clear hb)))
  go_ret
  exact ⟨rfl, B3.out⟩
set_option maxRecDepth 100000 in
theorem rtell_bad (CP : ∀ w, Calls Tryz.prog 7 #[] w (RetBelow (.bool true) w)) (v : Value) (p : Option Addr) (m cap : Nat) (c d : Int) (rs : List Rcd) (w : World) (h : layG.Row w v rs) (hw : ∀ x ∈ rs, wfG x) (hl : fewG rs 20 = true) (hm : ¬ 20 < m) (he : gErr rs ≠ 0) : Calls Tryz.prog 3 #[v, .slice p m cap, .agg #[.int .i64 c, .int .i64 d]] w (RetBelow (.bool true) w) := by
  have HP := Lib.hid CP
  have b0 := Cmd.below_one w (.cells #[.int .i64 c, .int .i64 d] 25)
  have B0 := Lib.hid b0
  have CF : Hid (Calls Tryz.prog 5 #[v, .int .i64 20] (w.alloc (.cells #[.int .i64 c, .int .i64 d] 25)) (RetBelow (.bool true) (w.alloc (.cells #[.int .i64 c, .int .i64 d] 25)))) := Lib.hid (by have := few_any v rs 20 (by decide) _ (h.on b0); rw [hl] at this; exact this)
  have q1 : decide ((20 : Int) < m) = false := decide_eq_false (by omega)
  have CC := Lib.hid (fun W (hb : Below w.heap.size w W) => refgerr_any v rs W (h.on hb) hw)
  generalize gErr rs = e at CC he
  have q2 : (e != (0 : Int)) = true := by rw [bne, beq_eq_false_iff_ne.2 he]; rfl
  clear h hl CP b0
  go_enter Tryz.func3, Tryz.ntmps3
  go_wp2_with (first
    | (go_at_call 5; ((with_reducible refine CF.out.mono ?_); rintro E w1 ⟨rfl, hb⟩; have B1 := Lib.hid (B0.out.trans (hb.mono B0.out.size)); have C1 := Lib.hid (CC.out w1 B1.out); clear hb))
    | (go_at_call 6; ((with_reducible refine C1.out.mono ?_); rintro E w2 ⟨rfl, hb⟩; have B2 := Lib.hid (B1.out.trans (hb.mono B1.out.size)); clear hb))
    | (go_at_call 7; ((with_reducible refine (HP.out _).mono ?_); rintro E w3 ⟨rfl, hb⟩; have B3 := Lib.hid (B2.out.trans (hb.mono B2.out.size)); clear hb)))
  go_ret
  exact ⟨rfl, B3.out⟩
set_option maxRecDepth 100000 in
set_option maxHeartbeats 16000000 in
theorem rtell_ok {G : Nat → Nat → List Rcd → World → Prop} (HG : Graphs G) (RG : Reaches G) (v : Value) (p : Option Addr) (cap : Nat) (rs : List Rcd) (from_ : List Idn) (c d : Int) (w : World) (h : layG.Row w v rs) (hw : ∀ x ∈ rs, wfG x) (hs : RowAt w (.slice p from_.length cap) from_) (hsw : ∀ x ∈ from_, wfId x) (hcd : wfId (c, d)) (hl : fewG rs 20 = true) (hm : ¬ 20 < from_.length) (he : gErr rs = 0) :
    Calls Tryz.prog 3 #[v, .slice p from_.length cap, .agg #[.int .i64 c, .int .i64 d]] w (RetBelow (.bool true) w) := by
  obtain ⟨hd400, hr20⟩ := few_deps hl
  have HP := Lib.hid (fun w => rplay_any HG RG w)
  have b0 := Cmd.below_one w (.cells #[.int .i64 c, .int .i64 d] 25)
  have B0 := Lib.hid b0
  have X0 := Lib.hid (heap_alloc_new w (.cells #[.int .i64 c, .int .i64 d] 25))
  have CF : Hid (Calls Tryz.prog 5 #[v, .int .i64 20] (w.alloc (.cells #[.int .i64 c, .int .i64 d] 25)) (RetBelow (.bool true) (w.alloc (.cells #[.int .i64 c, .int .i64 d] 25)))) := Lib.hid (by have := few_any v rs 20 (by decide) _ (h.on b0); rw [hl] at this; exact this)
  have CC := Lib.hid (fun W (hb : Below w.heap.size w W) => refgerr_any v rs W (h.on hb) hw)
  rw [he] at CC
  have HV := Lib.hid h
  have HSR := Lib.hid hs
  have CN := Lib.hid (fun W (hb : Below w.heap.size w W) => rnew_ok HG (h.on hb) (lot_few hw hl (by omega)) he)
  have HK := Lib.hid HG
  have HR := Lib.hid RG
  have HCD := Lib.hid hcd
  have RFr := Lib.hid (fun W (hb : Below w.heap.size w W) => refrom_any v (.slice p from_.length cap) rs from_ W (h.on hb) (hs.on hb) (by omega))
  have HSW := Lib.hid hsw
  have H400 := Lib.hid hd400
  have SP : Hid (from_.length = 0 ∨ ∃ B off, p = some ⟨B, off, none⟩ ∧ Hid (Row2 w B off from_)) := Lib.hid (by obtain ⟨p3, k3, e3, -, h3⟩ := Rec.RowAt.parts hs; cases e3; exact h3)
  have hcap : from_.length ≤ cap ∧ cap ≤ 9223372036854775807 := by obtain ⟨p3, k3, e3, h1, h2, _⟩ := hs; cases e3; exact ⟨h1, h2⟩
  have HSL : Hid (from_.length ≤ 1000) := Lib.hid (by omega)
  obtain ⟨m, hmm⟩ : ∃ m, m = from_.length := ⟨_, rfl⟩
  have HM := Lib.hid hmm
  rw [← hmm] at HSR RFr SP hm hcap ⊢
  have q1 : decide ((20 : Int) < m) = false := decide_eq_false (by omega)
  clear h hw hs hsw hl he hd400 hr20 hmm b0 hcd
  go_enter Tryz.func3, Tryz.ntmps3
  go_wp2_with (first
    | (go_at_call 5; ((with_reducible refine CF.out.mono ?_); rintro E w1 ⟨rfl, hb⟩; have B1 := Lib.hid (B0.out.trans (hb.mono B0.out.size)); have X1 := Lib.hid ((hb.block _ (Array.getElem?_eq_some_iff.1 X0.out).1).trans X0.out); have C1 := Lib.hid (CC.out w1 B1.out); clear hb))
    | (go_at_call 6; ((with_reducible refine C1.out.mono ?_); rintro E w2 ⟨rfl, hb⟩; have B2 := Lib.hid (B1.out.trans (hb.mono B1.out.size)); have X2 := Lib.hid ((hb.block _ (Array.getElem?_eq_some_iff.1 X1.out).1).trans X1.out); have N2 := Lib.hid (CN.out w2 B2.out); clear hb))
    | (go_at_call 8; ((with_reducible refine N2.out.mono ?_); rintro E w3 ⟨g, rfl, hg, hb⟩; have G3 := Lib.hid hg; have B3 := Lib.hid (B2.out.trans (hb.mono B2.out.size)); have X3 := Lib.hid ((hb.block _ (Array.getElem?_eq_some_iff.1 X2.out).1).trans X2.out); have K3 := Lib.hid (HR.out.from_ hg (.slice p m cap) from_ (HSR.out.on B3.out) HSL.out HSW.out); clear hb hg))
    | (go_at_call 10; ((with_reducible refine K3.out.mono ?_); rintro E w4 ⟨f1, rfl, hr, hb⟩; have G4 := Lib.hid (HK.out.on G3.out hb); have B4 := Lib.hid (B3.out.trans (hb.mono B3.out.size)); have X4 := Lib.hid ((hb.block _ (Array.getElem?_eq_some_iff.1 X3.out).1).trans X3.out); have R4 := Lib.hid hr; have F4 := Lib.hid (RFr.out w4 B4.out); clear hb hr K3))
    | (go_at_call 11; ((with_reducible refine F4.out.mono ?_); rintro E w5 ⟨f2, rfl, hr, hb⟩; have hb' := hb.mono (HK.out.le G4.out); have G5 := Lib.hid (HK.out.on G4.out hb'); have B5 := Lib.hid (B4.out.trans (hb.mono B4.out.size)); have X5 := Lib.hid ((hb.block _ (Array.getElem?_eq_some_iff.1 X4.out).1).trans X4.out); have S5 := Lib.hid (Ids.same_any _ _ _ _ _ (R4.out.on hb) hr); rw [decide_eq_true rfl] at S5; clear hb hr hb'))
    | (go_at_call 9; ((with_reducible refine S5.out.mono ?_); rintro E w8 ⟨rfl, hb⟩; have hb' := hb.mono (HK.out.le G5.out); have G8 := Lib.hid (HK.out.on G5.out hb'); have B8 := Lib.hid (B5.out.trans (hb.mono B5.out.size)); have X8 := Lib.hid ((hb.block _ (Array.getElem?_eq_some_iff.1 X5.out).1).trans X5.out); clear hb hb'))
    | fail)
  go_loopw [9] (fun i wr => ∃ k : Nat, k ≤ m ∧ i = .int .i64 k ∧ Hid (Below w8.heap.size w8 wr)) (fun i _ => m - (intOf i).toNat)
  case atStart => exact ⟨0, Nat.zero_le _, rfl, Lib.hid (Below.refl _ _)⟩
  case round =>
    obtain ⟨k, hk, rfl, hb8⟩ := hrel
    have k0 : (0 : Int) ≤ k := by omega
    have hbW := Lib.hid (B8.out.trans (hb8.out.mono B8.out.size))
    by_cases hkm : k < m
    · have km : (k : Int) < m := by omega
      obtain ⟨B, off, rfl, HC⟩ : ∃ B off, p = some ⟨B, off, none⟩ ∧ Hid (Row2 w B off from_) := SP.out.resolve_left (by omega)
      have hkz : k < from_.length := by rw [← HM.out]; exact hkm
      obtain ⟨⟨x, y⟩, hxy⟩ : ∃ z, nth from_ k = z := ⟨_, rfl⟩
      have hxw : wfId (x, y) := by rw [← hxy]; exact HSW.out _ (nth_mem hkz)
      have hcut := fun W => cutI B off m cap k (by omega) W
      have G9 := Lib.hid (HK.out.on G8.out (hb8.out.mono (HK.out.le G8.out)))
      have HPa : Hid (∀ W, Below wr.heap.size wr W → Calls Tryz.prog 12 #[gptr g, .agg #[.int .i64 x, .int .i64 y], .agg #[.int .i64 c, .int .i64 d]] W (RetBelow (.bool (decide ((c, d) ∈ fromG rs [(x, y)]))) W)) := Lib.hid fun W hb => HR.out.path (HK.out.on G9.out (hb.mono (HK.out.le G9.out))) x y c d hxw HCD.out
      have HFr : Hid (∀ W, Below wr.heap.size wr W → Calls Tryz.prog 11 #[v, .slice (some ⟨B, off + k * 2, none⟩) 1 (cap - k)] W (GivesRow (fromG rs [(x, y)]) W)) := Lib.hid fun W hb => by
        have hbb := hbW.out.trans (hb.mono hbW.out.size)
        have hr := row_at (cap := cap) (HC.out.on hbb) hkz (by omega) hcap.2
        rw [hxy] at hr
        exact refrom_any v _ rs [(x, y)] W (HV.out.on hbb) hr (by have := H400.out; simp; omega)
      have HS : Hid (∀ w', Below wr.heap.size wr w' → w'.cell? ⟨w.heap.size, 0, none⟩ = some (.int .i64 c) ∧ w'.cell? ⟨w.heap.size, 1, none⟩ = some (.int .i64 d) ∧ w'.cell? ⟨B, off + k * 2, none⟩ = some (.int .i64 x) ∧ w'.cell? ⟨B, off + k * 2 + 1, none⟩ = some (.int .i64 y)) := Lib.hid fun w' hb => by
        have hbb := hbW.out.trans (hb.mono hbW.out.size)
        have h8 := hb8.out.trans (hb.mono hb8.out.size)
        have x8 := (h8.block _ (Array.getElem?_eq_some_iff.1 X8.out).1).trans X8.out
        have e0 := (HC.out.on hbb).fst k hkz
        have e1 := (HC.out.on hbb).snd k hkz
        rw [hxy] at e0 e1
        exact ⟨cell_row (i := 0) x8 rfl, cell_row (i := 1) x8 rfl, e0, e1⟩
      obtain ⟨bv, hbv⟩ : ∃ bv, bv = decide ((c, d) ∈ fromG rs [(x, y)]) := ⟨_, rfl⟩
      have qe : (bv != bv) = false := by simp
      have DY0 : Hid (Below wr.heap.size wr wr.drew) := Lib.hid (Below.refl _ _).drew
      have hk1 : IntKind.i64.wrap ((k : Int) + 1) = (k : Int) + 1 := IntWalk.i64_in _ (by omega)
      clear SP hkz hxy hxw
      go_wp2_with fail
      refine wp_region_held_drew (S := (fun w' => w'.cell? ⟨w.heap.size, 0, none⟩ = some (.int .i64 c) ∧ w'.cell? ⟨w.heap.size, 1, none⟩ = some (.int .i64 d) ∧ w'.cell? ⟨B, off + k * 2, none⟩ = some (.int .i64 x) ∧ w'.cell? ⟨B, off + k * 2 + 1, none⟩ = some (.int .i64 y))) (by kernel_rfl) (HS.out _ DY0.out) (fun hHeld => ?_)
      generalize wr.drew = Y0 at DY0 hHeld ⊢
      refine wpAnyH_take (i := 0) (v := ?_) rfl (by kernel_rfl) (by kernel_rfl) (by kernel_rfl) (fun _ _ _ h => h) (Or.inl ⟨by rfl, fun w hSw => ?_⟩) (by assumption) ?_
      rotate_left
      · (try dsimp only at hSw); go_simp; (try with_reducible rfl)
      try simp only [List.getElem_toArray, List.getElem_cons_succ, List.getElem_cons_zero, Act.put, List.setIfInBounds_toArray, List.set_cons_zero, List.set_cons_succ]
      refine wpAnyH_take (i := 1) (v := ?_) rfl (by kernel_rfl) (by kernel_rfl) (by kernel_rfl) (fun _ _ _ h => h) (Or.inl ⟨by rfl, fun w hSw => ?_⟩) (by assumption) ?_
      rotate_left
      · (try dsimp only at hSw); go_simp; (try with_reducible rfl)
      try simp only [List.getElem_toArray, List.getElem_cons_succ, List.getElem_cons_zero, Act.put, List.setIfInBounds_toArray, List.set_cons_zero, List.set_cons_succ]
      refine wpAnyH_take (i := 2) (v := ?_) rfl (by kernel_rfl) (by kernel_rfl) (by kernel_rfl) (fun _ _ _ h => h) (Or.inl ⟨by rfl, fun w hSw => ?_⟩) (by assumption) ?_
      rotate_left
      · (try dsimp only at hSw); go_simp; (try with_reducible rfl)
      try simp only [List.getElem_toArray, List.getElem_cons_succ, List.getElem_cons_zero, Act.put, List.setIfInBounds_toArray, List.set_cons_zero, List.set_cons_succ]
      refine wpAnyH_take (i := 3) (v := ?_) rfl (by kernel_rfl) (by kernel_rfl) (by kernel_rfl) (fun _ _ _ h => h) (Or.inl ⟨by rfl, fun w hSw => ?_⟩) (by assumption) ?_
      rotate_left
      · (try dsimp only at hSw); go_simp; (try with_reducible rfl)
      try simp only [List.getElem_toArray, List.getElem_cons_succ, List.getElem_cons_zero, Act.put, List.setIfInBounds_toArray, List.set_cons_zero, List.set_cons_succ]
      refine wpAnyH_take (i := 4) (v := ?_) rfl (by kernel_rfl) (by kernel_rfl) (by kernel_rfl) (fun _ _ _ h => h) (Or.inl ⟨by rfl, fun w hSw => ?_⟩) (by assumption) ?_
      rotate_left
      · (try dsimp only at hSw); go_simp; (try with_reducible rfl)
      try simp only [List.getElem_toArray, List.getElem_cons_succ, List.getElem_cons_zero, Act.put, List.setIfInBounds_toArray, List.set_cons_zero, List.set_cons_succ]
      refine wpAnyH_take (i := 5) (v := ?_) rfl (by kernel_rfl) (by kernel_rfl) (by kernel_rfl) (fun _ _ _ h => h) (Or.inl ⟨by rfl, fun w hSw => ?_⟩) (by assumption) ?_
      rotate_left
      · (try dsimp only at hSw); go_simp; (try with_reducible rfl)
      try simp only [List.getElem_toArray, List.getElem_cons_succ, List.getElem_cons_zero, Act.put, List.setIfInBounds_toArray, List.set_cons_zero, List.set_cons_succ]
      refine wpAnyH_take (i := 7) (v := ?_) rfl (by kernel_rfl) (by kernel_rfl) (by kernel_rfl) (fun _ _ _ h => h) (Or.inl ⟨by rfl, fun w hSw => ?_⟩) (by assumption) ?_
      rotate_left
      · (try dsimp only at hSw); go_simp; (try with_reducible rfl)
      try simp only [List.getElem_toArray, List.getElem_cons_succ, List.getElem_cons_zero, Act.put, List.setIfInBounds_toArray, List.set_cons_zero, List.set_cons_succ]
      refine wpAnyH_take (i := 8) (v := ?_) rfl (by kernel_rfl) (by kernel_rfl) (by kernel_rfl) (fun _ _ _ h => h) (Or.inl ⟨by rfl, fun w hSw => ?_⟩) (by assumption) ?_
      rotate_left
      · (try dsimp only at hSw); go_simp; (try with_reducible rfl)
      try simp only [List.getElem_toArray, List.getElem_cons_succ, List.getElem_cons_zero, Act.put, List.setIfInBounds_toArray, List.set_cons_zero, List.set_cons_succ]
      refine wpAnyH_take (i := 9) (v := ?_) rfl (by kernel_rfl) (by kernel_rfl) (by kernel_rfl) (fun _ _ _ h => h) (Or.inl ⟨by rfl, fun w hSw => ?_⟩) (by assumption) ?_
      rotate_left
      · (try dsimp only at hSw); go_simp; (try with_reducible rfl)
      try simp only [List.getElem_toArray, List.getElem_cons_succ, List.getElem_cons_zero, Act.put, List.setIfInBounds_toArray, List.set_cons_zero, List.set_cons_succ]
      refine wpAnyH_take (i := 10) (v := ?_) rfl (by kernel_rfl) (by kernel_rfl) (by kernel_rfl) (fun _ _ _ h => h) (Or.inl ⟨by rfl, fun w hSw => ?_⟩) (by assumption) ?_
      rotate_left
      · (try dsimp only at hSw); go_simp; (try with_reducible rfl)
      try simp only [List.getElem_toArray, List.getElem_cons_succ, List.getElem_cons_zero, Act.put, List.setIfInBounds_toArray, List.set_cons_zero, List.set_cons_succ]
      refine wpAnyH_take (i := 11) (v := ?_) rfl (by kernel_rfl) (by kernel_rfl) (by kernel_rfl) (fun _ _ _ h => h) (Or.inl ⟨by rfl, fun w hSw => ?_⟩) (by assumption) ?_
      rotate_left
      · (try dsimp only at hSw); go_simp; (try with_reducible rfl)
      try simp only [List.getElem_toArray, List.getElem_cons_succ, List.getElem_cons_zero, Act.put, List.setIfInBounds_toArray, List.set_cons_zero, List.set_cons_succ]
      refine wpAnyH_take (i := 12) (v := .slice (some ⟨B, off + k * 2, none⟩) 1 (cap - k)) rfl (by kernel_rfl) (by kernel_rfl) (by kernel_rfl) (fun _ _ _ h => h) (Or.inl ⟨by rfl, fun w hSw => ?_⟩) (by assumption) ?_
      · exact slice_both_run _ _ _ _ _ _ _ rfl (hcut _)
      try simp only [List.getElem_toArray, List.getElem_cons_succ, List.getElem_cons_zero, Act.put, List.setIfInBounds_toArray, List.set_cons_zero, List.set_cons_succ]
      refine wpAnyH_take (i := 14) (v := ?_) rfl (by kernel_rfl) (by kernel_rfl) (by kernel_rfl) (fun _ _ _ h => h) (Or.inl ⟨by rfl, fun w hSw => ?_⟩) (by assumption) ?_
      rotate_left
      · (try dsimp only at hSw); go_simp; (try with_reducible rfl)
      try simp only [List.getElem_toArray, List.getElem_cons_succ, List.getElem_cons_zero, Act.put, List.setIfInBounds_toArray, List.set_cons_zero, List.set_cons_succ]
      refine wpAnyH_ready (rs := [6]) (by kernel_rfl) (by simp) ?_
      refine AllReadyH.cons rfl (fun K hK => ?_) ?_
      · go_simp
        (go_at_call 12; ((with_reducible refine (HPa.out _ DY0.out).mono ?_); rintro E Y1 ⟨rfl, hb⟩; have DY1 := Lib.hid (DY0.out.trans (hb.mono DY0.out.size)); clear hb))
        refine hK.out _ _ ?_ (fun hHeld => ?_)
        · exact HS.out _ DY1.out
        clear hK K
        try simp only [List.getElem_toArray, List.getElem_cons_succ, List.getElem_cons_zero, Act.put, List.setIfInBounds_toArray, List.set_cons_zero, List.set_cons_succ]
        refine wpAnyH_ready (rs := [13]) (by kernel_rfl) (by simp) ?_
        refine AllReadyH.cons rfl (fun K hK => ?_) ?_
        · go_simp
          (go_at_call 11; ((with_reducible refine (HFr.out _ DY1.out).mono ?_); rintro E Y2 ⟨fr, rfl, hr, hb⟩; have DY2 := Lib.hid (DY1.out.trans (hb.mono DY1.out.size)); have RY2 := Lib.hid hr; clear hb))
          refine hK.out _ _ ?_ (fun hHeld => ?_)
          · exact HS.out _ DY2.out
          clear hK K
          try simp only [List.getElem_toArray, List.getElem_cons_succ, List.getElem_cons_zero, Act.put, List.setIfInBounds_toArray, List.set_cons_zero, List.set_cons_succ]
          refine wpAnyH_ready (rs := [15]) (by kernel_rfl) (by simp) ?_
          refine AllReadyH.cons rfl (fun K hK => ?_) ?_
          · go_simp
            (go_at_call 13; ((with_reducible refine (refhas_any _ _ c d _ RY2.out).mono ?_); rintro E Y3 ⟨rfl, hb⟩; have DY3 := Lib.hid (DY2.out.trans (hb.mono DY2.out.size)); clear hb))
            refine hK.out _ _ ?_ (fun hHeld => ?_)
            · exact HS.out _ DY3.out
            clear hK K
            try simp only [List.getElem_toArray, List.getElem_cons_succ, List.getElem_cons_zero, Act.put, List.setIfInBounds_toArray, List.set_cons_zero, List.set_cons_succ]
            refine wpAnyH_take (i := 16) (v := ?_) rfl (by kernel_rfl) (by kernel_rfl) (by kernel_rfl) (fun _ _ _ h => h) (Or.inl ⟨by rfl, fun w hSw => ?_⟩) (by assumption) ?_
            rotate_left
            · (try dsimp only at hSw); go_simp; (try with_reducible rfl)
            try simp only [List.getElem_toArray, List.getElem_cons_succ, List.getElem_cons_zero, Act.put, List.setIfInBounds_toArray, List.set_cons_zero, List.set_cons_succ]
            refine wpAnyH_done (by kernel_rfl) ?_ _
            go_wp2
            go_roundw
            case rel => exact ⟨k + 1, by omega, by go_num, Lib.hid (hb8.out.trans (DY3.out.mono hb8.out.size))⟩
            case measure => simp [intOf]; omega
          exact AllReadyH.nil
        exact AllReadyH.nil
      exact AllReadyH.nil
    · have km : ¬ (k : Int) < m := by omega
      have P11 := Lib.hid (HP.out wr)
      clear SP
      go_wp2_with (first
        | (go_at_call 7; ((with_reducible refine P11.out.mono ?_); rintro E w12 ⟨rfl, hb⟩; have B12 := Lib.hid (hbW.out.trans (hb.mono hbW.out.size)); clear hb)))
      go_ret
      exact ⟨rfl, B12.out⟩
end Go.Proofs.YtnekajpoheipiaaGreat.Rea
