/- What the vault's do gives: one command, on a vault in memory (layer 13, vault). Conditions: the vault lies in memory as its cells and its maps say; the command may be; bounds on how much there is. (Written by tools/gen_vauj.py.) -/
import Derived.Test.YtdnabghhjlhjoaaVauI
import Derived.Test.YtdnabghhjlhjoaaBatH
import Derived.Test.YtdnabghhjlhjoaaVauE
namespace Go.Proofs.Ytdnabghhjlhjoaa.Vau
open Go.RowKit F64 Cmd Bat Cel Wid Go.Maps Go.WideElems Go.ChangeMaps Go.Sort
set_option linter.unusedVariables false
set_option linter.unusedSimpArgs false

/-! ### Boxes -/
abbrev cellA (f : Bool) (z : Nat) : Obj := .cells #[.bool f, .float .f64 z] 30
/-- The command's box, the writer's, the result's. -/
structure Bo (w : World) (k : Int) (s : Key) (x : Nat) (a b p : Int) (W : World) : Prop where
  below : Below w.heap.size w W
  c : W.heap[w.heap.size]? = some (.cells #[.int .i64 k, .string (str s), .float .f64 x] 48 (0, 0))
  q : W.heap[w.heap.size + 1]? = some (.cells #[.int .i64 a, .int .i64 b, .int .i64 p] 63 (0, 0))
  r : Bx (w.heap.size + 1 + 1) false 0 W
theorem Bo.start (w : World) (k : Int) (s : Key) (x : Nat) (a b p : Int) : Bo w k s x a b p (((w.alloc (.cells #[.int .i64 k, .string (str s), .float .f64 x] 48)).alloc (.cells #[.int .i64 a, .int .i64 b, .int .i64 p] 63)).alloc (.cells #[.bool false, .float .f64 0] 30)) := by
  have b1 := Cmd.below_one w (.cells #[.int .i64 k, .string (str s), .float .f64 x] 48)
  have b2 := Cmd.below_one (w.alloc (.cells #[.int .i64 k, .string (str s), .float .f64 x] 48)) (.cells #[.int .i64 a, .int .i64 b, .int .i64 p] 63)
  have b3 := Cmd.below_one ((w.alloc (.cells #[.int .i64 k, .string (str s), .float .f64 x] 48)).alloc (.cells #[.int .i64 a, .int .i64 b, .int .i64 p] 63)) (.cells #[.bool false, .float .f64 0] 30)
  have s1 : (w.alloc (.cells #[.int .i64 k, .string (str s), .float .f64 x] 48)).heap.size = w.heap.size + 1 := by simp
  have s2 : ((w.alloc (.cells #[.int .i64 k, .string (str s), .float .f64 x] 48)).alloc (.cells #[.int .i64 a, .int .i64 b, .int .i64 p] 63)).heap.size = w.heap.size + 1 + 1 := by simp
  refine ⟨(b1.trans (b2.mono b1.size)).trans (b3.mono (by omega)), ?_, ?_, ?_⟩
  · exact (b3.block _ (by omega)).trans ((b2.block _ (by omega)).trans (heap_alloc_new w _))
  · have h := heap_alloc_new (w.alloc (.cells #[.int .i64 k, .string (str s), .float .f64 x] 48)) (.cells #[.int .i64 a, .int .i64 b, .int .i64 p] 63)
    rw [s1] at h
    exact (b3.block _ (by omega)).trans h
  · have h := Bx.new ((w.alloc (.cells #[.int .i64 k, .string (str s), .float .f64 x] 48)).alloc (.cells #[.int .i64 a, .int .i64 b, .int .i64 p] 63)) false 0
    rw [s2] at h; exact h
section
variable {w W W' : World} {k : Int} {s : Key} {x : Nat} {a b p : Int}
theorem Bo.lt (h : Bo w k s x a b p W) : w.heap.size + 1 + 1 < W.heap.size := h.r.lt
theorem Bo.under (h : Bo w k s x a b p W) {M : Nat} (hb : Below M W W') (hM : w.heap.size + 1 + 1 < M) : Bo w k s x a b p W' :=
  ⟨h.below.trans (hb.mono (by omega)), (hb.block _ (by omega)).trans h.c, (hb.block _ (by omega)).trans h.q, h.r.same (hb.block _ hM)⟩
theorem Bo.on (h : Bo w k s x a b p W) (hb : Below W.heap.size W W') : Bo w k s x a b p W' := h.under hb h.lt
theorem Bo.only {F : Nat → Prop} (h : Bo w k s x a b p W) (ho : Only F W W') (hF : ∀ j, F j → j < w.heap.size) : (W'.heap[w.heap.size]? = some (.cells #[.int .i64 k, .string (str s), .float .f64 x] 48 (0, 0)) ∧ W'.heap[w.heap.size + 1]? = some (.cells #[.int .i64 a, .int .i64 b, .int .i64 p] 63 (0, 0))) ∧ Bx (w.heap.size + 1 + 1) false 0 W' := by
  have hl := h.lt
  exact ⟨⟨(ho.block _ (by omega) (fun e => by have := hF _ e; omega)).trans h.c, (ho.block _ (by omega) (fun e => by have := hF _ e; omega)).trans h.q⟩, h.r.same (ho.block _ hl (fun e => by have := hF _ e; omega))⟩
theorem cmd_cells (h : W.heap[w.heap.size]? = some (.cells #[.int .i64 k, .string (str s), .float .f64 x] 48 (0, 0))) : W.cell? ⟨w.heap.size, 0, none⟩ = some (.int .i64 k) ∧ W.cell? ⟨w.heap.size, 1, none⟩ = some (.string (str s)) ∧ W.cell? ⟨w.heap.size, 2, none⟩ = some (.float .f64 x) := by
  refine ⟨?_, ?_, ?_⟩ <;> simp [World.cell?, h]
theorem wr_cells (h : W.heap[w.heap.size + 1]? = some (.cells #[.int .i64 a, .int .i64 b, .int .i64 p] 63 (0, 0))) : W.cell? ⟨w.heap.size + 1, 0, none⟩ = some (.int .i64 a) ∧ W.cell? ⟨w.heap.size + 1, 1, none⟩ = some (.int .i64 b) ∧ W.cell? ⟨w.heap.size + 1, 2, none⟩ = some (.int .i64 p) := by
  refine ⟨?_, ?_, ?_⟩ <;> simp [World.cell?, h]
end
/-- Two cells' boxes that are made, then written. -/
def pr0 (w : World) : World := (w.alloc (cellA false 0)).alloc (cellA false 0)
def pr1 (w : World) (f : Bool) (z : Nat) : World := ((pr0 w).setCell ⟨w.heap.size, 0, none⟩ (.bool f)).setCell ⟨w.heap.size, 1, none⟩ (.float .f64 z)
def pr2 (w : World) (f : Bool) (z : Nat) (g : Bool) (y : Nat) : World := ((pr1 w f z).setCell ⟨w.heap.size + 1, 0, none⟩ (.bool g)).setCell ⟨w.heap.size + 1, 1, none⟩ (.float .f64 y)
structure Pr (w : World) (f : Bool) (z : Nat) (g : Bool) (y : Nat) : Prop where
  ba : Below w.heap.size w (w.alloc (cellA false 0))
  b0 : Below w.heap.size w (pr0 w)
  b1 : Below w.heap.size w (pr1 w f z)
  b2 : Below w.heap.size w (pr2 w f z g y)
  x0 : Bx w.heap.size false 0 (pr0 w)
  y0 : Bx (w.heap.size + 1) false 0 (pr0 w)
  y1 : Bx (w.heap.size + 1) false 0 (pr1 w f z)
  x2 : Bx w.heap.size f z (pr2 w f z g y)
  y2 : Bx (w.heap.size + 1) g y (pr2 w f z g y)
theorem Pr.mk' (w : World) (f : Bool) (z : Nat) (g : Bool) (y : Nat) : Pr w f z g y := by
  have ba := Cmd.below_one w (cellA false 0)
  have bb := Cmd.below_one (w.alloc (cellA false 0)) (cellA false 0)
  have b0 : Below w.heap.size w (pr0 w) := ba.trans (bb.mono ba.size)
  have x0 : Bx w.heap.size false 0 (pr0 w) := (Bx.new w false 0).on bb
  have y0 : Bx (w.heap.size + 1) false 0 (pr0 w) := by
    have h := Bx.new (w.alloc (cellA false 0)) false 0
    rw [show (w.alloc (cellA false 0)).heap.size = w.heap.size + 1 by simp] at h; exact h
  have b1 : Below w.heap.size w (pr1 w f z) := (b0.setCell (p := ⟨w.heap.size, 0, none⟩) (Nat.le_refl _) _).setCell (p := ⟨w.heap.size, 1, none⟩) (Nat.le_refl _) _
  have x1 : Bx w.heap.size f z (pr1 w f z) := x0.put f z
  have y1 : Bx (w.heap.size + 1) false 0 (pr1 w f z) := (y0.far (c := w.heap.size) (by omega) 0 (.bool f)).far (c := w.heap.size) (by omega) 1 (.float .f64 z)
  have b2 : Below w.heap.size w (pr2 w f z g y) := (b1.setCell (p := ⟨w.heap.size + 1, 0, none⟩) (Nat.le_succ _) _).setCell (p := ⟨w.heap.size + 1, 1, none⟩) (Nat.le_succ _) _
  exact ⟨ba, b0, b1, b2, x0, y0, y1, (x1.far (c := w.heap.size + 1) (by omega) 0 (.bool g)).far (c := w.heap.size + 1) (by omega) 1 (.float .f64 y), y1.put g y⟩

theorem cellIs_set {f : Key → Option Value} {C : Key → Cell2} {s : Key} {c' : Cell2} (h : ∀ t, CellIs (f t) (C t)) {o : Option Value} (hc : CellIs o c') : ∀ t, CellIs (setF f s o t) (if t = s then c' else C t) := fun t => by
  by_cases e : t = s
  · rw [e, setF_same, if_pos rfl]; exact hc
  · rw [setF_other f o e, if_neg e]; exact h t
theorem Only.young {n : Nat} {w w' : World} (h : Below n w w') : Only (fun k => n ≤ k) w w' := ⟨h.mono (Nat.zero_le _), fun b hb hn => h.block b (by omega)⟩
theorem Only.row {F : Nat → Prop} {w w' : World} {o : Option Nat} (h : w.grownBy w' o) (hF : ∀ k, o = some k → F k) : Only F w w' :=
  ⟨⟨h.os, h.tape, h.output, h.size, fun i hi => absurd hi (Nat.not_lt_zero _)⟩, fun b hb hn => h.block b hb (fun e => hn (hF b e.symm))⟩
theorem VM.mid {w w1 w2 : World} {base : Nat} {F : Nat → Prop} {g mc ml : Nat} {f h : Key → Option Value} {C : Key → Cell2} {L : Key → List Wr} {N : Nat} {cnt : Int} {s : Key} (V : VM w base F g mc ml f h C L N cnt) (hb : Below w.heap.size w w1) (hg : w1.grownBy w2 (logV h s).ownBlock) : w2.cell? ⟨g, 1, none⟩ = some (.map (some ml)) ∧ MapF w2 ml N h := by
  have V1 := V.on hb
  refine ⟨?_, V1.lm.block (hg.block ml V1.lm.lt (fun e => (V.logown s e.symm).2.2.2.1 rfl))⟩
  exact (World.cell?_of_block (w := w1) (a := ⟨g, 1, none⟩) (hg.block g V1.cells.2.2.2 (fun e => (V.logown s e.symm).2.1 rfl))).trans V1.cells.2.1

theorem fit_none {z : Nat} {c : Cell2} (h : Fit false z c) : CellIs none c := by
  have e := h.plain rfl
  subst e; exact h
/-- 'delete' at a map of texts. -/
theorem wp_drop {t e : TypeId} {ops : Array Oper} {rest : List Oper} {o : Oper} {a : Act} {Q : Exit → Act → World → Prop} {w : World} {s : Key} (hgd : o.guard = none) (m x : Operand)
    (ho : o.op = .call { callee := .builtin .delete, args := #[m, x], argTypes := #[t, 9] }) (b N : Nat) (f : Key → Option Value) (hm : a.eval m = .map (some b)) (hx : a.eval x = .string (str s)) (h : MapF w b N f) (hs : s.length ≤ 1000) (ht : Try.prog.underlying t = some (.map 9 e))
    (hK : ∀ w', Hid (MapF w' b N (setF f s none)) → Hid (w.mapTurned w' b) → wpList Try.prog ops Q rest (a.put o.dst (.tuple #[])) w') : wpList Try.prog ops Q (o :: rest) a w := by
  obtain ⟨w', hr, r1, r2⟩ := h.drop ht (s := s) (by omega) o.type
  refine wpList_plain hgd fun K hK' => ?_
  unfold Oper.wp execOp
  simp only [ho, resolve, invoke, builtin, Sem.run_bind, Sem.run_pure, Result.andThen_ok, List.map_toArray, List.map_cons, List.map_nil, hm, hx]
  rw [hr]
  exact hK' _ _ (hK w' (Lib.hid r1) (Lib.hid r2))

/-! ### do -/
set_option maxHeartbeats 16000000 in
set_option maxRecDepth 100000 in
theorem vdo_get {w : World} {base : Nat} {F : Nat → Prop} {g mc ml : Nat} {f h : Key → Option Value} {C : Key → Cell2} {L : Key → List Wr} {N : Nat} {cnt : Int} (V : VM w base F g mc ml f h C L N cnt) (hbase : base ≤ w.heap.size) (k : Int) (s : Key) (x : Nat) (a b p : Int) (hx : x < 18446744073709551616) (hs : s.length ≤ 1000) (hN : N ≤ 100000) (hL : (L s).length ≤ 100000) (cb : Bool) (cz : Nat) (hcz : cz < 18446744073709551616) (hcell : (f s).getD (.agg #[.bool false, .float .f64 0]) = .agg #[.bool cb, .float .f64 cz]) (hw : cWrites k s x = false) :
    Calls Try.prog 40 #[vptr g, .agg #[.int .i64 k, .string (str s), .float .f64 x], .agg #[.int .i64 a, .int .i64 b, .int .i64 p]] w fun E w' => ∃ f2 z2, E = .returned (.agg #[.bool f2, .float .f64 z2]) ∧ Fit f2 z2 (doC (cb, cz) k s x).2 ∧ Below w.heap.size w w' := by
  unfold vptr
  have HLK : Hid (∀ W, Below w.heap.size w W → (Instr.lookup 74 (.map (some mc)) (.string (str s)) false).run Try.prog W = .ok (.agg #[.bool cb, .float .f64 cz]) W) := Lib.hid fun W hb => by rw [((V.on hb).cm).look und_mc zero_cell (by omega), hcell]
  have HV := Lib.hid V
  have HS : Hid (∀ W, Bo w k s x a b p W → W.cell? ⟨g, 0, none⟩ = some (.map (some mc)) ∧ (Instr.lookup 74 (.map (some mc)) (.string (str s)) false).run Try.prog W = .ok (.agg #[.bool cb, .float .f64 cz]) W ∧ W.cell? ⟨w.heap.size, 0, none⟩ = some (.int .i64 k) ∧ W.cell? ⟨w.heap.size, 1, none⟩ = some (.string (str s)) ∧ W.cell? ⟨w.heap.size, 2, none⟩ = some (.float .f64 x)) := Lib.hid fun W hb => ⟨(V.on hb.below).cells.1, HLK.out W hb.below, cmd_cells hb.c⟩
  have CD : Hid (∀ W, Calls Try.prog 39 #[.agg #[.bool cb, .float .f64 cz], .agg #[.int .i64 k, .string (str s), .float .f64 x]] W (GivesDo (doC (cb, cz) k s x) W)) := Lib.hid fun W => ddo_any (cb, cz) k s x W hcz hx (by omega)
  have CW : Hid (∀ W, Calls Try.prog 48 #[.agg #[.int .i64 k, .string (str s), .float .f64 x]] W (RetBelow (.bool false) W)) := Lib.hid fun W => by have := writes_any k s x W hx; rwa [hw] at this
  have CC : Hid (∀ W, Calls Try.prog 49 #[.string (str s)] W (RetBelow (.string (str s)) W)) := Lib.hid fun W => clone_any s W (by omega)
  generalize doC (cb, cz) k s x = R at CD ⊢
  have B0 := Lib.hid (Bo.start w k s x a b p)
  have HN0 := Lib.hid (B0.out.on (Below.refl _ _).drew)
  have HBA := Lib.hid hbase
  have HLEN := Lib.hid hL
  have HKS := Lib.hid hs
  have HKL : Hid (s.length ≤ 140737488351232) := Lib.hid (by omega)
  have HNN := Lib.hid hN
  clear V hbase hx hcz hcell hL hw hs hN
  go_enter Try.func40, Try.ntmps40
  go_upto_region 1 with fail
  go_cut [7, 8] (fun p7 p8 wx => ∃ (q7 q8 : Nat) (f1 : Bool) (z1 : Nat) (f2 : Bool) (z2 : Nat), p7 = .pointer (some ⟨q7, 0, none⟩) ∧ p8 = .pointer (some ⟨q8, 0, none⟩) ∧ w.heap.size + 1 + 1 < q7 ∧ w.heap.size + 1 + 1 < q8 ∧ Hid (Bo w k s x a b p wx) ∧ Hid (Bx q7 f1 z1 wx) ∧ Hid (Bx q8 f2 z2 wx) ∧ Hid (Fit f1 z1 R.1) ∧ Hid (Fit f2 z2 R.2))
  case first =>
    refine wp_region_held_drew (S := (fun w' => w'.cell? ⟨g, 0, none⟩ = some (.map (some mc)) ∧ (Instr.lookup 74 (.map (some mc)) (.string (str s)) false).run Try.prog w' = .ok (.agg #[.bool cb, .float .f64 cz]) w' ∧ w'.cell? ⟨w.heap.size, 0, none⟩ = some (.int .i64 k) ∧ w'.cell? ⟨w.heap.size, 1, none⟩ = some (.string (str s)) ∧ w'.cell? ⟨w.heap.size, 2, none⟩ = some (.float .f64 x))) (by kernel_rfl) (HS.out _ HN0.out) (fun hHeld => ?_)
    clear HV CW CC
    generalize (((w.alloc (.cells #[.int .i64 k, .string (str s), .float .f64 x] 48)).alloc (.cells #[.int .i64 a, .int .i64 b, .int .i64 p] 63)).alloc (.cells #[.bool false, .float .f64 0] 30)).drew = W0 at HN0 hHeld ⊢
    refine wpAnyH_take (i := 0) (v := ?_) rfl (by kernel_rfl) (by kernel_rfl) (by kernel_rfl) (fun _ _ _ h => h) (Or.inl ⟨by rfl, fun w hSw => ?_⟩) (by assumption) ?_
    rotate_left
    · (try dsimp only at hSw); go_simp; (try with_reducible rfl)
    try simp only [List.getElem_toArray, List.getElem_cons_succ, List.getElem_cons_zero, Act.put, List.setIfInBounds_toArray, List.set_cons_zero, List.set_cons_succ]
    refine wpAnyH_take (i := 1) (v := ?_) rfl (by kernel_rfl) (by kernel_rfl) (by kernel_rfl) (fun _ _ _ h => h) (Or.inl ⟨by rfl, fun w hSw => ?_⟩) (by assumption) ?_
    rotate_left
    · (try dsimp only at hSw); go_simp; (try with_reducible rfl)
    try simp only [List.getElem_toArray, List.getElem_cons_succ, List.getElem_cons_zero, Act.put, List.setIfInBounds_toArray, List.set_cons_zero, List.set_cons_succ]
    refine wpAnyH_take (i := 2) (v := ?_) rfl (by kernel_rfl) (by kernel_rfl) (by kernel_rfl) (fun _ _ _ h => h) (Or.inl ⟨by rfl, fun w hSw => ?_⟩) (by assumption) ?_
    rotate_left
    · (try dsimp only at hSw); go_simp; (try with_reducible rfl)
    try simp only [List.getElem_toArray, List.getElem_cons_succ, List.getElem_cons_zero, Act.put, List.setIfInBounds_toArray, List.set_cons_zero, List.set_cons_succ]
    refine wpAnyH_take (i := 3) (v := ?_) rfl (by kernel_rfl) (by kernel_rfl) (by kernel_rfl) (fun _ _ _ h => h) (Or.inl ⟨by rfl, fun w hSw => ?_⟩) (by assumption) ?_
    rotate_left
    · (try dsimp only at hSw); go_simp; (try with_reducible rfl)
    try simp only [List.getElem_toArray, List.getElem_cons_succ, List.getElem_cons_zero, Act.put, List.setIfInBounds_toArray, List.set_cons_zero, List.set_cons_succ]
    refine wpAnyH_take (i := 4) (v := ?_) rfl (by kernel_rfl) (by kernel_rfl) (by kernel_rfl) (fun _ _ _ h => h) (Or.inl ⟨by rfl, fun w hSw => ?_⟩) (by assumption) ?_
    rotate_left
    · (try dsimp only at hSw); go_simp; (try with_reducible rfl)
    try simp only [List.getElem_toArray, List.getElem_cons_succ, List.getElem_cons_zero, Act.put, List.setIfInBounds_toArray, List.set_cons_zero, List.set_cons_succ]
    refine wpAnyH_take (i := 5) (v := ?_) rfl (by kernel_rfl) (by kernel_rfl) (by kernel_rfl) (fun _ _ _ h => h) (Or.inl ⟨by rfl, fun w hSw => ?_⟩) (by assumption) ?_
    rotate_left
    · (try dsimp only at hSw); go_simp; (try with_reducible rfl)
    try simp only [List.getElem_toArray, List.getElem_cons_succ, List.getElem_cons_zero, Act.put, List.setIfInBounds_toArray, List.set_cons_zero, List.set_cons_succ]
    refine wpAnyH_take (i := 6) (v := ?_) rfl (by kernel_rfl) (by kernel_rfl) (by kernel_rfl) (fun _ _ _ h => h) (Or.inl ⟨by rfl, fun w hSw => ?_⟩) (by assumption) ?_
    rotate_left
    · (try dsimp only at hSw); go_simp; (try with_reducible rfl)
    try simp only [List.getElem_toArray, List.getElem_cons_succ, List.getElem_cons_zero, Act.put, List.setIfInBounds_toArray, List.set_cons_zero, List.set_cons_succ]
    refine wpAnyH_take (i := 7) (v := ?_) rfl (by kernel_rfl) (by kernel_rfl) (by kernel_rfl) (fun _ _ _ h => h) (Or.inl ⟨by rfl, fun w hSw => ?_⟩) (by assumption) ?_
    rotate_left
    · (try dsimp only at hSw); go_simp; (try with_reducible rfl)
    try simp only [List.getElem_toArray, List.getElem_cons_succ, List.getElem_cons_zero, Act.put, List.setIfInBounds_toArray, List.set_cons_zero, List.set_cons_succ]
    refine wpAnyH_ready (rs := [8, 12, 13]) (by kernel_rfl) (by simp) ?_
    refine AllReadyH.cons rfl (fun K hK => ?_) ?_
    · go_simp
      (go_at_call 39; (with_reducible refine (CD.out _).mono ?_); rintro E W1 ⟨f1, z1, f2, z2, rfl, h1, h2, hb⟩; have HF1 := Lib.hid h1; have HF2 := Lib.hid h2; have HN1 := Lib.hid (HN0.out.on hb); clear h1 h2 hb)
      refine hK.out _ _ ?_ (fun hHeld => ?_)
      · exact HS.out _ HN1.out
      clear hK K
      try simp only [List.getElem_toArray, List.getElem_cons_succ, List.getElem_cons_zero, Act.put, List.setIfInBounds_toArray, List.set_cons_zero, List.set_cons_succ]
      refine wpAnyH_take (i := 9) (v := ?_) rfl (by kernel_rfl) (by kernel_rfl) (by kernel_rfl) (fun _ _ _ h => h) (Or.inl ⟨by rfl, fun w hSw => ?_⟩) (by assumption) ?_
      rotate_left
      · (try dsimp only at hSw); go_simp; (try with_reducible rfl)
      try simp only [List.getElem_toArray, List.getElem_cons_succ, List.getElem_cons_zero, Act.put, List.setIfInBounds_toArray, List.set_cons_zero, List.set_cons_succ]
      refine wpAnyH_take (i := 10) (v := ?_) rfl (by kernel_rfl) (by kernel_rfl) (by kernel_rfl) (fun _ _ _ h => h) (Or.inl ⟨by rfl, fun w hSw => ?_⟩) (by assumption) ?_
      rotate_left
      · (try dsimp only at hSw); go_simp; (try with_reducible rfl)
      try simp only [List.getElem_toArray, List.getElem_cons_succ, List.getElem_cons_zero, Act.put, List.setIfInBounds_toArray, List.set_cons_zero, List.set_cons_succ]
      refine wpAnyH_take (i := 11) (v := ?_) rfl (by kernel_rfl) (by kernel_rfl) (by kernel_rfl) (fun _ _ _ h => h) (Or.inl ⟨by rfl, fun w hSw => ?_⟩) (by assumption) ?_
      rotate_left
      · (try dsimp only at hSw); go_simp; (try with_reducible rfl)
      try simp only [List.getElem_toArray, List.getElem_cons_succ, List.getElem_cons_zero, Act.put, List.setIfInBounds_toArray, List.set_cons_zero, List.set_cons_succ]
      refine wpAnyH_ready (rs := [12, 13]) (by kernel_rfl) (by simp) ?_
      refine AllReadyH.cons rfl (fun K hK => ?_) ?_
      · go_simp
        have HN2 := Lib.hid (HN1.out.on (Cmd.below_one W1 (.cells #[.bool false, .float .f64 0] 30)))
        have B72 := Lib.hid (Bx.new W1 false 0)
        have hge7 : w.heap.size + 1 + 1 < W1.heap.size := HN1.out.lt
        refine hK.out _ _ ?_ (fun hHeld => ?_)
        · exact HS.out _ HN2.out
        clear hK K
        generalize W1.alloc (.cells #[.bool false, .float .f64 0] 30) = W2 at HN2 B72 hHeld ⊢
        try simp only [List.getElem_toArray, List.getElem_cons_succ, List.getElem_cons_zero, Act.put, List.setIfInBounds_toArray, List.set_cons_zero, List.set_cons_succ]
        refine wpAnyH_ready (rs := [13]) (by kernel_rfl) (by simp) ?_
        refine AllReadyH.cons rfl (fun K hK => ?_) ?_
        · go_simp
          have HN3 := Lib.hid (HN2.out.on (Cmd.below_one W2 (.cells #[.bool false, .float .f64 0] 30)))
          have B83 := Lib.hid (Bx.new W2 false 0)
          have hge8 : w.heap.size + 1 + 1 < W2.heap.size := HN2.out.lt
          have hne : W1.heap.size ≠ W2.heap.size := Nat.ne_of_lt B72.out.lt
          have B73 := Lib.hid (B72.out.alloc (.cells #[.bool false, .float .f64 0] 30))
          refine hK.out _ _ ?_ (fun hHeld => ?_)
          · exact HS.out _ HN3.out
          clear hK K
          generalize W2.alloc (.cells #[.bool false, .float .f64 0] 30) = W3 at HN3 B83 B73 hHeld ⊢
          try simp only [List.getElem_toArray, List.getElem_cons_succ, List.getElem_cons_zero, Act.put, List.setIfInBounds_toArray, List.set_cons_zero, List.set_cons_succ]
          refine wpAnyH_ready (rs := [14]) (by kernel_rfl) (by simp) ?_
          refine AllReadyH.cons rfl (fun K hK => ?_) ?_
          · obtain ⟨x0, x1, x2, x3⟩ := B73.out.facts
            go_simp
            have HN4 := Lib.hid (HN3.out.under (((Below.refl W1.heap.size W3).setCell (p := ⟨W1.heap.size, 0, none⟩) (Nat.le_refl _) (.bool f1)).setCell (p := ⟨W1.heap.size, 1, none⟩) (Nat.le_refl _) (.float .f64 z1)) hge7)
            have B74 := Lib.hid (B73.out.put f1 z1)
            have B84 := Lib.hid ((B83.out.far (c := W1.heap.size) (by omega) 0 (.bool f1)).far (c := W1.heap.size) (by omega) 1 (.float .f64 z1))
            refine hK.out _ _ ?_ (fun hHeld => ?_)
            · exact HS.out _ HN4.out
            clear hK K
            generalize ((W3.setCell ⟨W1.heap.size, 0, none⟩ (.bool f1)).setCell ⟨W1.heap.size, 1, none⟩ (.float .f64 z1)) = W4 at HN4 B74 B84 hHeld ⊢
            try simp only [List.getElem_toArray, List.getElem_cons_succ, List.getElem_cons_zero, Act.put, List.setIfInBounds_toArray, List.set_cons_zero, List.set_cons_succ]
            refine wpAnyH_ready (rs := [15]) (by kernel_rfl) (by simp) ?_
            refine AllReadyH.cons rfl (fun K hK => ?_) ?_
            · obtain ⟨x0, x1, x2, x3⟩ := B84.out.facts
              go_simp
              have HN5 := Lib.hid (HN4.out.under (((Below.refl W2.heap.size W4).setCell (p := ⟨W2.heap.size, 0, none⟩) (Nat.le_refl _) (.bool f2)).setCell (p := ⟨W2.heap.size, 1, none⟩) (Nat.le_refl _) (.float .f64 z2)) hge8)
              have B85 := Lib.hid (B84.out.put f2 z2)
              have B75 := Lib.hid ((B74.out.far (c := W2.heap.size) (by omega) 0 (.bool f2)).far (c := W2.heap.size) (by omega) 1 (.float .f64 z2))
              refine hK.out _ _ ?_ (fun hHeld => ?_)
              · exact HS.out _ HN5.out
              clear hK K
              generalize ((W4.setCell ⟨W2.heap.size, 0, none⟩ (.bool f2)).setCell ⟨W2.heap.size, 1, none⟩ (.float .f64 z2)) = W5 at HN5 B85 B75 hHeld ⊢
              try simp only [List.getElem_toArray, List.getElem_cons_succ, List.getElem_cons_zero, Act.put, List.setIfInBounds_toArray, List.set_cons_zero, List.set_cons_succ]
              refine wpAnyH_done (by kernel_rfl) ?_ _
              go_wp2_with fail
              go_meet
              case rel => exact ⟨_, _, f1, z1, f2, z2, rfl, rfl, hge7, hge8, HN5, B75, B85, HF1, HF2⟩
            exact AllReadyH.nil
          exact AllReadyH.nil
        exact AllReadyH.nil
      refine AllReadyH.cons rfl (fun K hK => ?_) ?_
      · go_simp
        have HN2 := Lib.hid (HN1.out.on (Cmd.below_one W1 (.cells #[.bool false, .float .f64 0] 30)))
        have B82 := Lib.hid (Bx.new W1 false 0)
        have hge8 : w.heap.size + 1 + 1 < W1.heap.size := HN1.out.lt
        refine hK.out _ _ ?_ (fun hHeld => ?_)
        · exact HS.out _ HN2.out
        clear hK K
        generalize W1.alloc (.cells #[.bool false, .float .f64 0] 30) = W2 at HN2 B82 hHeld ⊢
        try simp only [List.getElem_toArray, List.getElem_cons_succ, List.getElem_cons_zero, Act.put, List.setIfInBounds_toArray, List.set_cons_zero, List.set_cons_succ]
        refine wpAnyH_ready (rs := [12]) (by kernel_rfl) (by simp) ?_
        refine AllReadyH.cons rfl (fun K hK => ?_) ?_
        · go_simp
          have HN3 := Lib.hid (HN2.out.on (Cmd.below_one W2 (.cells #[.bool false, .float .f64 0] 30)))
          have B73 := Lib.hid (Bx.new W2 false 0)
          have hge7 : w.heap.size + 1 + 1 < W2.heap.size := HN2.out.lt
          have hne : W1.heap.size ≠ W2.heap.size := Nat.ne_of_lt B82.out.lt
          have B83 := Lib.hid (B82.out.alloc (.cells #[.bool false, .float .f64 0] 30))
          refine hK.out _ _ ?_ (fun hHeld => ?_)
          · exact HS.out _ HN3.out
          clear hK K
          generalize W2.alloc (.cells #[.bool false, .float .f64 0] 30) = W3 at HN3 B73 B83 hHeld ⊢
          try simp only [List.getElem_toArray, List.getElem_cons_succ, List.getElem_cons_zero, Act.put, List.setIfInBounds_toArray, List.set_cons_zero, List.set_cons_succ]
          refine wpAnyH_ready (rs := [14]) (by kernel_rfl) (by simp) ?_
          refine AllReadyH.cons rfl (fun K hK => ?_) ?_
          · obtain ⟨x0, x1, x2, x3⟩ := B73.out.facts
            go_simp
            have HN4 := Lib.hid (HN3.out.under (((Below.refl W2.heap.size W3).setCell (p := ⟨W2.heap.size, 0, none⟩) (Nat.le_refl _) (.bool f1)).setCell (p := ⟨W2.heap.size, 1, none⟩) (Nat.le_refl _) (.float .f64 z1)) hge7)
            have B74 := Lib.hid (B73.out.put f1 z1)
            have B84 := Lib.hid ((B83.out.far (c := W2.heap.size) (by omega) 0 (.bool f1)).far (c := W2.heap.size) (by omega) 1 (.float .f64 z1))
            refine hK.out _ _ ?_ (fun hHeld => ?_)
            · exact HS.out _ HN4.out
            clear hK K
            generalize ((W3.setCell ⟨W2.heap.size, 0, none⟩ (.bool f1)).setCell ⟨W2.heap.size, 1, none⟩ (.float .f64 z1)) = W4 at HN4 B74 B84 hHeld ⊢
            try simp only [List.getElem_toArray, List.getElem_cons_succ, List.getElem_cons_zero, Act.put, List.setIfInBounds_toArray, List.set_cons_zero, List.set_cons_succ]
            refine wpAnyH_ready (rs := [15]) (by kernel_rfl) (by simp) ?_
            refine AllReadyH.cons rfl (fun K hK => ?_) ?_
            · obtain ⟨x0, x1, x2, x3⟩ := B84.out.facts
              go_simp
              have HN5 := Lib.hid (HN4.out.under (((Below.refl W1.heap.size W4).setCell (p := ⟨W1.heap.size, 0, none⟩) (Nat.le_refl _) (.bool f2)).setCell (p := ⟨W1.heap.size, 1, none⟩) (Nat.le_refl _) (.float .f64 z2)) hge8)
              have B85 := Lib.hid (B84.out.put f2 z2)
              have B75 := Lib.hid ((B74.out.far (c := W1.heap.size) (by omega) 0 (.bool f2)).far (c := W1.heap.size) (by omega) 1 (.float .f64 z2))
              refine hK.out _ _ ?_ (fun hHeld => ?_)
              · exact HS.out _ HN5.out
              clear hK K
              generalize ((W4.setCell ⟨W1.heap.size, 0, none⟩ (.bool f2)).setCell ⟨W1.heap.size, 1, none⟩ (.float .f64 z2)) = W5 at HN5 B85 B75 hHeld ⊢
              try simp only [List.getElem_toArray, List.getElem_cons_succ, List.getElem_cons_zero, Act.put, List.setIfInBounds_toArray, List.set_cons_zero, List.set_cons_succ]
              refine wpAnyH_done (by kernel_rfl) ?_ _
              go_wp2_with fail
              go_meet
              case rel => exact ⟨_, _, f1, z1, f2, z2, rfl, rfl, hge7, hge8, HN5, B75, B85, HF1, HF2⟩
            exact AllReadyH.nil
          exact AllReadyH.nil
        exact AllReadyH.nil
      exact AllReadyH.nil
    refine AllReadyH.cons rfl (fun K hK => ?_) ?_
    · go_simp
      have HN1 := Lib.hid (HN0.out.on (Cmd.below_one W0 (.cells #[.bool false, .float .f64 0] 30)))
      have B71 := Lib.hid (Bx.new W0 false 0)
      have hge7 : w.heap.size + 1 + 1 < W0.heap.size := HN0.out.lt
      refine hK.out _ _ ?_ (fun hHeld => ?_)
      · exact HS.out _ HN1.out
      clear hK K
      generalize W0.alloc (.cells #[.bool false, .float .f64 0] 30) = W1 at HN1 B71 hHeld ⊢
      try simp only [List.getElem_toArray, List.getElem_cons_succ, List.getElem_cons_zero, Act.put, List.setIfInBounds_toArray, List.set_cons_zero, List.set_cons_succ]
      refine wpAnyH_ready (rs := [8, 13]) (by kernel_rfl) (by simp) ?_
      refine AllReadyH.cons rfl (fun K hK => ?_) ?_
      · go_simp
        (go_at_call 39; (with_reducible refine (CD.out _).mono ?_); rintro E W2 ⟨f1, z1, f2, z2, rfl, h1, h2, hb⟩; have HF1 := Lib.hid h1; have HF2 := Lib.hid h2; have HN2 := Lib.hid (HN1.out.on hb); have B72 := Lib.hid (B71.out.on hb); clear h1 h2 hb)
        refine hK.out _ _ ?_ (fun hHeld => ?_)
        · exact HS.out _ HN2.out
        clear hK K
        try simp only [List.getElem_toArray, List.getElem_cons_succ, List.getElem_cons_zero, Act.put, List.setIfInBounds_toArray, List.set_cons_zero, List.set_cons_succ]
        refine wpAnyH_take (i := 9) (v := ?_) rfl (by kernel_rfl) (by kernel_rfl) (by kernel_rfl) (fun _ _ _ h => h) (Or.inl ⟨by rfl, fun w hSw => ?_⟩) (by assumption) ?_
        rotate_left
        · (try dsimp only at hSw); go_simp; (try with_reducible rfl)
        try simp only [List.getElem_toArray, List.getElem_cons_succ, List.getElem_cons_zero, Act.put, List.setIfInBounds_toArray, List.set_cons_zero, List.set_cons_succ]
        refine wpAnyH_take (i := 10) (v := ?_) rfl (by kernel_rfl) (by kernel_rfl) (by kernel_rfl) (fun _ _ _ h => h) (Or.inl ⟨by rfl, fun w hSw => ?_⟩) (by assumption) ?_
        rotate_left
        · (try dsimp only at hSw); go_simp; (try with_reducible rfl)
        try simp only [List.getElem_toArray, List.getElem_cons_succ, List.getElem_cons_zero, Act.put, List.setIfInBounds_toArray, List.set_cons_zero, List.set_cons_succ]
        refine wpAnyH_take (i := 11) (v := ?_) rfl (by kernel_rfl) (by kernel_rfl) (by kernel_rfl) (fun _ _ _ h => h) (Or.inl ⟨by rfl, fun w hSw => ?_⟩) (by assumption) ?_
        rotate_left
        · (try dsimp only at hSw); go_simp; (try with_reducible rfl)
        try simp only [List.getElem_toArray, List.getElem_cons_succ, List.getElem_cons_zero, Act.put, List.setIfInBounds_toArray, List.set_cons_zero, List.set_cons_succ]
        refine wpAnyH_ready (rs := [13]) (by kernel_rfl) (by simp) ?_
        refine AllReadyH.cons rfl (fun K hK => ?_) ?_
        · go_simp
          have HN3 := Lib.hid (HN2.out.on (Cmd.below_one W2 (.cells #[.bool false, .float .f64 0] 30)))
          have B83 := Lib.hid (Bx.new W2 false 0)
          have hge8 : w.heap.size + 1 + 1 < W2.heap.size := HN2.out.lt
          have hne : W0.heap.size ≠ W2.heap.size := Nat.ne_of_lt B72.out.lt
          have B73 := Lib.hid (B72.out.alloc (.cells #[.bool false, .float .f64 0] 30))
          refine hK.out _ _ ?_ (fun hHeld => ?_)
          · exact HS.out _ HN3.out
          clear hK K
          generalize W2.alloc (.cells #[.bool false, .float .f64 0] 30) = W3 at HN3 B83 B73 hHeld ⊢
          try simp only [List.getElem_toArray, List.getElem_cons_succ, List.getElem_cons_zero, Act.put, List.setIfInBounds_toArray, List.set_cons_zero, List.set_cons_succ]
          refine wpAnyH_ready (rs := [14]) (by kernel_rfl) (by simp) ?_
          refine AllReadyH.cons rfl (fun K hK => ?_) ?_
          · obtain ⟨x0, x1, x2, x3⟩ := B73.out.facts
            go_simp
            have HN4 := Lib.hid (HN3.out.under (((Below.refl W0.heap.size W3).setCell (p := ⟨W0.heap.size, 0, none⟩) (Nat.le_refl _) (.bool f1)).setCell (p := ⟨W0.heap.size, 1, none⟩) (Nat.le_refl _) (.float .f64 z1)) hge7)
            have B74 := Lib.hid (B73.out.put f1 z1)
            have B84 := Lib.hid ((B83.out.far (c := W0.heap.size) (by omega) 0 (.bool f1)).far (c := W0.heap.size) (by omega) 1 (.float .f64 z1))
            refine hK.out _ _ ?_ (fun hHeld => ?_)
            · exact HS.out _ HN4.out
            clear hK K
            generalize ((W3.setCell ⟨W0.heap.size, 0, none⟩ (.bool f1)).setCell ⟨W0.heap.size, 1, none⟩ (.float .f64 z1)) = W4 at HN4 B74 B84 hHeld ⊢
            try simp only [List.getElem_toArray, List.getElem_cons_succ, List.getElem_cons_zero, Act.put, List.setIfInBounds_toArray, List.set_cons_zero, List.set_cons_succ]
            refine wpAnyH_ready (rs := [15]) (by kernel_rfl) (by simp) ?_
            refine AllReadyH.cons rfl (fun K hK => ?_) ?_
            · obtain ⟨x0, x1, x2, x3⟩ := B84.out.facts
              go_simp
              have HN5 := Lib.hid (HN4.out.under (((Below.refl W2.heap.size W4).setCell (p := ⟨W2.heap.size, 0, none⟩) (Nat.le_refl _) (.bool f2)).setCell (p := ⟨W2.heap.size, 1, none⟩) (Nat.le_refl _) (.float .f64 z2)) hge8)
              have B85 := Lib.hid (B84.out.put f2 z2)
              have B75 := Lib.hid ((B74.out.far (c := W2.heap.size) (by omega) 0 (.bool f2)).far (c := W2.heap.size) (by omega) 1 (.float .f64 z2))
              refine hK.out _ _ ?_ (fun hHeld => ?_)
              · exact HS.out _ HN5.out
              clear hK K
              generalize ((W4.setCell ⟨W2.heap.size, 0, none⟩ (.bool f2)).setCell ⟨W2.heap.size, 1, none⟩ (.float .f64 z2)) = W5 at HN5 B85 B75 hHeld ⊢
              try simp only [List.getElem_toArray, List.getElem_cons_succ, List.getElem_cons_zero, Act.put, List.setIfInBounds_toArray, List.set_cons_zero, List.set_cons_succ]
              refine wpAnyH_done (by kernel_rfl) ?_ _
              go_wp2_with fail
              go_meet
              case rel => exact ⟨_, _, f1, z1, f2, z2, rfl, rfl, hge7, hge8, HN5, B75, B85, HF1, HF2⟩
            exact AllReadyH.nil
          exact AllReadyH.nil
        exact AllReadyH.nil
      refine AllReadyH.cons rfl (fun K hK => ?_) ?_
      · go_simp
        have HN2 := Lib.hid (HN1.out.on (Cmd.below_one W1 (.cells #[.bool false, .float .f64 0] 30)))
        have B82 := Lib.hid (Bx.new W1 false 0)
        have hge8 : w.heap.size + 1 + 1 < W1.heap.size := HN1.out.lt
        have hne : W0.heap.size ≠ W1.heap.size := Nat.ne_of_lt B71.out.lt
        have B72 := Lib.hid (B71.out.alloc (.cells #[.bool false, .float .f64 0] 30))
        refine hK.out _ _ ?_ (fun hHeld => ?_)
        · exact HS.out _ HN2.out
        clear hK K
        generalize W1.alloc (.cells #[.bool false, .float .f64 0] 30) = W2 at HN2 B82 B72 hHeld ⊢
        try simp only [List.getElem_toArray, List.getElem_cons_succ, List.getElem_cons_zero, Act.put, List.setIfInBounds_toArray, List.set_cons_zero, List.set_cons_succ]
        refine wpAnyH_ready (rs := [8]) (by kernel_rfl) (by simp) ?_
        refine AllReadyH.cons rfl (fun K hK => ?_) ?_
        · go_simp
          (go_at_call 39; (with_reducible refine (CD.out _).mono ?_); rintro E W3 ⟨f1, z1, f2, z2, rfl, h1, h2, hb⟩; have HF1 := Lib.hid h1; have HF2 := Lib.hid h2; have HN3 := Lib.hid (HN2.out.on hb); have B73 := Lib.hid (B72.out.on hb); have B83 := Lib.hid (B82.out.on hb); clear h1 h2 hb)
          refine hK.out _ _ ?_ (fun hHeld => ?_)
          · exact HS.out _ HN3.out
          clear hK K
          try simp only [List.getElem_toArray, List.getElem_cons_succ, List.getElem_cons_zero, Act.put, List.setIfInBounds_toArray, List.set_cons_zero, List.set_cons_succ]
          refine wpAnyH_take (i := 9) (v := ?_) rfl (by kernel_rfl) (by kernel_rfl) (by kernel_rfl) (fun _ _ _ h => h) (Or.inl ⟨by rfl, fun w hSw => ?_⟩) (by assumption) ?_
          rotate_left
          · (try dsimp only at hSw); go_simp; (try with_reducible rfl)
          try simp only [List.getElem_toArray, List.getElem_cons_succ, List.getElem_cons_zero, Act.put, List.setIfInBounds_toArray, List.set_cons_zero, List.set_cons_succ]
          refine wpAnyH_take (i := 10) (v := ?_) rfl (by kernel_rfl) (by kernel_rfl) (by kernel_rfl) (fun _ _ _ h => h) (Or.inl ⟨by rfl, fun w hSw => ?_⟩) (by assumption) ?_
          rotate_left
          · (try dsimp only at hSw); go_simp; (try with_reducible rfl)
          try simp only [List.getElem_toArray, List.getElem_cons_succ, List.getElem_cons_zero, Act.put, List.setIfInBounds_toArray, List.set_cons_zero, List.set_cons_succ]
          refine wpAnyH_take (i := 11) (v := ?_) rfl (by kernel_rfl) (by kernel_rfl) (by kernel_rfl) (fun _ _ _ h => h) (Or.inl ⟨by rfl, fun w hSw => ?_⟩) (by assumption) ?_
          rotate_left
          · (try dsimp only at hSw); go_simp; (try with_reducible rfl)
          try simp only [List.getElem_toArray, List.getElem_cons_succ, List.getElem_cons_zero, Act.put, List.setIfInBounds_toArray, List.set_cons_zero, List.set_cons_succ]
          refine wpAnyH_ready (rs := [14]) (by kernel_rfl) (by simp) ?_
          refine AllReadyH.cons rfl (fun K hK => ?_) ?_
          · obtain ⟨x0, x1, x2, x3⟩ := B73.out.facts
            go_simp
            have HN4 := Lib.hid (HN3.out.under (((Below.refl W0.heap.size W3).setCell (p := ⟨W0.heap.size, 0, none⟩) (Nat.le_refl _) (.bool f1)).setCell (p := ⟨W0.heap.size, 1, none⟩) (Nat.le_refl _) (.float .f64 z1)) hge7)
            have B74 := Lib.hid (B73.out.put f1 z1)
            have B84 := Lib.hid ((B83.out.far (c := W0.heap.size) (by omega) 0 (.bool f1)).far (c := W0.heap.size) (by omega) 1 (.float .f64 z1))
            refine hK.out _ _ ?_ (fun hHeld => ?_)
            · exact HS.out _ HN4.out
            clear hK K
            generalize ((W3.setCell ⟨W0.heap.size, 0, none⟩ (.bool f1)).setCell ⟨W0.heap.size, 1, none⟩ (.float .f64 z1)) = W4 at HN4 B74 B84 hHeld ⊢
            try simp only [List.getElem_toArray, List.getElem_cons_succ, List.getElem_cons_zero, Act.put, List.setIfInBounds_toArray, List.set_cons_zero, List.set_cons_succ]
            refine wpAnyH_ready (rs := [15]) (by kernel_rfl) (by simp) ?_
            refine AllReadyH.cons rfl (fun K hK => ?_) ?_
            · obtain ⟨x0, x1, x2, x3⟩ := B84.out.facts
              go_simp
              have HN5 := Lib.hid (HN4.out.under (((Below.refl W1.heap.size W4).setCell (p := ⟨W1.heap.size, 0, none⟩) (Nat.le_refl _) (.bool f2)).setCell (p := ⟨W1.heap.size, 1, none⟩) (Nat.le_refl _) (.float .f64 z2)) hge8)
              have B85 := Lib.hid (B84.out.put f2 z2)
              have B75 := Lib.hid ((B74.out.far (c := W1.heap.size) (by omega) 0 (.bool f2)).far (c := W1.heap.size) (by omega) 1 (.float .f64 z2))
              refine hK.out _ _ ?_ (fun hHeld => ?_)
              · exact HS.out _ HN5.out
              clear hK K
              generalize ((W4.setCell ⟨W1.heap.size, 0, none⟩ (.bool f2)).setCell ⟨W1.heap.size, 1, none⟩ (.float .f64 z2)) = W5 at HN5 B85 B75 hHeld ⊢
              try simp only [List.getElem_toArray, List.getElem_cons_succ, List.getElem_cons_zero, Act.put, List.setIfInBounds_toArray, List.set_cons_zero, List.set_cons_succ]
              refine wpAnyH_done (by kernel_rfl) ?_ _
              go_wp2_with fail
              go_meet
              case rel => exact ⟨_, _, f1, z1, f2, z2, rfl, rfl, hge7, hge8, HN5, B75, B85, HF1, HF2⟩
            exact AllReadyH.nil
          exact AllReadyH.nil
        exact AllReadyH.nil
      exact AllReadyH.nil
    refine AllReadyH.cons rfl (fun K hK => ?_) ?_
    · go_simp
      have HN1 := Lib.hid (HN0.out.on (Cmd.below_one W0 (.cells #[.bool false, .float .f64 0] 30)))
      have B81 := Lib.hid (Bx.new W0 false 0)
      have hge8 : w.heap.size + 1 + 1 < W0.heap.size := HN0.out.lt
      refine hK.out _ _ ?_ (fun hHeld => ?_)
      · exact HS.out _ HN1.out
      clear hK K
      generalize W0.alloc (.cells #[.bool false, .float .f64 0] 30) = W1 at HN1 B81 hHeld ⊢
      try simp only [List.getElem_toArray, List.getElem_cons_succ, List.getElem_cons_zero, Act.put, List.setIfInBounds_toArray, List.set_cons_zero, List.set_cons_succ]
      refine wpAnyH_ready (rs := [8, 12]) (by kernel_rfl) (by simp) ?_
      refine AllReadyH.cons rfl (fun K hK => ?_) ?_
      · go_simp
        (go_at_call 39; (with_reducible refine (CD.out _).mono ?_); rintro E W2 ⟨f1, z1, f2, z2, rfl, h1, h2, hb⟩; have HF1 := Lib.hid h1; have HF2 := Lib.hid h2; have HN2 := Lib.hid (HN1.out.on hb); have B82 := Lib.hid (B81.out.on hb); clear h1 h2 hb)
        refine hK.out _ _ ?_ (fun hHeld => ?_)
        · exact HS.out _ HN2.out
        clear hK K
        try simp only [List.getElem_toArray, List.getElem_cons_succ, List.getElem_cons_zero, Act.put, List.setIfInBounds_toArray, List.set_cons_zero, List.set_cons_succ]
        refine wpAnyH_take (i := 9) (v := ?_) rfl (by kernel_rfl) (by kernel_rfl) (by kernel_rfl) (fun _ _ _ h => h) (Or.inl ⟨by rfl, fun w hSw => ?_⟩) (by assumption) ?_
        rotate_left
        · (try dsimp only at hSw); go_simp; (try with_reducible rfl)
        try simp only [List.getElem_toArray, List.getElem_cons_succ, List.getElem_cons_zero, Act.put, List.setIfInBounds_toArray, List.set_cons_zero, List.set_cons_succ]
        refine wpAnyH_take (i := 10) (v := ?_) rfl (by kernel_rfl) (by kernel_rfl) (by kernel_rfl) (fun _ _ _ h => h) (Or.inl ⟨by rfl, fun w hSw => ?_⟩) (by assumption) ?_
        rotate_left
        · (try dsimp only at hSw); go_simp; (try with_reducible rfl)
        try simp only [List.getElem_toArray, List.getElem_cons_succ, List.getElem_cons_zero, Act.put, List.setIfInBounds_toArray, List.set_cons_zero, List.set_cons_succ]
        refine wpAnyH_take (i := 11) (v := ?_) rfl (by kernel_rfl) (by kernel_rfl) (by kernel_rfl) (fun _ _ _ h => h) (Or.inl ⟨by rfl, fun w hSw => ?_⟩) (by assumption) ?_
        rotate_left
        · (try dsimp only at hSw); go_simp; (try with_reducible rfl)
        try simp only [List.getElem_toArray, List.getElem_cons_succ, List.getElem_cons_zero, Act.put, List.setIfInBounds_toArray, List.set_cons_zero, List.set_cons_succ]
        refine wpAnyH_ready (rs := [12]) (by kernel_rfl) (by simp) ?_
        refine AllReadyH.cons rfl (fun K hK => ?_) ?_
        · go_simp
          have HN3 := Lib.hid (HN2.out.on (Cmd.below_one W2 (.cells #[.bool false, .float .f64 0] 30)))
          have B73 := Lib.hid (Bx.new W2 false 0)
          have hge7 : w.heap.size + 1 + 1 < W2.heap.size := HN2.out.lt
          have hne : W0.heap.size ≠ W2.heap.size := Nat.ne_of_lt B82.out.lt
          have B83 := Lib.hid (B82.out.alloc (.cells #[.bool false, .float .f64 0] 30))
          refine hK.out _ _ ?_ (fun hHeld => ?_)
          · exact HS.out _ HN3.out
          clear hK K
          generalize W2.alloc (.cells #[.bool false, .float .f64 0] 30) = W3 at HN3 B73 B83 hHeld ⊢
          try simp only [List.getElem_toArray, List.getElem_cons_succ, List.getElem_cons_zero, Act.put, List.setIfInBounds_toArray, List.set_cons_zero, List.set_cons_succ]
          refine wpAnyH_ready (rs := [14]) (by kernel_rfl) (by simp) ?_
          refine AllReadyH.cons rfl (fun K hK => ?_) ?_
          · obtain ⟨x0, x1, x2, x3⟩ := B73.out.facts
            go_simp
            have HN4 := Lib.hid (HN3.out.under (((Below.refl W2.heap.size W3).setCell (p := ⟨W2.heap.size, 0, none⟩) (Nat.le_refl _) (.bool f1)).setCell (p := ⟨W2.heap.size, 1, none⟩) (Nat.le_refl _) (.float .f64 z1)) hge7)
            have B74 := Lib.hid (B73.out.put f1 z1)
            have B84 := Lib.hid ((B83.out.far (c := W2.heap.size) (by omega) 0 (.bool f1)).far (c := W2.heap.size) (by omega) 1 (.float .f64 z1))
            refine hK.out _ _ ?_ (fun hHeld => ?_)
            · exact HS.out _ HN4.out
            clear hK K
            generalize ((W3.setCell ⟨W2.heap.size, 0, none⟩ (.bool f1)).setCell ⟨W2.heap.size, 1, none⟩ (.float .f64 z1)) = W4 at HN4 B74 B84 hHeld ⊢
            try simp only [List.getElem_toArray, List.getElem_cons_succ, List.getElem_cons_zero, Act.put, List.setIfInBounds_toArray, List.set_cons_zero, List.set_cons_succ]
            refine wpAnyH_ready (rs := [15]) (by kernel_rfl) (by simp) ?_
            refine AllReadyH.cons rfl (fun K hK => ?_) ?_
            · obtain ⟨x0, x1, x2, x3⟩ := B84.out.facts
              go_simp
              have HN5 := Lib.hid (HN4.out.under (((Below.refl W0.heap.size W4).setCell (p := ⟨W0.heap.size, 0, none⟩) (Nat.le_refl _) (.bool f2)).setCell (p := ⟨W0.heap.size, 1, none⟩) (Nat.le_refl _) (.float .f64 z2)) hge8)
              have B85 := Lib.hid (B84.out.put f2 z2)
              have B75 := Lib.hid ((B74.out.far (c := W0.heap.size) (by omega) 0 (.bool f2)).far (c := W0.heap.size) (by omega) 1 (.float .f64 z2))
              refine hK.out _ _ ?_ (fun hHeld => ?_)
              · exact HS.out _ HN5.out
              clear hK K
              generalize ((W4.setCell ⟨W0.heap.size, 0, none⟩ (.bool f2)).setCell ⟨W0.heap.size, 1, none⟩ (.float .f64 z2)) = W5 at HN5 B85 B75 hHeld ⊢
              try simp only [List.getElem_toArray, List.getElem_cons_succ, List.getElem_cons_zero, Act.put, List.setIfInBounds_toArray, List.set_cons_zero, List.set_cons_succ]
              refine wpAnyH_done (by kernel_rfl) ?_ _
              go_wp2_with fail
              go_meet
              case rel => exact ⟨_, _, f1, z1, f2, z2, rfl, rfl, hge7, hge8, HN5, B75, B85, HF1, HF2⟩
            exact AllReadyH.nil
          exact AllReadyH.nil
        exact AllReadyH.nil
      refine AllReadyH.cons rfl (fun K hK => ?_) ?_
      · go_simp
        have HN2 := Lib.hid (HN1.out.on (Cmd.below_one W1 (.cells #[.bool false, .float .f64 0] 30)))
        have B72 := Lib.hid (Bx.new W1 false 0)
        have hge7 : w.heap.size + 1 + 1 < W1.heap.size := HN1.out.lt
        have hne : W0.heap.size ≠ W1.heap.size := Nat.ne_of_lt B81.out.lt
        have B82 := Lib.hid (B81.out.alloc (.cells #[.bool false, .float .f64 0] 30))
        refine hK.out _ _ ?_ (fun hHeld => ?_)
        · exact HS.out _ HN2.out
        clear hK K
        generalize W1.alloc (.cells #[.bool false, .float .f64 0] 30) = W2 at HN2 B72 B82 hHeld ⊢
        try simp only [List.getElem_toArray, List.getElem_cons_succ, List.getElem_cons_zero, Act.put, List.setIfInBounds_toArray, List.set_cons_zero, List.set_cons_succ]
        refine wpAnyH_ready (rs := [8]) (by kernel_rfl) (by simp) ?_
        refine AllReadyH.cons rfl (fun K hK => ?_) ?_
        · go_simp
          (go_at_call 39; (with_reducible refine (CD.out _).mono ?_); rintro E W3 ⟨f1, z1, f2, z2, rfl, h1, h2, hb⟩; have HF1 := Lib.hid h1; have HF2 := Lib.hid h2; have HN3 := Lib.hid (HN2.out.on hb); have B73 := Lib.hid (B72.out.on hb); have B83 := Lib.hid (B82.out.on hb); clear h1 h2 hb)
          refine hK.out _ _ ?_ (fun hHeld => ?_)
          · exact HS.out _ HN3.out
          clear hK K
          try simp only [List.getElem_toArray, List.getElem_cons_succ, List.getElem_cons_zero, Act.put, List.setIfInBounds_toArray, List.set_cons_zero, List.set_cons_succ]
          refine wpAnyH_take (i := 9) (v := ?_) rfl (by kernel_rfl) (by kernel_rfl) (by kernel_rfl) (fun _ _ _ h => h) (Or.inl ⟨by rfl, fun w hSw => ?_⟩) (by assumption) ?_
          rotate_left
          · (try dsimp only at hSw); go_simp; (try with_reducible rfl)
          try simp only [List.getElem_toArray, List.getElem_cons_succ, List.getElem_cons_zero, Act.put, List.setIfInBounds_toArray, List.set_cons_zero, List.set_cons_succ]
          refine wpAnyH_take (i := 10) (v := ?_) rfl (by kernel_rfl) (by kernel_rfl) (by kernel_rfl) (fun _ _ _ h => h) (Or.inl ⟨by rfl, fun w hSw => ?_⟩) (by assumption) ?_
          rotate_left
          · (try dsimp only at hSw); go_simp; (try with_reducible rfl)
          try simp only [List.getElem_toArray, List.getElem_cons_succ, List.getElem_cons_zero, Act.put, List.setIfInBounds_toArray, List.set_cons_zero, List.set_cons_succ]
          refine wpAnyH_take (i := 11) (v := ?_) rfl (by kernel_rfl) (by kernel_rfl) (by kernel_rfl) (fun _ _ _ h => h) (Or.inl ⟨by rfl, fun w hSw => ?_⟩) (by assumption) ?_
          rotate_left
          · (try dsimp only at hSw); go_simp; (try with_reducible rfl)
          try simp only [List.getElem_toArray, List.getElem_cons_succ, List.getElem_cons_zero, Act.put, List.setIfInBounds_toArray, List.set_cons_zero, List.set_cons_succ]
          refine wpAnyH_ready (rs := [14]) (by kernel_rfl) (by simp) ?_
          refine AllReadyH.cons rfl (fun K hK => ?_) ?_
          · obtain ⟨x0, x1, x2, x3⟩ := B73.out.facts
            go_simp
            have HN4 := Lib.hid (HN3.out.under (((Below.refl W1.heap.size W3).setCell (p := ⟨W1.heap.size, 0, none⟩) (Nat.le_refl _) (.bool f1)).setCell (p := ⟨W1.heap.size, 1, none⟩) (Nat.le_refl _) (.float .f64 z1)) hge7)
            have B74 := Lib.hid (B73.out.put f1 z1)
            have B84 := Lib.hid ((B83.out.far (c := W1.heap.size) (by omega) 0 (.bool f1)).far (c := W1.heap.size) (by omega) 1 (.float .f64 z1))
            refine hK.out _ _ ?_ (fun hHeld => ?_)
            · exact HS.out _ HN4.out
            clear hK K
            generalize ((W3.setCell ⟨W1.heap.size, 0, none⟩ (.bool f1)).setCell ⟨W1.heap.size, 1, none⟩ (.float .f64 z1)) = W4 at HN4 B74 B84 hHeld ⊢
            try simp only [List.getElem_toArray, List.getElem_cons_succ, List.getElem_cons_zero, Act.put, List.setIfInBounds_toArray, List.set_cons_zero, List.set_cons_succ]
            refine wpAnyH_ready (rs := [15]) (by kernel_rfl) (by simp) ?_
            refine AllReadyH.cons rfl (fun K hK => ?_) ?_
            · obtain ⟨x0, x1, x2, x3⟩ := B84.out.facts
              go_simp
              have HN5 := Lib.hid (HN4.out.under (((Below.refl W0.heap.size W4).setCell (p := ⟨W0.heap.size, 0, none⟩) (Nat.le_refl _) (.bool f2)).setCell (p := ⟨W0.heap.size, 1, none⟩) (Nat.le_refl _) (.float .f64 z2)) hge8)
              have B85 := Lib.hid (B84.out.put f2 z2)
              have B75 := Lib.hid ((B74.out.far (c := W0.heap.size) (by omega) 0 (.bool f2)).far (c := W0.heap.size) (by omega) 1 (.float .f64 z2))
              refine hK.out _ _ ?_ (fun hHeld => ?_)
              · exact HS.out _ HN5.out
              clear hK K
              generalize ((W4.setCell ⟨W0.heap.size, 0, none⟩ (.bool f2)).setCell ⟨W0.heap.size, 1, none⟩ (.float .f64 z2)) = W5 at HN5 B85 B75 hHeld ⊢
              try simp only [List.getElem_toArray, List.getElem_cons_succ, List.getElem_cons_zero, Act.put, List.setIfInBounds_toArray, List.set_cons_zero, List.set_cons_succ]
              refine wpAnyH_done (by kernel_rfl) ?_ _
              go_wp2_with fail
              go_meet
              case rel => exact ⟨_, _, f1, z1, f2, z2, rfl, rfl, hge7, hge8, HN5, B75, B85, HF1, HF2⟩
            exact AllReadyH.nil
          exact AllReadyH.nil
        exact AllReadyH.nil
      exact AllReadyH.nil
    exact AllReadyH.nil
  case rest =>
    obtain ⟨q7, q8, f1, z1, f2, z2, rfl, rfl, h7, h8, HB, X7, X8, HF1, HF2⟩ := hcut
    obtain ⟨c0, c1, c2⟩ := cmd_cells HB.out.c
    obtain ⟨x0, x1, x2, x3⟩ := X7.out.facts
    obtain ⟨y0, y1, y2, y3⟩ := X8.out.facts
    obtain ⟨r0, r1, r2, r3⟩ := HB.out.r.facts
    go_wp2_with (first
      | (go_at_call 48; (with_reducible refine (CW.out _).mono ?_); rintro E w1 ⟨rfl, hb⟩; have HB1 := Lib.hid (HB.out.on hb); have Y7 := Lib.hid (X7.out.on hb); have Y8 := Lib.hid (X8.out.on hb); obtain ⟨d0, d1, d2⟩ := cmd_cells HB1.out.c; obtain ⟨x0, x1, x2, x3⟩ := Y7.out.facts; obtain ⟨y0, y1, y2, y3⟩ := Y8.out.facts; obtain ⟨r0, r1, r2, r3⟩ := HB1.out.r.facts; clear hb))
    have P := HB1.out.r.put f2 z2
    obtain ⟨d0, d1, -, -⟩ := P.facts
    exact bodyPost_ret (cell_result rfl _ rfl d0 d1) rfl ⟨f2, z2, rfl, HF2.out, (HB1.out.below.setCell (p := ⟨w.heap.size + 1 + 1, 0, none⟩) (by simp only []; omega) _).setCell (p := ⟨w.heap.size + 1 + 1, 1, none⟩) (by simp only []; omega) _⟩
theorem vdo_end {w w2 w7 w' : World} {base : Nat} {F : Nat → Prop} {g mc ml : Nat} {f h : Key → Option Value} {C : Key → Cell2} {L : Key → List Wr} {M : Nat} {cnt : Int} {n : Nat} (hn : w.heap.size ≤ n) (hb : Below w.heap.size w w2) (V : VM w7 base (More F n w7.heap.size) g mc ml f h C L M cnt) (o : Only F w2 w7) (hbase : base ≤ w.heap.size) (c : Nat) (hc : c < n) (hcw : w.heap.size ≤ c) (hFn : ∀ j, F j → j < w.heap.size) (u v : Value) (hw' : w' = (w7.setCell ⟨c, 0, none⟩ u).setCell ⟨c, 1, none⟩ v) :
    VP w' base (More F w.heap.size w'.heap.size) g C L M cnt ∧ Only F w w' := by
  have hset : Below c w7 w' := by rw [hw']; exact ((Below.refl c w7).setCell (p := ⟨c, 0, none⟩) (Nat.le_refl _) u).setCell (p := ⟨c, 1, none⟩) (Nat.le_refl _) v
  have hfar : ∀ k, k ≠ c → w'.heap[k]? = w7.heap[k]? := fun k hk => by
    rw [hw']
    exact (Below.heap_setCell _ ⟨c, 1, none⟩ v k hk).trans (Below.heap_setCell _ ⟨c, 0, none⟩ u k hk)
  have V' : VM w' base (More F n w7.heap.size) g mc ml f h C L M cnt := V.same hset.size fun k hk => hfar k (by
    rcases hk with hk | hk
    · have := hFn k hk; omega
    · omega)
  have hs7 : w7.heap.size ≤ w'.heap.size := hset.size
  refine ⟨VP.more ⟨mc, ml, f, h, V'⟩ (fun k hk => ?_) (fun k hk => ?_), ?_⟩
  · rcases hk with hk | hk
    · exact .inl hk
    · exact .inr ⟨by omega, by omega⟩
  · rcases hk with hk | hk
    · have := V'.foot k (.inl hk); exact this
    · exact ⟨by omega, hk.2⟩
  · exact ((Only.of F hb).trans o (fun k hk => .inl hk)).trans (Only.young (hset.mono hcw)) (fun k hk => .inr hk)
set_option maxHeartbeats 16000000 in
set_option maxRecDepth 100000 in
theorem vdo_put {w : World} {base : Nat} {F : Nat → Prop} {g mc ml : Nat} {f h : Key → Option Value} {C : Key → Cell2} {L : Key → List Wr} {N : Nat} {cnt : Int} (V : VM w base F g mc ml f h C L N cnt) (hbase : base ≤ w.heap.size) (k : Int) (s : Key) (x : Nat) (a b p : Int) (hx : x < 18446744073709551616) (hs : s.length ≤ 1000) (hN : N ≤ 100000) (hL : (L s).length ≤ 100000) (cb : Bool) (cz : Nat) (hcz : cz < 18446744073709551616) (hcell : (f s).getD (.agg #[.bool false, .float .f64 0]) = .agg #[.bool cb, .float .f64 cz]) (hw : cWrites k s x = true) (hfd : (doC (cb, cz) k s x).1.1 = true) :
    Calls Try.prog 40 #[vptr g, .agg #[.int .i64 k, .string (str s), .float .f64 x], .agg #[.int .i64 a, .int .i64 b, .int .i64 p]] w fun E w' => ∃ f2 z2, E = .returned (.agg #[.bool f2, .float .f64 z2]) ∧ Fit f2 z2 (doC (cb, cz) k s x).2 ∧ (VP w' base (More F w.heap.size w'.heap.size) g (fun t => if t = s then (doC (cb, cz) k s x).1 else C t) (fun t => if t = s then L s ++ [((a, b), p)] else L t) (N + 1 + 1) cnt ∧ Only F w w') := by
  unfold vptr
  have HLK : Hid (∀ W, Below w.heap.size w W → (Instr.lookup 74 (.map (some mc)) (.string (str s)) false).run Try.prog W = .ok (.agg #[.bool cb, .float .f64 cz]) W) := Lib.hid fun W hb => by rw [((V.on hb).cm).look und_mc zero_cell (by omega), hcell]
  have HV := Lib.hid V
  have HS : Hid (∀ W, Bo w k s x a b p W → W.cell? ⟨g, 0, none⟩ = some (.map (some mc)) ∧ (Instr.lookup 74 (.map (some mc)) (.string (str s)) false).run Try.prog W = .ok (.agg #[.bool cb, .float .f64 cz]) W ∧ W.cell? ⟨w.heap.size, 0, none⟩ = some (.int .i64 k) ∧ W.cell? ⟨w.heap.size, 1, none⟩ = some (.string (str s)) ∧ W.cell? ⟨w.heap.size, 2, none⟩ = some (.float .f64 x)) := Lib.hid fun W hb => ⟨(V.on hb.below).cells.1, HLK.out W hb.below, cmd_cells hb.c⟩
  have CD : Hid (∀ W, Calls Try.prog 39 #[.agg #[.bool cb, .float .f64 cz], .agg #[.int .i64 k, .string (str s), .float .f64 x]] W (GivesDo (doC (cb, cz) k s x) W)) := Lib.hid fun W => ddo_any (cb, cz) k s x W hcz hx (by omega)
  have CW : Hid (∀ W, Calls Try.prog 48 #[.agg #[.int .i64 k, .string (str s), .float .f64 x]] W (RetBelow (.bool true) W)) := Lib.hid fun W => by have := writes_any k s x W hx; rwa [hw] at this
  have CC : Hid (∀ W, Calls Try.prog 49 #[.string (str s)] W (RetBelow (.string (str s)) W)) := Lib.hid fun W => clone_any s W (by omega)
  generalize doC (cb, cz) k s x = R at CD hfd ⊢
  have HFD := Lib.hid hfd
  clear hfd
  have B0 := Lib.hid (Bo.start w k s x a b p)
  have HN0 := Lib.hid (B0.out.on (Below.refl _ _).drew)
  have HBA := Lib.hid hbase
  have HLEN := Lib.hid hL
  have HKS := Lib.hid hs
  have HKL : Hid (s.length ≤ 140737488351232) := Lib.hid (by omega)
  have HNN := Lib.hid hN
  clear V hbase hx hcz hcell hL hw hs hN
  go_enter Try.func40, Try.ntmps40
  go_upto_region 1 with fail
  go_cut [7, 8] (fun p7 p8 wx => ∃ (q7 q8 : Nat) (f1 : Bool) (z1 : Nat) (f2 : Bool) (z2 : Nat), p7 = .pointer (some ⟨q7, 0, none⟩) ∧ p8 = .pointer (some ⟨q8, 0, none⟩) ∧ w.heap.size + 1 + 1 < q7 ∧ w.heap.size + 1 + 1 < q8 ∧ Hid (Bo w k s x a b p wx) ∧ Hid (Bx q7 f1 z1 wx) ∧ Hid (Bx q8 f2 z2 wx) ∧ Hid (Fit f1 z1 R.1) ∧ Hid (Fit f2 z2 R.2))
  case first =>
    refine wp_region_held_drew (S := (fun w' => w'.cell? ⟨g, 0, none⟩ = some (.map (some mc)) ∧ (Instr.lookup 74 (.map (some mc)) (.string (str s)) false).run Try.prog w' = .ok (.agg #[.bool cb, .float .f64 cz]) w' ∧ w'.cell? ⟨w.heap.size, 0, none⟩ = some (.int .i64 k) ∧ w'.cell? ⟨w.heap.size, 1, none⟩ = some (.string (str s)) ∧ w'.cell? ⟨w.heap.size, 2, none⟩ = some (.float .f64 x))) (by kernel_rfl) (HS.out _ HN0.out) (fun hHeld => ?_)
    clear HV CW CC
    generalize (((w.alloc (.cells #[.int .i64 k, .string (str s), .float .f64 x] 48)).alloc (.cells #[.int .i64 a, .int .i64 b, .int .i64 p] 63)).alloc (.cells #[.bool false, .float .f64 0] 30)).drew = W0 at HN0 hHeld ⊢
    refine wpAnyH_take (i := 0) (v := ?_) rfl (by kernel_rfl) (by kernel_rfl) (by kernel_rfl) (fun _ _ _ h => h) (Or.inl ⟨by rfl, fun w hSw => ?_⟩) (by assumption) ?_
    rotate_left
    · (try dsimp only at hSw); go_simp; (try with_reducible rfl)
    try simp only [List.getElem_toArray, List.getElem_cons_succ, List.getElem_cons_zero, Act.put, List.setIfInBounds_toArray, List.set_cons_zero, List.set_cons_succ]
    refine wpAnyH_take (i := 1) (v := ?_) rfl (by kernel_rfl) (by kernel_rfl) (by kernel_rfl) (fun _ _ _ h => h) (Or.inl ⟨by rfl, fun w hSw => ?_⟩) (by assumption) ?_
    rotate_left
    · (try dsimp only at hSw); go_simp; (try with_reducible rfl)
    try simp only [List.getElem_toArray, List.getElem_cons_succ, List.getElem_cons_zero, Act.put, List.setIfInBounds_toArray, List.set_cons_zero, List.set_cons_succ]
    refine wpAnyH_take (i := 2) (v := ?_) rfl (by kernel_rfl) (by kernel_rfl) (by kernel_rfl) (fun _ _ _ h => h) (Or.inl ⟨by rfl, fun w hSw => ?_⟩) (by assumption) ?_
    rotate_left
    · (try dsimp only at hSw); go_simp; (try with_reducible rfl)
    try simp only [List.getElem_toArray, List.getElem_cons_succ, List.getElem_cons_zero, Act.put, List.setIfInBounds_toArray, List.set_cons_zero, List.set_cons_succ]
    refine wpAnyH_take (i := 3) (v := ?_) rfl (by kernel_rfl) (by kernel_rfl) (by kernel_rfl) (fun _ _ _ h => h) (Or.inl ⟨by rfl, fun w hSw => ?_⟩) (by assumption) ?_
    rotate_left
    · (try dsimp only at hSw); go_simp; (try with_reducible rfl)
    try simp only [List.getElem_toArray, List.getElem_cons_succ, List.getElem_cons_zero, Act.put, List.setIfInBounds_toArray, List.set_cons_zero, List.set_cons_succ]
    refine wpAnyH_take (i := 4) (v := ?_) rfl (by kernel_rfl) (by kernel_rfl) (by kernel_rfl) (fun _ _ _ h => h) (Or.inl ⟨by rfl, fun w hSw => ?_⟩) (by assumption) ?_
    rotate_left
    · (try dsimp only at hSw); go_simp; (try with_reducible rfl)
    try simp only [List.getElem_toArray, List.getElem_cons_succ, List.getElem_cons_zero, Act.put, List.setIfInBounds_toArray, List.set_cons_zero, List.set_cons_succ]
    refine wpAnyH_take (i := 5) (v := ?_) rfl (by kernel_rfl) (by kernel_rfl) (by kernel_rfl) (fun _ _ _ h => h) (Or.inl ⟨by rfl, fun w hSw => ?_⟩) (by assumption) ?_
    rotate_left
    · (try dsimp only at hSw); go_simp; (try with_reducible rfl)
    try simp only [List.getElem_toArray, List.getElem_cons_succ, List.getElem_cons_zero, Act.put, List.setIfInBounds_toArray, List.set_cons_zero, List.set_cons_succ]
    refine wpAnyH_take (i := 6) (v := ?_) rfl (by kernel_rfl) (by kernel_rfl) (by kernel_rfl) (fun _ _ _ h => h) (Or.inl ⟨by rfl, fun w hSw => ?_⟩) (by assumption) ?_
    rotate_left
    · (try dsimp only at hSw); go_simp; (try with_reducible rfl)
    try simp only [List.getElem_toArray, List.getElem_cons_succ, List.getElem_cons_zero, Act.put, List.setIfInBounds_toArray, List.set_cons_zero, List.set_cons_succ]
    refine wpAnyH_take (i := 7) (v := ?_) rfl (by kernel_rfl) (by kernel_rfl) (by kernel_rfl) (fun _ _ _ h => h) (Or.inl ⟨by rfl, fun w hSw => ?_⟩) (by assumption) ?_
    rotate_left
    · (try dsimp only at hSw); go_simp; (try with_reducible rfl)
    try simp only [List.getElem_toArray, List.getElem_cons_succ, List.getElem_cons_zero, Act.put, List.setIfInBounds_toArray, List.set_cons_zero, List.set_cons_succ]
    refine wpAnyH_ready (rs := [8, 12, 13]) (by kernel_rfl) (by simp) ?_
    refine AllReadyH.cons rfl (fun K hK => ?_) ?_
    · go_simp
      (go_at_call 39; (with_reducible refine (CD.out _).mono ?_); rintro E W1 ⟨f1, z1, f2, z2, rfl, h1, h2, hb⟩; have HF1 := Lib.hid h1; have HF2 := Lib.hid h2; have HN1 := Lib.hid (HN0.out.on hb); clear h1 h2 hb)
      refine hK.out _ _ ?_ (fun hHeld => ?_)
      · exact HS.out _ HN1.out
      clear hK K
      try simp only [List.getElem_toArray, List.getElem_cons_succ, List.getElem_cons_zero, Act.put, List.setIfInBounds_toArray, List.set_cons_zero, List.set_cons_succ]
      refine wpAnyH_take (i := 9) (v := ?_) rfl (by kernel_rfl) (by kernel_rfl) (by kernel_rfl) (fun _ _ _ h => h) (Or.inl ⟨by rfl, fun w hSw => ?_⟩) (by assumption) ?_
      rotate_left
      · (try dsimp only at hSw); go_simp; (try with_reducible rfl)
      try simp only [List.getElem_toArray, List.getElem_cons_succ, List.getElem_cons_zero, Act.put, List.setIfInBounds_toArray, List.set_cons_zero, List.set_cons_succ]
      refine wpAnyH_take (i := 10) (v := ?_) rfl (by kernel_rfl) (by kernel_rfl) (by kernel_rfl) (fun _ _ _ h => h) (Or.inl ⟨by rfl, fun w hSw => ?_⟩) (by assumption) ?_
      rotate_left
      · (try dsimp only at hSw); go_simp; (try with_reducible rfl)
      try simp only [List.getElem_toArray, List.getElem_cons_succ, List.getElem_cons_zero, Act.put, List.setIfInBounds_toArray, List.set_cons_zero, List.set_cons_succ]
      refine wpAnyH_take (i := 11) (v := ?_) rfl (by kernel_rfl) (by kernel_rfl) (by kernel_rfl) (fun _ _ _ h => h) (Or.inl ⟨by rfl, fun w hSw => ?_⟩) (by assumption) ?_
      rotate_left
      · (try dsimp only at hSw); go_simp; (try with_reducible rfl)
      try simp only [List.getElem_toArray, List.getElem_cons_succ, List.getElem_cons_zero, Act.put, List.setIfInBounds_toArray, List.set_cons_zero, List.set_cons_succ]
      refine wpAnyH_ready (rs := [12, 13]) (by kernel_rfl) (by simp) ?_
      refine AllReadyH.cons rfl (fun K hK => ?_) ?_
      · go_simp
        have HN2 := Lib.hid (HN1.out.on (Cmd.below_one W1 (.cells #[.bool false, .float .f64 0] 30)))
        have B72 := Lib.hid (Bx.new W1 false 0)
        have hge7 : w.heap.size + 1 + 1 < W1.heap.size := HN1.out.lt
        refine hK.out _ _ ?_ (fun hHeld => ?_)
        · exact HS.out _ HN2.out
        clear hK K
        generalize W1.alloc (.cells #[.bool false, .float .f64 0] 30) = W2 at HN2 B72 hHeld ⊢
        try simp only [List.getElem_toArray, List.getElem_cons_succ, List.getElem_cons_zero, Act.put, List.setIfInBounds_toArray, List.set_cons_zero, List.set_cons_succ]
        refine wpAnyH_ready (rs := [13]) (by kernel_rfl) (by simp) ?_
        refine AllReadyH.cons rfl (fun K hK => ?_) ?_
        · go_simp
          have HN3 := Lib.hid (HN2.out.on (Cmd.below_one W2 (.cells #[.bool false, .float .f64 0] 30)))
          have B83 := Lib.hid (Bx.new W2 false 0)
          have hge8 : w.heap.size + 1 + 1 < W2.heap.size := HN2.out.lt
          have hne : W1.heap.size ≠ W2.heap.size := Nat.ne_of_lt B72.out.lt
          have B73 := Lib.hid (B72.out.alloc (.cells #[.bool false, .float .f64 0] 30))
          refine hK.out _ _ ?_ (fun hHeld => ?_)
          · exact HS.out _ HN3.out
          clear hK K
          generalize W2.alloc (.cells #[.bool false, .float .f64 0] 30) = W3 at HN3 B83 B73 hHeld ⊢
          try simp only [List.getElem_toArray, List.getElem_cons_succ, List.getElem_cons_zero, Act.put, List.setIfInBounds_toArray, List.set_cons_zero, List.set_cons_succ]
          refine wpAnyH_ready (rs := [14]) (by kernel_rfl) (by simp) ?_
          refine AllReadyH.cons rfl (fun K hK => ?_) ?_
          · obtain ⟨x0, x1, x2, x3⟩ := B73.out.facts
            go_simp
            have HN4 := Lib.hid (HN3.out.under (((Below.refl W1.heap.size W3).setCell (p := ⟨W1.heap.size, 0, none⟩) (Nat.le_refl _) (.bool f1)).setCell (p := ⟨W1.heap.size, 1, none⟩) (Nat.le_refl _) (.float .f64 z1)) hge7)
            have B74 := Lib.hid (B73.out.put f1 z1)
            have B84 := Lib.hid ((B83.out.far (c := W1.heap.size) (by omega) 0 (.bool f1)).far (c := W1.heap.size) (by omega) 1 (.float .f64 z1))
            refine hK.out _ _ ?_ (fun hHeld => ?_)
            · exact HS.out _ HN4.out
            clear hK K
            generalize ((W3.setCell ⟨W1.heap.size, 0, none⟩ (.bool f1)).setCell ⟨W1.heap.size, 1, none⟩ (.float .f64 z1)) = W4 at HN4 B74 B84 hHeld ⊢
            try simp only [List.getElem_toArray, List.getElem_cons_succ, List.getElem_cons_zero, Act.put, List.setIfInBounds_toArray, List.set_cons_zero, List.set_cons_succ]
            refine wpAnyH_ready (rs := [15]) (by kernel_rfl) (by simp) ?_
            refine AllReadyH.cons rfl (fun K hK => ?_) ?_
            · obtain ⟨x0, x1, x2, x3⟩ := B84.out.facts
              go_simp
              have HN5 := Lib.hid (HN4.out.under (((Below.refl W2.heap.size W4).setCell (p := ⟨W2.heap.size, 0, none⟩) (Nat.le_refl _) (.bool f2)).setCell (p := ⟨W2.heap.size, 1, none⟩) (Nat.le_refl _) (.float .f64 z2)) hge8)
              have B85 := Lib.hid (B84.out.put f2 z2)
              have B75 := Lib.hid ((B74.out.far (c := W2.heap.size) (by omega) 0 (.bool f2)).far (c := W2.heap.size) (by omega) 1 (.float .f64 z2))
              refine hK.out _ _ ?_ (fun hHeld => ?_)
              · exact HS.out _ HN5.out
              clear hK K
              generalize ((W4.setCell ⟨W2.heap.size, 0, none⟩ (.bool f2)).setCell ⟨W2.heap.size, 1, none⟩ (.float .f64 z2)) = W5 at HN5 B85 B75 hHeld ⊢
              try simp only [List.getElem_toArray, List.getElem_cons_succ, List.getElem_cons_zero, Act.put, List.setIfInBounds_toArray, List.set_cons_zero, List.set_cons_succ]
              refine wpAnyH_done (by kernel_rfl) ?_ _
              go_wp2_with fail
              go_meet
              case rel => exact ⟨_, _, f1, z1, f2, z2, rfl, rfl, hge7, hge8, HN5, B75, B85, HF1, HF2⟩
            exact AllReadyH.nil
          exact AllReadyH.nil
        exact AllReadyH.nil
      refine AllReadyH.cons rfl (fun K hK => ?_) ?_
      · go_simp
        have HN2 := Lib.hid (HN1.out.on (Cmd.below_one W1 (.cells #[.bool false, .float .f64 0] 30)))
        have B82 := Lib.hid (Bx.new W1 false 0)
        have hge8 : w.heap.size + 1 + 1 < W1.heap.size := HN1.out.lt
        refine hK.out _ _ ?_ (fun hHeld => ?_)
        · exact HS.out _ HN2.out
        clear hK K
        generalize W1.alloc (.cells #[.bool false, .float .f64 0] 30) = W2 at HN2 B82 hHeld ⊢
        try simp only [List.getElem_toArray, List.getElem_cons_succ, List.getElem_cons_zero, Act.put, List.setIfInBounds_toArray, List.set_cons_zero, List.set_cons_succ]
        refine wpAnyH_ready (rs := [12]) (by kernel_rfl) (by simp) ?_
        refine AllReadyH.cons rfl (fun K hK => ?_) ?_
        · go_simp
          have HN3 := Lib.hid (HN2.out.on (Cmd.below_one W2 (.cells #[.bool false, .float .f64 0] 30)))
          have B73 := Lib.hid (Bx.new W2 false 0)
          have hge7 : w.heap.size + 1 + 1 < W2.heap.size := HN2.out.lt
          have hne : W1.heap.size ≠ W2.heap.size := Nat.ne_of_lt B82.out.lt
          have B83 := Lib.hid (B82.out.alloc (.cells #[.bool false, .float .f64 0] 30))
          refine hK.out _ _ ?_ (fun hHeld => ?_)
          · exact HS.out _ HN3.out
          clear hK K
          generalize W2.alloc (.cells #[.bool false, .float .f64 0] 30) = W3 at HN3 B73 B83 hHeld ⊢
          try simp only [List.getElem_toArray, List.getElem_cons_succ, List.getElem_cons_zero, Act.put, List.setIfInBounds_toArray, List.set_cons_zero, List.set_cons_succ]
          refine wpAnyH_ready (rs := [14]) (by kernel_rfl) (by simp) ?_
          refine AllReadyH.cons rfl (fun K hK => ?_) ?_
          · obtain ⟨x0, x1, x2, x3⟩ := B73.out.facts
            go_simp
            have HN4 := Lib.hid (HN3.out.under (((Below.refl W2.heap.size W3).setCell (p := ⟨W2.heap.size, 0, none⟩) (Nat.le_refl _) (.bool f1)).setCell (p := ⟨W2.heap.size, 1, none⟩) (Nat.le_refl _) (.float .f64 z1)) hge7)
            have B74 := Lib.hid (B73.out.put f1 z1)
            have B84 := Lib.hid ((B83.out.far (c := W2.heap.size) (by omega) 0 (.bool f1)).far (c := W2.heap.size) (by omega) 1 (.float .f64 z1))
            refine hK.out _ _ ?_ (fun hHeld => ?_)
            · exact HS.out _ HN4.out
            clear hK K
            generalize ((W3.setCell ⟨W2.heap.size, 0, none⟩ (.bool f1)).setCell ⟨W2.heap.size, 1, none⟩ (.float .f64 z1)) = W4 at HN4 B74 B84 hHeld ⊢
            try simp only [List.getElem_toArray, List.getElem_cons_succ, List.getElem_cons_zero, Act.put, List.setIfInBounds_toArray, List.set_cons_zero, List.set_cons_succ]
            refine wpAnyH_ready (rs := [15]) (by kernel_rfl) (by simp) ?_
            refine AllReadyH.cons rfl (fun K hK => ?_) ?_
            · obtain ⟨x0, x1, x2, x3⟩ := B84.out.facts
              go_simp
              have HN5 := Lib.hid (HN4.out.under (((Below.refl W1.heap.size W4).setCell (p := ⟨W1.heap.size, 0, none⟩) (Nat.le_refl _) (.bool f2)).setCell (p := ⟨W1.heap.size, 1, none⟩) (Nat.le_refl _) (.float .f64 z2)) hge8)
              have B85 := Lib.hid (B84.out.put f2 z2)
              have B75 := Lib.hid ((B74.out.far (c := W1.heap.size) (by omega) 0 (.bool f2)).far (c := W1.heap.size) (by omega) 1 (.float .f64 z2))
              refine hK.out _ _ ?_ (fun hHeld => ?_)
              · exact HS.out _ HN5.out
              clear hK K
              generalize ((W4.setCell ⟨W1.heap.size, 0, none⟩ (.bool f2)).setCell ⟨W1.heap.size, 1, none⟩ (.float .f64 z2)) = W5 at HN5 B85 B75 hHeld ⊢
              try simp only [List.getElem_toArray, List.getElem_cons_succ, List.getElem_cons_zero, Act.put, List.setIfInBounds_toArray, List.set_cons_zero, List.set_cons_succ]
              refine wpAnyH_done (by kernel_rfl) ?_ _
              go_wp2_with fail
              go_meet
              case rel => exact ⟨_, _, f1, z1, f2, z2, rfl, rfl, hge7, hge8, HN5, B75, B85, HF1, HF2⟩
            exact AllReadyH.nil
          exact AllReadyH.nil
        exact AllReadyH.nil
      exact AllReadyH.nil
    refine AllReadyH.cons rfl (fun K hK => ?_) ?_
    · go_simp
      have HN1 := Lib.hid (HN0.out.on (Cmd.below_one W0 (.cells #[.bool false, .float .f64 0] 30)))
      have B71 := Lib.hid (Bx.new W0 false 0)
      have hge7 : w.heap.size + 1 + 1 < W0.heap.size := HN0.out.lt
      refine hK.out _ _ ?_ (fun hHeld => ?_)
      · exact HS.out _ HN1.out
      clear hK K
      generalize W0.alloc (.cells #[.bool false, .float .f64 0] 30) = W1 at HN1 B71 hHeld ⊢
      try simp only [List.getElem_toArray, List.getElem_cons_succ, List.getElem_cons_zero, Act.put, List.setIfInBounds_toArray, List.set_cons_zero, List.set_cons_succ]
      refine wpAnyH_ready (rs := [8, 13]) (by kernel_rfl) (by simp) ?_
      refine AllReadyH.cons rfl (fun K hK => ?_) ?_
      · go_simp
        (go_at_call 39; (with_reducible refine (CD.out _).mono ?_); rintro E W2 ⟨f1, z1, f2, z2, rfl, h1, h2, hb⟩; have HF1 := Lib.hid h1; have HF2 := Lib.hid h2; have HN2 := Lib.hid (HN1.out.on hb); have B72 := Lib.hid (B71.out.on hb); clear h1 h2 hb)
        refine hK.out _ _ ?_ (fun hHeld => ?_)
        · exact HS.out _ HN2.out
        clear hK K
        try simp only [List.getElem_toArray, List.getElem_cons_succ, List.getElem_cons_zero, Act.put, List.setIfInBounds_toArray, List.set_cons_zero, List.set_cons_succ]
        refine wpAnyH_take (i := 9) (v := ?_) rfl (by kernel_rfl) (by kernel_rfl) (by kernel_rfl) (fun _ _ _ h => h) (Or.inl ⟨by rfl, fun w hSw => ?_⟩) (by assumption) ?_
        rotate_left
        · (try dsimp only at hSw); go_simp; (try with_reducible rfl)
        try simp only [List.getElem_toArray, List.getElem_cons_succ, List.getElem_cons_zero, Act.put, List.setIfInBounds_toArray, List.set_cons_zero, List.set_cons_succ]
        refine wpAnyH_take (i := 10) (v := ?_) rfl (by kernel_rfl) (by kernel_rfl) (by kernel_rfl) (fun _ _ _ h => h) (Or.inl ⟨by rfl, fun w hSw => ?_⟩) (by assumption) ?_
        rotate_left
        · (try dsimp only at hSw); go_simp; (try with_reducible rfl)
        try simp only [List.getElem_toArray, List.getElem_cons_succ, List.getElem_cons_zero, Act.put, List.setIfInBounds_toArray, List.set_cons_zero, List.set_cons_succ]
        refine wpAnyH_take (i := 11) (v := ?_) rfl (by kernel_rfl) (by kernel_rfl) (by kernel_rfl) (fun _ _ _ h => h) (Or.inl ⟨by rfl, fun w hSw => ?_⟩) (by assumption) ?_
        rotate_left
        · (try dsimp only at hSw); go_simp; (try with_reducible rfl)
        try simp only [List.getElem_toArray, List.getElem_cons_succ, List.getElem_cons_zero, Act.put, List.setIfInBounds_toArray, List.set_cons_zero, List.set_cons_succ]
        refine wpAnyH_ready (rs := [13]) (by kernel_rfl) (by simp) ?_
        refine AllReadyH.cons rfl (fun K hK => ?_) ?_
        · go_simp
          have HN3 := Lib.hid (HN2.out.on (Cmd.below_one W2 (.cells #[.bool false, .float .f64 0] 30)))
          have B83 := Lib.hid (Bx.new W2 false 0)
          have hge8 : w.heap.size + 1 + 1 < W2.heap.size := HN2.out.lt
          have hne : W0.heap.size ≠ W2.heap.size := Nat.ne_of_lt B72.out.lt
          have B73 := Lib.hid (B72.out.alloc (.cells #[.bool false, .float .f64 0] 30))
          refine hK.out _ _ ?_ (fun hHeld => ?_)
          · exact HS.out _ HN3.out
          clear hK K
          generalize W2.alloc (.cells #[.bool false, .float .f64 0] 30) = W3 at HN3 B83 B73 hHeld ⊢
          try simp only [List.getElem_toArray, List.getElem_cons_succ, List.getElem_cons_zero, Act.put, List.setIfInBounds_toArray, List.set_cons_zero, List.set_cons_succ]
          refine wpAnyH_ready (rs := [14]) (by kernel_rfl) (by simp) ?_
          refine AllReadyH.cons rfl (fun K hK => ?_) ?_
          · obtain ⟨x0, x1, x2, x3⟩ := B73.out.facts
            go_simp
            have HN4 := Lib.hid (HN3.out.under (((Below.refl W0.heap.size W3).setCell (p := ⟨W0.heap.size, 0, none⟩) (Nat.le_refl _) (.bool f1)).setCell (p := ⟨W0.heap.size, 1, none⟩) (Nat.le_refl _) (.float .f64 z1)) hge7)
            have B74 := Lib.hid (B73.out.put f1 z1)
            have B84 := Lib.hid ((B83.out.far (c := W0.heap.size) (by omega) 0 (.bool f1)).far (c := W0.heap.size) (by omega) 1 (.float .f64 z1))
            refine hK.out _ _ ?_ (fun hHeld => ?_)
            · exact HS.out _ HN4.out
            clear hK K
            generalize ((W3.setCell ⟨W0.heap.size, 0, none⟩ (.bool f1)).setCell ⟨W0.heap.size, 1, none⟩ (.float .f64 z1)) = W4 at HN4 B74 B84 hHeld ⊢
            try simp only [List.getElem_toArray, List.getElem_cons_succ, List.getElem_cons_zero, Act.put, List.setIfInBounds_toArray, List.set_cons_zero, List.set_cons_succ]
            refine wpAnyH_ready (rs := [15]) (by kernel_rfl) (by simp) ?_
            refine AllReadyH.cons rfl (fun K hK => ?_) ?_
            · obtain ⟨x0, x1, x2, x3⟩ := B84.out.facts
              go_simp
              have HN5 := Lib.hid (HN4.out.under (((Below.refl W2.heap.size W4).setCell (p := ⟨W2.heap.size, 0, none⟩) (Nat.le_refl _) (.bool f2)).setCell (p := ⟨W2.heap.size, 1, none⟩) (Nat.le_refl _) (.float .f64 z2)) hge8)
              have B85 := Lib.hid (B84.out.put f2 z2)
              have B75 := Lib.hid ((B74.out.far (c := W2.heap.size) (by omega) 0 (.bool f2)).far (c := W2.heap.size) (by omega) 1 (.float .f64 z2))
              refine hK.out _ _ ?_ (fun hHeld => ?_)
              · exact HS.out _ HN5.out
              clear hK K
              generalize ((W4.setCell ⟨W2.heap.size, 0, none⟩ (.bool f2)).setCell ⟨W2.heap.size, 1, none⟩ (.float .f64 z2)) = W5 at HN5 B85 B75 hHeld ⊢
              try simp only [List.getElem_toArray, List.getElem_cons_succ, List.getElem_cons_zero, Act.put, List.setIfInBounds_toArray, List.set_cons_zero, List.set_cons_succ]
              refine wpAnyH_done (by kernel_rfl) ?_ _
              go_wp2_with fail
              go_meet
              case rel => exact ⟨_, _, f1, z1, f2, z2, rfl, rfl, hge7, hge8, HN5, B75, B85, HF1, HF2⟩
            exact AllReadyH.nil
          exact AllReadyH.nil
        exact AllReadyH.nil
      refine AllReadyH.cons rfl (fun K hK => ?_) ?_
      · go_simp
        have HN2 := Lib.hid (HN1.out.on (Cmd.below_one W1 (.cells #[.bool false, .float .f64 0] 30)))
        have B82 := Lib.hid (Bx.new W1 false 0)
        have hge8 : w.heap.size + 1 + 1 < W1.heap.size := HN1.out.lt
        have hne : W0.heap.size ≠ W1.heap.size := Nat.ne_of_lt B71.out.lt
        have B72 := Lib.hid (B71.out.alloc (.cells #[.bool false, .float .f64 0] 30))
        refine hK.out _ _ ?_ (fun hHeld => ?_)
        · exact HS.out _ HN2.out
        clear hK K
        generalize W1.alloc (.cells #[.bool false, .float .f64 0] 30) = W2 at HN2 B82 B72 hHeld ⊢
        try simp only [List.getElem_toArray, List.getElem_cons_succ, List.getElem_cons_zero, Act.put, List.setIfInBounds_toArray, List.set_cons_zero, List.set_cons_succ]
        refine wpAnyH_ready (rs := [8]) (by kernel_rfl) (by simp) ?_
        refine AllReadyH.cons rfl (fun K hK => ?_) ?_
        · go_simp
          (go_at_call 39; (with_reducible refine (CD.out _).mono ?_); rintro E W3 ⟨f1, z1, f2, z2, rfl, h1, h2, hb⟩; have HF1 := Lib.hid h1; have HF2 := Lib.hid h2; have HN3 := Lib.hid (HN2.out.on hb); have B73 := Lib.hid (B72.out.on hb); have B83 := Lib.hid (B82.out.on hb); clear h1 h2 hb)
          refine hK.out _ _ ?_ (fun hHeld => ?_)
          · exact HS.out _ HN3.out
          clear hK K
          try simp only [List.getElem_toArray, List.getElem_cons_succ, List.getElem_cons_zero, Act.put, List.setIfInBounds_toArray, List.set_cons_zero, List.set_cons_succ]
          refine wpAnyH_take (i := 9) (v := ?_) rfl (by kernel_rfl) (by kernel_rfl) (by kernel_rfl) (fun _ _ _ h => h) (Or.inl ⟨by rfl, fun w hSw => ?_⟩) (by assumption) ?_
          rotate_left
          · (try dsimp only at hSw); go_simp; (try with_reducible rfl)
          try simp only [List.getElem_toArray, List.getElem_cons_succ, List.getElem_cons_zero, Act.put, List.setIfInBounds_toArray, List.set_cons_zero, List.set_cons_succ]
          refine wpAnyH_take (i := 10) (v := ?_) rfl (by kernel_rfl) (by kernel_rfl) (by kernel_rfl) (fun _ _ _ h => h) (Or.inl ⟨by rfl, fun w hSw => ?_⟩) (by assumption) ?_
          rotate_left
          · (try dsimp only at hSw); go_simp; (try with_reducible rfl)
          try simp only [List.getElem_toArray, List.getElem_cons_succ, List.getElem_cons_zero, Act.put, List.setIfInBounds_toArray, List.set_cons_zero, List.set_cons_succ]
          refine wpAnyH_take (i := 11) (v := ?_) rfl (by kernel_rfl) (by kernel_rfl) (by kernel_rfl) (fun _ _ _ h => h) (Or.inl ⟨by rfl, fun w hSw => ?_⟩) (by assumption) ?_
          rotate_left
          · (try dsimp only at hSw); go_simp; (try with_reducible rfl)
          try simp only [List.getElem_toArray, List.getElem_cons_succ, List.getElem_cons_zero, Act.put, List.setIfInBounds_toArray, List.set_cons_zero, List.set_cons_succ]
          refine wpAnyH_ready (rs := [14]) (by kernel_rfl) (by simp) ?_
          refine AllReadyH.cons rfl (fun K hK => ?_) ?_
          · obtain ⟨x0, x1, x2, x3⟩ := B73.out.facts
            go_simp
            have HN4 := Lib.hid (HN3.out.under (((Below.refl W0.heap.size W3).setCell (p := ⟨W0.heap.size, 0, none⟩) (Nat.le_refl _) (.bool f1)).setCell (p := ⟨W0.heap.size, 1, none⟩) (Nat.le_refl _) (.float .f64 z1)) hge7)
            have B74 := Lib.hid (B73.out.put f1 z1)
            have B84 := Lib.hid ((B83.out.far (c := W0.heap.size) (by omega) 0 (.bool f1)).far (c := W0.heap.size) (by omega) 1 (.float .f64 z1))
            refine hK.out _ _ ?_ (fun hHeld => ?_)
            · exact HS.out _ HN4.out
            clear hK K
            generalize ((W3.setCell ⟨W0.heap.size, 0, none⟩ (.bool f1)).setCell ⟨W0.heap.size, 1, none⟩ (.float .f64 z1)) = W4 at HN4 B74 B84 hHeld ⊢
            try simp only [List.getElem_toArray, List.getElem_cons_succ, List.getElem_cons_zero, Act.put, List.setIfInBounds_toArray, List.set_cons_zero, List.set_cons_succ]
            refine wpAnyH_ready (rs := [15]) (by kernel_rfl) (by simp) ?_
            refine AllReadyH.cons rfl (fun K hK => ?_) ?_
            · obtain ⟨x0, x1, x2, x3⟩ := B84.out.facts
              go_simp
              have HN5 := Lib.hid (HN4.out.under (((Below.refl W1.heap.size W4).setCell (p := ⟨W1.heap.size, 0, none⟩) (Nat.le_refl _) (.bool f2)).setCell (p := ⟨W1.heap.size, 1, none⟩) (Nat.le_refl _) (.float .f64 z2)) hge8)
              have B85 := Lib.hid (B84.out.put f2 z2)
              have B75 := Lib.hid ((B74.out.far (c := W1.heap.size) (by omega) 0 (.bool f2)).far (c := W1.heap.size) (by omega) 1 (.float .f64 z2))
              refine hK.out _ _ ?_ (fun hHeld => ?_)
              · exact HS.out _ HN5.out
              clear hK K
              generalize ((W4.setCell ⟨W1.heap.size, 0, none⟩ (.bool f2)).setCell ⟨W1.heap.size, 1, none⟩ (.float .f64 z2)) = W5 at HN5 B85 B75 hHeld ⊢
              try simp only [List.getElem_toArray, List.getElem_cons_succ, List.getElem_cons_zero, Act.put, List.setIfInBounds_toArray, List.set_cons_zero, List.set_cons_succ]
              refine wpAnyH_done (by kernel_rfl) ?_ _
              go_wp2_with fail
              go_meet
              case rel => exact ⟨_, _, f1, z1, f2, z2, rfl, rfl, hge7, hge8, HN5, B75, B85, HF1, HF2⟩
            exact AllReadyH.nil
          exact AllReadyH.nil
        exact AllReadyH.nil
      exact AllReadyH.nil
    refine AllReadyH.cons rfl (fun K hK => ?_) ?_
    · go_simp
      have HN1 := Lib.hid (HN0.out.on (Cmd.below_one W0 (.cells #[.bool false, .float .f64 0] 30)))
      have B81 := Lib.hid (Bx.new W0 false 0)
      have hge8 : w.heap.size + 1 + 1 < W0.heap.size := HN0.out.lt
      refine hK.out _ _ ?_ (fun hHeld => ?_)
      · exact HS.out _ HN1.out
      clear hK K
      generalize W0.alloc (.cells #[.bool false, .float .f64 0] 30) = W1 at HN1 B81 hHeld ⊢
      try simp only [List.getElem_toArray, List.getElem_cons_succ, List.getElem_cons_zero, Act.put, List.setIfInBounds_toArray, List.set_cons_zero, List.set_cons_succ]
      refine wpAnyH_ready (rs := [8, 12]) (by kernel_rfl) (by simp) ?_
      refine AllReadyH.cons rfl (fun K hK => ?_) ?_
      · go_simp
        (go_at_call 39; (with_reducible refine (CD.out _).mono ?_); rintro E W2 ⟨f1, z1, f2, z2, rfl, h1, h2, hb⟩; have HF1 := Lib.hid h1; have HF2 := Lib.hid h2; have HN2 := Lib.hid (HN1.out.on hb); have B82 := Lib.hid (B81.out.on hb); clear h1 h2 hb)
        refine hK.out _ _ ?_ (fun hHeld => ?_)
        · exact HS.out _ HN2.out
        clear hK K
        try simp only [List.getElem_toArray, List.getElem_cons_succ, List.getElem_cons_zero, Act.put, List.setIfInBounds_toArray, List.set_cons_zero, List.set_cons_succ]
        refine wpAnyH_take (i := 9) (v := ?_) rfl (by kernel_rfl) (by kernel_rfl) (by kernel_rfl) (fun _ _ _ h => h) (Or.inl ⟨by rfl, fun w hSw => ?_⟩) (by assumption) ?_
        rotate_left
        · (try dsimp only at hSw); go_simp; (try with_reducible rfl)
        try simp only [List.getElem_toArray, List.getElem_cons_succ, List.getElem_cons_zero, Act.put, List.setIfInBounds_toArray, List.set_cons_zero, List.set_cons_succ]
        refine wpAnyH_take (i := 10) (v := ?_) rfl (by kernel_rfl) (by kernel_rfl) (by kernel_rfl) (fun _ _ _ h => h) (Or.inl ⟨by rfl, fun w hSw => ?_⟩) (by assumption) ?_
        rotate_left
        · (try dsimp only at hSw); go_simp; (try with_reducible rfl)
        try simp only [List.getElem_toArray, List.getElem_cons_succ, List.getElem_cons_zero, Act.put, List.setIfInBounds_toArray, List.set_cons_zero, List.set_cons_succ]
        refine wpAnyH_take (i := 11) (v := ?_) rfl (by kernel_rfl) (by kernel_rfl) (by kernel_rfl) (fun _ _ _ h => h) (Or.inl ⟨by rfl, fun w hSw => ?_⟩) (by assumption) ?_
        rotate_left
        · (try dsimp only at hSw); go_simp; (try with_reducible rfl)
        try simp only [List.getElem_toArray, List.getElem_cons_succ, List.getElem_cons_zero, Act.put, List.setIfInBounds_toArray, List.set_cons_zero, List.set_cons_succ]
        refine wpAnyH_ready (rs := [12]) (by kernel_rfl) (by simp) ?_
        refine AllReadyH.cons rfl (fun K hK => ?_) ?_
        · go_simp
          have HN3 := Lib.hid (HN2.out.on (Cmd.below_one W2 (.cells #[.bool false, .float .f64 0] 30)))
          have B73 := Lib.hid (Bx.new W2 false 0)
          have hge7 : w.heap.size + 1 + 1 < W2.heap.size := HN2.out.lt
          have hne : W0.heap.size ≠ W2.heap.size := Nat.ne_of_lt B82.out.lt
          have B83 := Lib.hid (B82.out.alloc (.cells #[.bool false, .float .f64 0] 30))
          refine hK.out _ _ ?_ (fun hHeld => ?_)
          · exact HS.out _ HN3.out
          clear hK K
          generalize W2.alloc (.cells #[.bool false, .float .f64 0] 30) = W3 at HN3 B73 B83 hHeld ⊢
          try simp only [List.getElem_toArray, List.getElem_cons_succ, List.getElem_cons_zero, Act.put, List.setIfInBounds_toArray, List.set_cons_zero, List.set_cons_succ]
          refine wpAnyH_ready (rs := [14]) (by kernel_rfl) (by simp) ?_
          refine AllReadyH.cons rfl (fun K hK => ?_) ?_
          · obtain ⟨x0, x1, x2, x3⟩ := B73.out.facts
            go_simp
            have HN4 := Lib.hid (HN3.out.under (((Below.refl W2.heap.size W3).setCell (p := ⟨W2.heap.size, 0, none⟩) (Nat.le_refl _) (.bool f1)).setCell (p := ⟨W2.heap.size, 1, none⟩) (Nat.le_refl _) (.float .f64 z1)) hge7)
            have B74 := Lib.hid (B73.out.put f1 z1)
            have B84 := Lib.hid ((B83.out.far (c := W2.heap.size) (by omega) 0 (.bool f1)).far (c := W2.heap.size) (by omega) 1 (.float .f64 z1))
            refine hK.out _ _ ?_ (fun hHeld => ?_)
            · exact HS.out _ HN4.out
            clear hK K
            generalize ((W3.setCell ⟨W2.heap.size, 0, none⟩ (.bool f1)).setCell ⟨W2.heap.size, 1, none⟩ (.float .f64 z1)) = W4 at HN4 B74 B84 hHeld ⊢
            try simp only [List.getElem_toArray, List.getElem_cons_succ, List.getElem_cons_zero, Act.put, List.setIfInBounds_toArray, List.set_cons_zero, List.set_cons_succ]
            refine wpAnyH_ready (rs := [15]) (by kernel_rfl) (by simp) ?_
            refine AllReadyH.cons rfl (fun K hK => ?_) ?_
            · obtain ⟨x0, x1, x2, x3⟩ := B84.out.facts
              go_simp
              have HN5 := Lib.hid (HN4.out.under (((Below.refl W0.heap.size W4).setCell (p := ⟨W0.heap.size, 0, none⟩) (Nat.le_refl _) (.bool f2)).setCell (p := ⟨W0.heap.size, 1, none⟩) (Nat.le_refl _) (.float .f64 z2)) hge8)
              have B85 := Lib.hid (B84.out.put f2 z2)
              have B75 := Lib.hid ((B74.out.far (c := W0.heap.size) (by omega) 0 (.bool f2)).far (c := W0.heap.size) (by omega) 1 (.float .f64 z2))
              refine hK.out _ _ ?_ (fun hHeld => ?_)
              · exact HS.out _ HN5.out
              clear hK K
              generalize ((W4.setCell ⟨W0.heap.size, 0, none⟩ (.bool f2)).setCell ⟨W0.heap.size, 1, none⟩ (.float .f64 z2)) = W5 at HN5 B85 B75 hHeld ⊢
              try simp only [List.getElem_toArray, List.getElem_cons_succ, List.getElem_cons_zero, Act.put, List.setIfInBounds_toArray, List.set_cons_zero, List.set_cons_succ]
              refine wpAnyH_done (by kernel_rfl) ?_ _
              go_wp2_with fail
              go_meet
              case rel => exact ⟨_, _, f1, z1, f2, z2, rfl, rfl, hge7, hge8, HN5, B75, B85, HF1, HF2⟩
            exact AllReadyH.nil
          exact AllReadyH.nil
        exact AllReadyH.nil
      refine AllReadyH.cons rfl (fun K hK => ?_) ?_
      · go_simp
        have HN2 := Lib.hid (HN1.out.on (Cmd.below_one W1 (.cells #[.bool false, .float .f64 0] 30)))
        have B72 := Lib.hid (Bx.new W1 false 0)
        have hge7 : w.heap.size + 1 + 1 < W1.heap.size := HN1.out.lt
        have hne : W0.heap.size ≠ W1.heap.size := Nat.ne_of_lt B81.out.lt
        have B82 := Lib.hid (B81.out.alloc (.cells #[.bool false, .float .f64 0] 30))
        refine hK.out _ _ ?_ (fun hHeld => ?_)
        · exact HS.out _ HN2.out
        clear hK K
        generalize W1.alloc (.cells #[.bool false, .float .f64 0] 30) = W2 at HN2 B72 B82 hHeld ⊢
        try simp only [List.getElem_toArray, List.getElem_cons_succ, List.getElem_cons_zero, Act.put, List.setIfInBounds_toArray, List.set_cons_zero, List.set_cons_succ]
        refine wpAnyH_ready (rs := [8]) (by kernel_rfl) (by simp) ?_
        refine AllReadyH.cons rfl (fun K hK => ?_) ?_
        · go_simp
          (go_at_call 39; (with_reducible refine (CD.out _).mono ?_); rintro E W3 ⟨f1, z1, f2, z2, rfl, h1, h2, hb⟩; have HF1 := Lib.hid h1; have HF2 := Lib.hid h2; have HN3 := Lib.hid (HN2.out.on hb); have B73 := Lib.hid (B72.out.on hb); have B83 := Lib.hid (B82.out.on hb); clear h1 h2 hb)
          refine hK.out _ _ ?_ (fun hHeld => ?_)
          · exact HS.out _ HN3.out
          clear hK K
          try simp only [List.getElem_toArray, List.getElem_cons_succ, List.getElem_cons_zero, Act.put, List.setIfInBounds_toArray, List.set_cons_zero, List.set_cons_succ]
          refine wpAnyH_take (i := 9) (v := ?_) rfl (by kernel_rfl) (by kernel_rfl) (by kernel_rfl) (fun _ _ _ h => h) (Or.inl ⟨by rfl, fun w hSw => ?_⟩) (by assumption) ?_
          rotate_left
          · (try dsimp only at hSw); go_simp; (try with_reducible rfl)
          try simp only [List.getElem_toArray, List.getElem_cons_succ, List.getElem_cons_zero, Act.put, List.setIfInBounds_toArray, List.set_cons_zero, List.set_cons_succ]
          refine wpAnyH_take (i := 10) (v := ?_) rfl (by kernel_rfl) (by kernel_rfl) (by kernel_rfl) (fun _ _ _ h => h) (Or.inl ⟨by rfl, fun w hSw => ?_⟩) (by assumption) ?_
          rotate_left
          · (try dsimp only at hSw); go_simp; (try with_reducible rfl)
          try simp only [List.getElem_toArray, List.getElem_cons_succ, List.getElem_cons_zero, Act.put, List.setIfInBounds_toArray, List.set_cons_zero, List.set_cons_succ]
          refine wpAnyH_take (i := 11) (v := ?_) rfl (by kernel_rfl) (by kernel_rfl) (by kernel_rfl) (fun _ _ _ h => h) (Or.inl ⟨by rfl, fun w hSw => ?_⟩) (by assumption) ?_
          rotate_left
          · (try dsimp only at hSw); go_simp; (try with_reducible rfl)
          try simp only [List.getElem_toArray, List.getElem_cons_succ, List.getElem_cons_zero, Act.put, List.setIfInBounds_toArray, List.set_cons_zero, List.set_cons_succ]
          refine wpAnyH_ready (rs := [14]) (by kernel_rfl) (by simp) ?_
          refine AllReadyH.cons rfl (fun K hK => ?_) ?_
          · obtain ⟨x0, x1, x2, x3⟩ := B73.out.facts
            go_simp
            have HN4 := Lib.hid (HN3.out.under (((Below.refl W1.heap.size W3).setCell (p := ⟨W1.heap.size, 0, none⟩) (Nat.le_refl _) (.bool f1)).setCell (p := ⟨W1.heap.size, 1, none⟩) (Nat.le_refl _) (.float .f64 z1)) hge7)
            have B74 := Lib.hid (B73.out.put f1 z1)
            have B84 := Lib.hid ((B83.out.far (c := W1.heap.size) (by omega) 0 (.bool f1)).far (c := W1.heap.size) (by omega) 1 (.float .f64 z1))
            refine hK.out _ _ ?_ (fun hHeld => ?_)
            · exact HS.out _ HN4.out
            clear hK K
            generalize ((W3.setCell ⟨W1.heap.size, 0, none⟩ (.bool f1)).setCell ⟨W1.heap.size, 1, none⟩ (.float .f64 z1)) = W4 at HN4 B74 B84 hHeld ⊢
            try simp only [List.getElem_toArray, List.getElem_cons_succ, List.getElem_cons_zero, Act.put, List.setIfInBounds_toArray, List.set_cons_zero, List.set_cons_succ]
            refine wpAnyH_ready (rs := [15]) (by kernel_rfl) (by simp) ?_
            refine AllReadyH.cons rfl (fun K hK => ?_) ?_
            · obtain ⟨x0, x1, x2, x3⟩ := B84.out.facts
              go_simp
              have HN5 := Lib.hid (HN4.out.under (((Below.refl W0.heap.size W4).setCell (p := ⟨W0.heap.size, 0, none⟩) (Nat.le_refl _) (.bool f2)).setCell (p := ⟨W0.heap.size, 1, none⟩) (Nat.le_refl _) (.float .f64 z2)) hge8)
              have B85 := Lib.hid (B84.out.put f2 z2)
              have B75 := Lib.hid ((B74.out.far (c := W0.heap.size) (by omega) 0 (.bool f2)).far (c := W0.heap.size) (by omega) 1 (.float .f64 z2))
              refine hK.out _ _ ?_ (fun hHeld => ?_)
              · exact HS.out _ HN5.out
              clear hK K
              generalize ((W4.setCell ⟨W0.heap.size, 0, none⟩ (.bool f2)).setCell ⟨W0.heap.size, 1, none⟩ (.float .f64 z2)) = W5 at HN5 B85 B75 hHeld ⊢
              try simp only [List.getElem_toArray, List.getElem_cons_succ, List.getElem_cons_zero, Act.put, List.setIfInBounds_toArray, List.set_cons_zero, List.set_cons_succ]
              refine wpAnyH_done (by kernel_rfl) ?_ _
              go_wp2_with fail
              go_meet
              case rel => exact ⟨_, _, f1, z1, f2, z2, rfl, rfl, hge7, hge8, HN5, B75, B85, HF1, HF2⟩
            exact AllReadyH.nil
          exact AllReadyH.nil
        exact AllReadyH.nil
      exact AllReadyH.nil
    exact AllReadyH.nil
  case rest =>
    obtain ⟨q7, q8, f1, z1, f2, z2, rfl, rfl, h7, h8, HB, X7, X8, HF1, HF2⟩ := hcut
    obtain ⟨c0, c1, c2⟩ := cmd_cells HB.out.c
    obtain ⟨x0, x1, x2, x3⟩ := X7.out.facts
    obtain ⟨y0, y1, y2, y3⟩ := X8.out.facts
    obtain ⟨r0, r1, r2, r3⟩ := HB.out.r.facts
    have HFL : Hid (∀ j, F j → j < w.heap.size) := Lib.hid fun j hj => (HV.out.foot j hj).2
    obtain rfl : f1 = true := HF1.out.found.trans HFD.out
    go_wp2_with (first
      | (go_at_call 48; (with_reducible refine (CW.out _).mono ?_); rintro E w1 ⟨rfl, hb⟩; have HB1 := Lib.hid (HB.out.on hb); have Y7 := Lib.hid (X7.out.on hb); have Y8 := Lib.hid (X8.out.on hb); obtain ⟨d0, d1, d2⟩ := cmd_cells HB1.out.c; obtain ⟨x0, x1, x2, x3⟩ := Y7.out.facts; obtain ⟨y0, y1, y2, y3⟩ := Y8.out.facts; obtain ⟨r0, r1, r2, r3⟩ := HB1.out.r.facts; clear hb)
      | (go_at_call 49; (with_reducible refine (CC.out _).mono ?_); rintro E w2 ⟨rfl, hb⟩; have HB2 := Lib.hid (HB1.out.on hb); have Z7 := Lib.hid (Y7.out.on hb); have Z8 := Lib.hid (Y8.out.on hb); obtain ⟨e0, e1, e2⟩ := cmd_cells HB2.out.c; have V2 := Lib.hid (HV.out.on HB2.out.below); have gm0 := V2.out.cells.1; obtain ⟨x0, x1, x2, x3⟩ := Z7.out.facts; obtain ⟨y0, y1, y2, y3⟩ := Z8.out.facts; obtain ⟨r0, r1, r2, r3⟩ := HB2.out.r.facts; clear hb))
    obtain ⟨w4, hst4, hm4, ht4⟩ := MapF.store V2.out.drew.cm und_mc (by have := HNN.out; omega) HKS.out (.agg #[.bool true, .float .f64 z1])
    have V4 := Lib.hid (V2.out.drew.cellput ht4 hm4 (cellIs_set V2.out.ci ⟨z1, rfl, HF1.out⟩))
    have O4 : Hid (Only F w2 w4) := Lib.hid ((Only.drew F w2).trans (Only.turned ht4 V2.out.fmc) (fun k hk => .inl hk))
    have G7 := Lib.hid (Z7.out.same (O4.out.block _ Z7.out.lt (fun e => by have := HFL.out _ e; omega)))
    clear hm4 ht4
    refine wp_region_held_drew (S := (fun w' => w'.cell? ⟨g, 0, none⟩ = some (.map (some mc)) ∧ w'.cell? ⟨q7, 0, none⟩ = some (.bool true) ∧ w'.cell? ⟨q7, 1, none⟩ = some (.float .f64 z1))) (by kernel_rfl) ⟨V2.out.drew.cells.1, Z7.out.drewn.facts.1, Z7.out.drewn.facts.2.1⟩ (fun hHeld => ?_)
    refine wpAnyH_take (i := 0) (v := ?_) rfl (by kernel_rfl) (by kernel_rfl) (by kernel_rfl) (fun _ _ _ h => h) (Or.inl ⟨by rfl, fun w hSw => ?_⟩) (by assumption) ?_
    rotate_left
    · (try dsimp only at hSw); go_simp; (try with_reducible rfl)
    try simp only [List.getElem_toArray, List.getElem_cons_succ, List.getElem_cons_zero, Act.put, List.setIfInBounds_toArray, List.set_cons_zero, List.set_cons_succ]
    refine wpAnyH_take (i := 1) (v := ?_) rfl (by kernel_rfl) (by kernel_rfl) (by kernel_rfl) (fun _ _ _ h => h) (Or.inl ⟨by rfl, fun w hSw => ?_⟩) (by assumption) ?_
    rotate_left
    · (try dsimp only at hSw); go_simp; (try with_reducible rfl)
    try simp only [List.getElem_toArray, List.getElem_cons_succ, List.getElem_cons_zero, Act.put, List.setIfInBounds_toArray, List.set_cons_zero, List.set_cons_succ]
    refine wpAnyH_take (i := 2) (v := ?_) rfl (by kernel_rfl) (by kernel_rfl) (by kernel_rfl) (fun _ _ _ h => h) (Or.inl ⟨by rfl, fun w hSw => ?_⟩) (by assumption) ?_
    rotate_left
    · (try dsimp only at hSw); go_simp; (try with_reducible rfl)
    try simp only [List.getElem_toArray, List.getElem_cons_succ, List.getElem_cons_zero, Act.put, List.setIfInBounds_toArray, List.set_cons_zero, List.set_cons_succ]
    refine wpAnyH_take (i := 3) (v := ?_) rfl (by kernel_rfl) (by kernel_rfl) (by kernel_rfl) (fun _ _ _ h => h) (Or.inl ⟨by rfl, fun w hSw => ?_⟩) (by assumption) ?_
    rotate_left
    · (try dsimp only at hSw); go_simp; (try with_reducible rfl)
    try simp only [List.getElem_toArray, List.getElem_cons_succ, List.getElem_cons_zero, Act.put, List.setIfInBounds_toArray, List.set_cons_zero, List.set_cons_succ]
    refine wpAnyH_take (i := 4) (v := ?_) rfl (by kernel_rfl) (by kernel_rfl) (by kernel_rfl) (fun _ _ _ h => h) (Or.inl ⟨by rfl, fun w hSw => ?_⟩) (by assumption) ?_
    rotate_left
    · (try dsimp only at hSw); go_simp; (try with_reducible rfl)
    try simp only [List.getElem_toArray, List.getElem_cons_succ, List.getElem_cons_zero, Act.put, List.setIfInBounds_toArray, List.set_cons_zero, List.set_cons_succ]
    refine wpAnyH_take (i := 5) (v := ?_) rfl (by kernel_rfl) (by kernel_rfl) (by kernel_rfl) (fun _ _ _ h => h) (Or.inl ⟨by rfl, fun w hSw => ?_⟩) (by assumption) ?_
    rotate_left
    · (try dsimp only at hSw); go_simp; (try with_reducible rfl)
    try simp only [List.getElem_toArray, List.getElem_cons_succ, List.getElem_cons_zero, Act.put, List.setIfInBounds_toArray, List.set_cons_zero, List.set_cons_succ]
    refine wpAnyH_ready (rs := [6]) (by kernel_rfl) (by simp) ?_
    refine AllReadyH.cons rfl (fun K hK => ?_) ?_
    rotate_left
    · exact AllReadyH.nil
    go_simp
    skip
    refine hK.out _ _ ?_ (fun hHeld => ?_)
    · exact ⟨V4.out.cells.1, G7.out.facts.1, G7.out.facts.2.1⟩
    clear hK K
    try simp only [List.getElem_toArray, List.getElem_cons_succ, List.getElem_cons_zero, Act.put, List.setIfInBounds_toArray, List.set_cons_zero, List.set_cons_succ]
    refine wpAnyH_done (by kernel_rfl) ?_ _
    clear hst4
    go_wp2_with fail
    have V5 := Lib.hid V4.out.drew
    have hb5 := Lib.hid (Cmd.below_one w4.drew (.cells #[.int .i64 a, .int .i64 b, .int .i64 p] 63))
    have O5 := Lib.hid ((Only.trans O4.out (Only.drew F w4) (fun k hk => .inl hk)).trans (Only.of F hb5.out) (fun k hk => .inl hk))
    have HWC : Hid (∀ W, Only F w2 W → W.cell? ⟨w.heap.size + 1, 0, none⟩ = some (.int .i64 a) ∧ W.cell? ⟨w.heap.size + 1, 1, none⟩ = some (.int .i64 b) ∧ W.cell? ⟨w.heap.size + 1, 2, none⟩ = some (.int .i64 p)) := Lib.hid fun W ho => wr_cells (HB2.out.only ho HFL.out).1.2
    have HBS : Hid (base ≤ w4.drew.heap.size) := Lib.hid (Nat.le_trans HBA.out (Nat.le_trans HB2.out.below.size (Only.trans O4.out (Only.drew F w4) (fun k hk => .inl hk)).below.size))
    have hlog2 := ((V4.out.on (Cmd.below_one w4 (.cells #[.int .i64 a, .int .i64 b, .int .i64 p] 63))).drew.lm).look und_ml zero_log (s := s) (by have := HKS.out; omega)
    have hlog := (V5.out.lm).look und_ml zero_log (s := s) (by have := HKS.out; omega)
    have HOWN := Lib.hid (V5.out.log s)
    have HLO := Lib.hid (lone_at (D := wdW) (x := ((a, b), p)) (heap_alloc_new w4.drew (.cells #[.int .i64 a, .int .i64 b, .int .i64 p] 63)) rfl)
    refine wp_region_held_drew (S := (fun w' => w'.cell? ⟨g, 1, none⟩ = some (.map (some ml)) ∧ w'.cell? ⟨w.heap.size + 1, 0, none⟩ = some (.int .i64 a) ∧ w'.cell? ⟨w.heap.size + 1, 1, none⟩ = some (.int .i64 b) ∧ w'.cell? ⟨w.heap.size + 1, 2, none⟩ = some (.int .i64 p))) (by kernel_rfl) ⟨V5.out.cells.2.1, HWC.out _ (Only.trans O4.out (Only.drew F w4) (fun k hk => .inl hk))⟩ (fun hHeld => ?_)
    refine wpAnyH_take (i := 0) (v := ?_) rfl (by kernel_rfl) (by kernel_rfl) (by kernel_rfl) (fun _ _ _ h => h) (Or.inl ⟨by rfl, fun w hSw => ?_⟩) (by assumption) ?_
    rotate_left
    · (try dsimp only at hSw); go_simp; (try with_reducible rfl)
    try simp only [List.getElem_toArray, List.getElem_cons_succ, List.getElem_cons_zero, Act.put, List.setIfInBounds_toArray, List.set_cons_zero, List.set_cons_succ]
    refine wpAnyH_take (i := 1) (v := ?_) rfl (by kernel_rfl) (by kernel_rfl) (by kernel_rfl) (fun _ _ _ h => h) (Or.inl ⟨by rfl, fun w hSw => ?_⟩) (by assumption) ?_
    rotate_left
    · (try dsimp only at hSw); go_simp; (try with_reducible rfl)
    try simp only [List.getElem_toArray, List.getElem_cons_succ, List.getElem_cons_zero, Act.put, List.setIfInBounds_toArray, List.set_cons_zero, List.set_cons_succ]
    refine wpAnyH_take (i := 2) (v := ?_) rfl (by kernel_rfl) (by kernel_rfl) (by kernel_rfl) (fun _ _ _ h => h) (Or.inl ⟨by rfl, fun w hSw => ?_⟩) (by assumption) ?_
    rotate_left
    · (try dsimp only at hSw); go_simp; (try with_reducible rfl)
    try simp only [List.getElem_toArray, List.getElem_cons_succ, List.getElem_cons_zero, Act.put, List.setIfInBounds_toArray, List.set_cons_zero, List.set_cons_succ]
    refine wpAnyH_take (i := 3) (v := ?_) rfl (by kernel_rfl) (by kernel_rfl) (by kernel_rfl) (fun _ _ _ h => h) (Or.inl ⟨by rfl, fun w hSw => ?_⟩) (by assumption) ?_
    rotate_left
    · (try dsimp only at hSw); go_simp; (try with_reducible rfl)
    try simp only [List.getElem_toArray, List.getElem_cons_succ, List.getElem_cons_zero, Act.put, List.setIfInBounds_toArray, List.set_cons_zero, List.set_cons_succ]
    refine wpAnyH_take (i := 4) (v := ?_) rfl (by kernel_rfl) (by kernel_rfl) (by kernel_rfl) (fun _ _ _ h => h) (Or.inl ⟨by rfl, fun w hSw => ?_⟩) (by assumption) ?_
    rotate_left
    · (try dsimp only at hSw); go_simp; (try with_reducible rfl)
    try simp only [List.getElem_toArray, List.getElem_cons_succ, List.getElem_cons_zero, Act.put, List.setIfInBounds_toArray, List.set_cons_zero, List.set_cons_succ]
    refine wpAnyH_take (i := 5) (v := ?_) rfl (by kernel_rfl) (by kernel_rfl) (by kernel_rfl) (fun _ _ _ h => h) (Or.inl ⟨by rfl, fun w hSw => ?_⟩) (by assumption) ?_
    rotate_left
    · (try dsimp only at hSw); go_simp; (try with_reducible rfl)
    try simp only [List.getElem_toArray, List.getElem_cons_succ, List.getElem_cons_zero, Act.put, List.setIfInBounds_toArray, List.set_cons_zero, List.set_cons_succ]
    refine wpAnyH_take (i := 6) (v := ?_) rfl (by kernel_rfl) (by kernel_rfl) (by kernel_rfl) (fun _ _ _ h => h) (Or.inl ⟨by rfl, fun w hSw => ?_⟩) (by assumption) ?_
    rotate_left
    · (try dsimp only at hSw); go_simp; (try with_reducible rfl)
    try simp only [List.getElem_toArray, List.getElem_cons_succ, List.getElem_cons_zero, Act.put, List.setIfInBounds_toArray, List.set_cons_zero, List.set_cons_succ]
    refine wpAnyH_take (i := 7) (v := ?_) rfl (by kernel_rfl) (by kernel_rfl) (by kernel_rfl) (fun _ _ _ h => h) (Or.inl ⟨by rfl, fun w hSw => ?_⟩) (by assumption) ?_
    rotate_left
    · (try dsimp only at hSw); go_simp; (try with_reducible rfl)
    try simp only [List.getElem_toArray, List.getElem_cons_succ, List.getElem_cons_zero, Act.put, List.setIfInBounds_toArray, List.set_cons_zero, List.set_cons_succ]
    refine wpAnyH_take (i := 8) (v := ?_) rfl (by kernel_rfl) (by kernel_rfl) (by kernel_rfl) (fun _ _ _ h => h) (Or.inl ⟨by rfl, fun w hSw => ?_⟩) (by assumption) ?_
    rotate_left
    · (try dsimp only at hSw); go_simp; (try with_reducible rfl)
    try simp only [List.getElem_toArray, List.getElem_cons_succ, List.getElem_cons_zero, Act.put, List.setIfInBounds_toArray, List.set_cons_zero, List.set_cons_succ]
    refine wpAnyH_take (i := 9) (v := ?_) rfl (by kernel_rfl) (by kernel_rfl) (by kernel_rfl) (fun _ _ _ h => h) (Or.inl ⟨by rfl, fun w hSw => ?_⟩) (by assumption) ?_
    rotate_left
    · (try dsimp only at hSw); go_simp; (try with_reducible rfl)
    try simp only [List.getElem_toArray, List.getElem_cons_succ, List.getElem_cons_zero, Act.put, List.setIfInBounds_toArray, List.set_cons_zero, List.set_cons_succ]
    refine wpAnyH_take (i := 11) (v := ?_) rfl (by kernel_rfl) (by kernel_rfl) (by kernel_rfl) (fun _ _ _ h => h) (Or.inl ⟨by rfl, fun w hSw => ?_⟩) (by assumption) ?_
    rotate_left
    · (try dsimp only at hSw); go_simp; (try with_reducible rfl)
    try simp only [List.getElem_toArray, List.getElem_cons_succ, List.getElem_cons_zero, Act.put, List.setIfInBounds_toArray, List.set_cons_zero, List.set_cons_succ]
    refine wpAnyH_ready (rs := [10, 12]) (by kernel_rfl) (by simp) ?_
    refine AllReadyH.cons rfl (fun K hK => ?_) ?_
    · go_simp
      skip
      refine hK.out _ _ ?_ (fun hHeld => ?_)
      · exact hHeld
      clear hK K
      try simp only [List.getElem_toArray, List.getElem_cons_succ, List.getElem_cons_zero, Act.put, List.setIfInBounds_toArray, List.set_cons_zero, List.set_cons_succ]
      refine wpAnyH_ready (rs := [12]) (by kernel_rfl) (by simp) ?_
      refine AllReadyH.cons rfl (fun K hK => ?_) ?_
      rotate_left
      · exact AllReadyH.nil
      go_simp
      skip
      refine hK.out _ _ ?_ (fun hHeld => ?_)
      · exact ⟨(V5.out.on hb5.out).cells.2.1, HWC.out _ O5.out⟩
      clear hK K
      try simp only [List.getElem_toArray, List.getElem_cons_succ, List.getElem_cons_zero, Act.put, List.setIfInBounds_toArray, List.set_cons_zero, List.set_cons_succ]
      refine wpAnyH_ready (rs := [13]) (by kernel_rfl) (by simp) ?_
      refine AllReadyH.cons rfl (fun K hK => ?_) ?_
      rotate_left
      · exact AllReadyH.nil
      refine step_one (by kernel_rfl) _ _ rfl base _ _ rfl (Wd.Own.below HOWN.out hb5.out) (Nat.le_trans HBS.out hb5.out.size) _ ((a, b), p) rfl HLO.out (by have := HLEN.out; omega) ?_
      intro v6 w6 HV6 HG6 HN6
      have HM6 := Lib.hid (V5.out.mid hb5.out HG6.out)
      have O6 := Lib.hid (O5.out.trans (Only.row (F := F) HG6.out (fun k hk => (V5.out.logown s hk).1)) (fun k hk => .inl hk))
      obtain ⟨w7, hst7, hm7, ht7⟩ := MapF.store HM6.out.2 und_ml (by have := HNN.out; omega) HKS.out v6
      have HMF := Lib.hid hm7
      have HT7 := Lib.hid ht7
      clear hm7 ht7
      have HP7 := Lib.hid (V5.out.logput hb5.out HV6.out HG6.out HN6.out HT7.out HMF.out HBS.out)
      have O7 := Lib.hid ((Only.trans O4.out (Only.drew F w4) (fun k hk => .inl hk)).trans HP7.out.2 (fun k hk => .inl hk))
      refine hK.out _ _ ?_ (fun hHeld => ?_)
      · exact ⟨HM6.out.1, HWC.out _ O6.out⟩
      clear hK K
      try simp only [List.getElem_toArray, List.getElem_cons_succ, List.getElem_cons_zero, Act.put, List.setIfInBounds_toArray, List.set_cons_zero, List.set_cons_succ]
      refine wpAnyH_ready (rs := [14]) (by kernel_rfl) (by simp) ?_
      refine AllReadyH.cons rfl (fun K hK => ?_) ?_
      rotate_left
      · exact AllReadyH.nil
      go_simp
      skip
      refine hK.out _ _ ?_ (fun hHeld => ?_)
      · exact ⟨HP7.out.1.cells.2.1, HWC.out _ O7.out⟩
      clear hK K
      try simp only [List.getElem_toArray, List.getElem_cons_succ, List.getElem_cons_zero, Act.put, List.setIfInBounds_toArray, List.set_cons_zero, List.set_cons_succ]
      refine wpAnyH_done (by kernel_rfl) ?_ _
      have G8 := Lib.hid (Z8.out.same (O7.out.block _ Z8.out.lt (fun e => by have := HFL.out _ e; omega)))
      have GR := Lib.hid (HB2.out.only O7.out HFL.out).2
      obtain ⟨y0, y1, y2, y3⟩ := G8.out.facts
      obtain ⟨r0, r1, r2, r3⟩ := GR.out.facts
      go_wp2_with fail
      have P := GR.out.put f2 z2
      obtain ⟨d0, d1, -, -⟩ := P.facts
      exact bodyPost_ret (cell_result rfl _ rfl d0 d1) rfl ⟨f2, z2, rfl, HF2.out, vdo_end (w2 := w2) (n := w4.drew.heap.size) (by have := HB2.out.below.size; have := O4.out.below.size; simp only [World.size_drew] at *; omega) HB2.out.below HP7.out.1 O7.out HBA.out (w.heap.size + 1 + 1) (by have := HB2.out.lt; have := O4.out.below.size; simp only [World.size_drew] at *; omega) (by omega) HFL.out _ _ rfl⟩
    refine AllReadyH.cons rfl (fun K hK => ?_) ?_
    · go_simp
      skip
      refine hK.out _ _ ?_ (fun hHeld => ?_)
      · exact ⟨(V5.out.on hb5.out).cells.2.1, HWC.out _ O5.out⟩
      clear hK K
      try simp only [List.getElem_toArray, List.getElem_cons_succ, List.getElem_cons_zero, Act.put, List.setIfInBounds_toArray, List.set_cons_zero, List.set_cons_succ]
      refine wpAnyH_ready (rs := [10]) (by kernel_rfl) (by simp) ?_
      refine AllReadyH.cons rfl (fun K hK => ?_) ?_
      rotate_left
      · exact AllReadyH.nil
      go_simp
      skip
      refine hK.out _ _ ?_ (fun hHeld => ?_)
      · exact hHeld
      clear hK K
      try simp only [List.getElem_toArray, List.getElem_cons_succ, List.getElem_cons_zero, Act.put, List.setIfInBounds_toArray, List.set_cons_zero, List.set_cons_succ]
      refine wpAnyH_ready (rs := [13]) (by kernel_rfl) (by simp) ?_
      refine AllReadyH.cons rfl (fun K hK => ?_) ?_
      rotate_left
      · exact AllReadyH.nil
      refine step_one (by kernel_rfl) _ _ rfl base _ _ rfl (Wd.Own.below HOWN.out hb5.out) (Nat.le_trans HBS.out hb5.out.size) _ ((a, b), p) rfl HLO.out (by have := HLEN.out; omega) ?_
      intro v6 w6 HV6 HG6 HN6
      have HM6 := Lib.hid (V5.out.mid hb5.out HG6.out)
      have O6 := Lib.hid (O5.out.trans (Only.row (F := F) HG6.out (fun k hk => (V5.out.logown s hk).1)) (fun k hk => .inl hk))
      obtain ⟨w7, hst7, hm7, ht7⟩ := MapF.store HM6.out.2 und_ml (by have := HNN.out; omega) HKS.out v6
      have HMF := Lib.hid hm7
      have HT7 := Lib.hid ht7
      clear hm7 ht7
      have HP7 := Lib.hid (V5.out.logput hb5.out HV6.out HG6.out HN6.out HT7.out HMF.out HBS.out)
      have O7 := Lib.hid ((Only.trans O4.out (Only.drew F w4) (fun k hk => .inl hk)).trans HP7.out.2 (fun k hk => .inl hk))
      refine hK.out _ _ ?_ (fun hHeld => ?_)
      · exact ⟨HM6.out.1, HWC.out _ O6.out⟩
      clear hK K
      try simp only [List.getElem_toArray, List.getElem_cons_succ, List.getElem_cons_zero, Act.put, List.setIfInBounds_toArray, List.set_cons_zero, List.set_cons_succ]
      refine wpAnyH_ready (rs := [14]) (by kernel_rfl) (by simp) ?_
      refine AllReadyH.cons rfl (fun K hK => ?_) ?_
      rotate_left
      · exact AllReadyH.nil
      go_simp
      skip
      refine hK.out _ _ ?_ (fun hHeld => ?_)
      · exact ⟨HP7.out.1.cells.2.1, HWC.out _ O7.out⟩
      clear hK K
      try simp only [List.getElem_toArray, List.getElem_cons_succ, List.getElem_cons_zero, Act.put, List.setIfInBounds_toArray, List.set_cons_zero, List.set_cons_succ]
      refine wpAnyH_done (by kernel_rfl) ?_ _
      have G8 := Lib.hid (Z8.out.same (O7.out.block _ Z8.out.lt (fun e => by have := HFL.out _ e; omega)))
      have GR := Lib.hid (HB2.out.only O7.out HFL.out).2
      obtain ⟨y0, y1, y2, y3⟩ := G8.out.facts
      obtain ⟨r0, r1, r2, r3⟩ := GR.out.facts
      go_wp2_with fail
      have P := GR.out.put f2 z2
      obtain ⟨d0, d1, -, -⟩ := P.facts
      exact bodyPost_ret (cell_result rfl _ rfl d0 d1) rfl ⟨f2, z2, rfl, HF2.out, vdo_end (w2 := w2) (n := w4.drew.heap.size) (by have := HB2.out.below.size; have := O4.out.below.size; simp only [World.size_drew] at *; omega) HB2.out.below HP7.out.1 O7.out HBA.out (w.heap.size + 1 + 1) (by have := HB2.out.lt; have := O4.out.below.size; simp only [World.size_drew] at *; omega) (by omega) HFL.out _ _ rfl⟩
    exact AllReadyH.nil
set_option maxHeartbeats 16000000 in
set_option maxRecDepth 100000 in
theorem vdo_del {w : World} {base : Nat} {F : Nat → Prop} {g mc ml : Nat} {f h : Key → Option Value} {C : Key → Cell2} {L : Key → List Wr} {N : Nat} {cnt : Int} (V : VM w base F g mc ml f h C L N cnt) (hbase : base ≤ w.heap.size) (k : Int) (s : Key) (x : Nat) (a b p : Int) (hx : x < 18446744073709551616) (hs : s.length ≤ 1000) (hN : N ≤ 100000) (hL : (L s).length ≤ 100000) (cb : Bool) (cz : Nat) (hcz : cz < 18446744073709551616) (hcell : (f s).getD (.agg #[.bool false, .float .f64 0]) = .agg #[.bool cb, .float .f64 cz]) (hw : cWrites k s x = true) (hfd : (doC (cb, cz) k s x).1.1 = false) :
    Calls Try.prog 40 #[vptr g, .agg #[.int .i64 k, .string (str s), .float .f64 x], .agg #[.int .i64 a, .int .i64 b, .int .i64 p]] w fun E w' => ∃ f2 z2, E = .returned (.agg #[.bool f2, .float .f64 z2]) ∧ Fit f2 z2 (doC (cb, cz) k s x).2 ∧ (VP w' base (More F w.heap.size w'.heap.size) g (fun t => if t = s then (doC (cb, cz) k s x).1 else C t) (fun t => if t = s then L s ++ [((a, b), p)] else L t) (N + 1 + 1) cnt ∧ Only F w w') := by
  unfold vptr
  have HLK : Hid (∀ W, Below w.heap.size w W → (Instr.lookup 74 (.map (some mc)) (.string (str s)) false).run Try.prog W = .ok (.agg #[.bool cb, .float .f64 cz]) W) := Lib.hid fun W hb => by rw [((V.on hb).cm).look und_mc zero_cell (by omega), hcell]
  have HV := Lib.hid V
  have HS : Hid (∀ W, Bo w k s x a b p W → W.cell? ⟨g, 0, none⟩ = some (.map (some mc)) ∧ (Instr.lookup 74 (.map (some mc)) (.string (str s)) false).run Try.prog W = .ok (.agg #[.bool cb, .float .f64 cz]) W ∧ W.cell? ⟨w.heap.size, 0, none⟩ = some (.int .i64 k) ∧ W.cell? ⟨w.heap.size, 1, none⟩ = some (.string (str s)) ∧ W.cell? ⟨w.heap.size, 2, none⟩ = some (.float .f64 x)) := Lib.hid fun W hb => ⟨(V.on hb.below).cells.1, HLK.out W hb.below, cmd_cells hb.c⟩
  have CD : Hid (∀ W, Calls Try.prog 39 #[.agg #[.bool cb, .float .f64 cz], .agg #[.int .i64 k, .string (str s), .float .f64 x]] W (GivesDo (doC (cb, cz) k s x) W)) := Lib.hid fun W => ddo_any (cb, cz) k s x W hcz hx (by omega)
  have CW : Hid (∀ W, Calls Try.prog 48 #[.agg #[.int .i64 k, .string (str s), .float .f64 x]] W (RetBelow (.bool true) W)) := Lib.hid fun W => by have := writes_any k s x W hx; rwa [hw] at this
  have CC : Hid (∀ W, Calls Try.prog 49 #[.string (str s)] W (RetBelow (.string (str s)) W)) := Lib.hid fun W => clone_any s W (by omega)
  generalize doC (cb, cz) k s x = R at CD hfd ⊢
  have HFD := Lib.hid hfd
  clear hfd
  have B0 := Lib.hid (Bo.start w k s x a b p)
  have HN0 := Lib.hid (B0.out.on (Below.refl _ _).drew)
  have HBA := Lib.hid hbase
  have HLEN := Lib.hid hL
  have HKS := Lib.hid hs
  have HKL : Hid (s.length ≤ 140737488351232) := Lib.hid (by omega)
  have HNN := Lib.hid hN
  clear V hbase hx hcz hcell hL hw hs hN
  go_enter Try.func40, Try.ntmps40
  go_upto_region 1 with fail
  go_cut [7, 8] (fun p7 p8 wx => ∃ (q7 q8 : Nat) (f1 : Bool) (z1 : Nat) (f2 : Bool) (z2 : Nat), p7 = .pointer (some ⟨q7, 0, none⟩) ∧ p8 = .pointer (some ⟨q8, 0, none⟩) ∧ w.heap.size + 1 + 1 < q7 ∧ w.heap.size + 1 + 1 < q8 ∧ Hid (Bo w k s x a b p wx) ∧ Hid (Bx q7 f1 z1 wx) ∧ Hid (Bx q8 f2 z2 wx) ∧ Hid (Fit f1 z1 R.1) ∧ Hid (Fit f2 z2 R.2))
  case first =>
    refine wp_region_held_drew (S := (fun w' => w'.cell? ⟨g, 0, none⟩ = some (.map (some mc)) ∧ (Instr.lookup 74 (.map (some mc)) (.string (str s)) false).run Try.prog w' = .ok (.agg #[.bool cb, .float .f64 cz]) w' ∧ w'.cell? ⟨w.heap.size, 0, none⟩ = some (.int .i64 k) ∧ w'.cell? ⟨w.heap.size, 1, none⟩ = some (.string (str s)) ∧ w'.cell? ⟨w.heap.size, 2, none⟩ = some (.float .f64 x))) (by kernel_rfl) (HS.out _ HN0.out) (fun hHeld => ?_)
    clear HV CW CC
    generalize (((w.alloc (.cells #[.int .i64 k, .string (str s), .float .f64 x] 48)).alloc (.cells #[.int .i64 a, .int .i64 b, .int .i64 p] 63)).alloc (.cells #[.bool false, .float .f64 0] 30)).drew = W0 at HN0 hHeld ⊢
    refine wpAnyH_take (i := 0) (v := ?_) rfl (by kernel_rfl) (by kernel_rfl) (by kernel_rfl) (fun _ _ _ h => h) (Or.inl ⟨by rfl, fun w hSw => ?_⟩) (by assumption) ?_
    rotate_left
    · (try dsimp only at hSw); go_simp; (try with_reducible rfl)
    try simp only [List.getElem_toArray, List.getElem_cons_succ, List.getElem_cons_zero, Act.put, List.setIfInBounds_toArray, List.set_cons_zero, List.set_cons_succ]
    refine wpAnyH_take (i := 1) (v := ?_) rfl (by kernel_rfl) (by kernel_rfl) (by kernel_rfl) (fun _ _ _ h => h) (Or.inl ⟨by rfl, fun w hSw => ?_⟩) (by assumption) ?_
    rotate_left
    · (try dsimp only at hSw); go_simp; (try with_reducible rfl)
    try simp only [List.getElem_toArray, List.getElem_cons_succ, List.getElem_cons_zero, Act.put, List.setIfInBounds_toArray, List.set_cons_zero, List.set_cons_succ]
    refine wpAnyH_take (i := 2) (v := ?_) rfl (by kernel_rfl) (by kernel_rfl) (by kernel_rfl) (fun _ _ _ h => h) (Or.inl ⟨by rfl, fun w hSw => ?_⟩) (by assumption) ?_
    rotate_left
    · (try dsimp only at hSw); go_simp; (try with_reducible rfl)
    try simp only [List.getElem_toArray, List.getElem_cons_succ, List.getElem_cons_zero, Act.put, List.setIfInBounds_toArray, List.set_cons_zero, List.set_cons_succ]
    refine wpAnyH_take (i := 3) (v := ?_) rfl (by kernel_rfl) (by kernel_rfl) (by kernel_rfl) (fun _ _ _ h => h) (Or.inl ⟨by rfl, fun w hSw => ?_⟩) (by assumption) ?_
    rotate_left
    · (try dsimp only at hSw); go_simp; (try with_reducible rfl)
    try simp only [List.getElem_toArray, List.getElem_cons_succ, List.getElem_cons_zero, Act.put, List.setIfInBounds_toArray, List.set_cons_zero, List.set_cons_succ]
    refine wpAnyH_take (i := 4) (v := ?_) rfl (by kernel_rfl) (by kernel_rfl) (by kernel_rfl) (fun _ _ _ h => h) (Or.inl ⟨by rfl, fun w hSw => ?_⟩) (by assumption) ?_
    rotate_left
    · (try dsimp only at hSw); go_simp; (try with_reducible rfl)
    try simp only [List.getElem_toArray, List.getElem_cons_succ, List.getElem_cons_zero, Act.put, List.setIfInBounds_toArray, List.set_cons_zero, List.set_cons_succ]
    refine wpAnyH_take (i := 5) (v := ?_) rfl (by kernel_rfl) (by kernel_rfl) (by kernel_rfl) (fun _ _ _ h => h) (Or.inl ⟨by rfl, fun w hSw => ?_⟩) (by assumption) ?_
    rotate_left
    · (try dsimp only at hSw); go_simp; (try with_reducible rfl)
    try simp only [List.getElem_toArray, List.getElem_cons_succ, List.getElem_cons_zero, Act.put, List.setIfInBounds_toArray, List.set_cons_zero, List.set_cons_succ]
    refine wpAnyH_take (i := 6) (v := ?_) rfl (by kernel_rfl) (by kernel_rfl) (by kernel_rfl) (fun _ _ _ h => h) (Or.inl ⟨by rfl, fun w hSw => ?_⟩) (by assumption) ?_
    rotate_left
    · (try dsimp only at hSw); go_simp; (try with_reducible rfl)
    try simp only [List.getElem_toArray, List.getElem_cons_succ, List.getElem_cons_zero, Act.put, List.setIfInBounds_toArray, List.set_cons_zero, List.set_cons_succ]
    refine wpAnyH_take (i := 7) (v := ?_) rfl (by kernel_rfl) (by kernel_rfl) (by kernel_rfl) (fun _ _ _ h => h) (Or.inl ⟨by rfl, fun w hSw => ?_⟩) (by assumption) ?_
    rotate_left
    · (try dsimp only at hSw); go_simp; (try with_reducible rfl)
    try simp only [List.getElem_toArray, List.getElem_cons_succ, List.getElem_cons_zero, Act.put, List.setIfInBounds_toArray, List.set_cons_zero, List.set_cons_succ]
    refine wpAnyH_ready (rs := [8, 12, 13]) (by kernel_rfl) (by simp) ?_
    refine AllReadyH.cons rfl (fun K hK => ?_) ?_
    · go_simp
      (go_at_call 39; (with_reducible refine (CD.out _).mono ?_); rintro E W1 ⟨f1, z1, f2, z2, rfl, h1, h2, hb⟩; have HF1 := Lib.hid h1; have HF2 := Lib.hid h2; have HN1 := Lib.hid (HN0.out.on hb); clear h1 h2 hb)
      refine hK.out _ _ ?_ (fun hHeld => ?_)
      · exact HS.out _ HN1.out
      clear hK K
      try simp only [List.getElem_toArray, List.getElem_cons_succ, List.getElem_cons_zero, Act.put, List.setIfInBounds_toArray, List.set_cons_zero, List.set_cons_succ]
      refine wpAnyH_take (i := 9) (v := ?_) rfl (by kernel_rfl) (by kernel_rfl) (by kernel_rfl) (fun _ _ _ h => h) (Or.inl ⟨by rfl, fun w hSw => ?_⟩) (by assumption) ?_
      rotate_left
      · (try dsimp only at hSw); go_simp; (try with_reducible rfl)
      try simp only [List.getElem_toArray, List.getElem_cons_succ, List.getElem_cons_zero, Act.put, List.setIfInBounds_toArray, List.set_cons_zero, List.set_cons_succ]
      refine wpAnyH_take (i := 10) (v := ?_) rfl (by kernel_rfl) (by kernel_rfl) (by kernel_rfl) (fun _ _ _ h => h) (Or.inl ⟨by rfl, fun w hSw => ?_⟩) (by assumption) ?_
      rotate_left
      · (try dsimp only at hSw); go_simp; (try with_reducible rfl)
      try simp only [List.getElem_toArray, List.getElem_cons_succ, List.getElem_cons_zero, Act.put, List.setIfInBounds_toArray, List.set_cons_zero, List.set_cons_succ]
      refine wpAnyH_take (i := 11) (v := ?_) rfl (by kernel_rfl) (by kernel_rfl) (by kernel_rfl) (fun _ _ _ h => h) (Or.inl ⟨by rfl, fun w hSw => ?_⟩) (by assumption) ?_
      rotate_left
      · (try dsimp only at hSw); go_simp; (try with_reducible rfl)
      try simp only [List.getElem_toArray, List.getElem_cons_succ, List.getElem_cons_zero, Act.put, List.setIfInBounds_toArray, List.set_cons_zero, List.set_cons_succ]
      refine wpAnyH_ready (rs := [12, 13]) (by kernel_rfl) (by simp) ?_
      refine AllReadyH.cons rfl (fun K hK => ?_) ?_
      · go_simp
        have HN2 := Lib.hid (HN1.out.on (Cmd.below_one W1 (.cells #[.bool false, .float .f64 0] 30)))
        have B72 := Lib.hid (Bx.new W1 false 0)
        have hge7 : w.heap.size + 1 + 1 < W1.heap.size := HN1.out.lt
        refine hK.out _ _ ?_ (fun hHeld => ?_)
        · exact HS.out _ HN2.out
        clear hK K
        generalize W1.alloc (.cells #[.bool false, .float .f64 0] 30) = W2 at HN2 B72 hHeld ⊢
        try simp only [List.getElem_toArray, List.getElem_cons_succ, List.getElem_cons_zero, Act.put, List.setIfInBounds_toArray, List.set_cons_zero, List.set_cons_succ]
        refine wpAnyH_ready (rs := [13]) (by kernel_rfl) (by simp) ?_
        refine AllReadyH.cons rfl (fun K hK => ?_) ?_
        · go_simp
          have HN3 := Lib.hid (HN2.out.on (Cmd.below_one W2 (.cells #[.bool false, .float .f64 0] 30)))
          have B83 := Lib.hid (Bx.new W2 false 0)
          have hge8 : w.heap.size + 1 + 1 < W2.heap.size := HN2.out.lt
          have hne : W1.heap.size ≠ W2.heap.size := Nat.ne_of_lt B72.out.lt
          have B73 := Lib.hid (B72.out.alloc (.cells #[.bool false, .float .f64 0] 30))
          refine hK.out _ _ ?_ (fun hHeld => ?_)
          · exact HS.out _ HN3.out
          clear hK K
          generalize W2.alloc (.cells #[.bool false, .float .f64 0] 30) = W3 at HN3 B83 B73 hHeld ⊢
          try simp only [List.getElem_toArray, List.getElem_cons_succ, List.getElem_cons_zero, Act.put, List.setIfInBounds_toArray, List.set_cons_zero, List.set_cons_succ]
          refine wpAnyH_ready (rs := [14]) (by kernel_rfl) (by simp) ?_
          refine AllReadyH.cons rfl (fun K hK => ?_) ?_
          · obtain ⟨x0, x1, x2, x3⟩ := B73.out.facts
            go_simp
            have HN4 := Lib.hid (HN3.out.under (((Below.refl W1.heap.size W3).setCell (p := ⟨W1.heap.size, 0, none⟩) (Nat.le_refl _) (.bool f1)).setCell (p := ⟨W1.heap.size, 1, none⟩) (Nat.le_refl _) (.float .f64 z1)) hge7)
            have B74 := Lib.hid (B73.out.put f1 z1)
            have B84 := Lib.hid ((B83.out.far (c := W1.heap.size) (by omega) 0 (.bool f1)).far (c := W1.heap.size) (by omega) 1 (.float .f64 z1))
            refine hK.out _ _ ?_ (fun hHeld => ?_)
            · exact HS.out _ HN4.out
            clear hK K
            generalize ((W3.setCell ⟨W1.heap.size, 0, none⟩ (.bool f1)).setCell ⟨W1.heap.size, 1, none⟩ (.float .f64 z1)) = W4 at HN4 B74 B84 hHeld ⊢
            try simp only [List.getElem_toArray, List.getElem_cons_succ, List.getElem_cons_zero, Act.put, List.setIfInBounds_toArray, List.set_cons_zero, List.set_cons_succ]
            refine wpAnyH_ready (rs := [15]) (by kernel_rfl) (by simp) ?_
            refine AllReadyH.cons rfl (fun K hK => ?_) ?_
            · obtain ⟨x0, x1, x2, x3⟩ := B84.out.facts
              go_simp
              have HN5 := Lib.hid (HN4.out.under (((Below.refl W2.heap.size W4).setCell (p := ⟨W2.heap.size, 0, none⟩) (Nat.le_refl _) (.bool f2)).setCell (p := ⟨W2.heap.size, 1, none⟩) (Nat.le_refl _) (.float .f64 z2)) hge8)
              have B85 := Lib.hid (B84.out.put f2 z2)
              have B75 := Lib.hid ((B74.out.far (c := W2.heap.size) (by omega) 0 (.bool f2)).far (c := W2.heap.size) (by omega) 1 (.float .f64 z2))
              refine hK.out _ _ ?_ (fun hHeld => ?_)
              · exact HS.out _ HN5.out
              clear hK K
              generalize ((W4.setCell ⟨W2.heap.size, 0, none⟩ (.bool f2)).setCell ⟨W2.heap.size, 1, none⟩ (.float .f64 z2)) = W5 at HN5 B85 B75 hHeld ⊢
              try simp only [List.getElem_toArray, List.getElem_cons_succ, List.getElem_cons_zero, Act.put, List.setIfInBounds_toArray, List.set_cons_zero, List.set_cons_succ]
              refine wpAnyH_done (by kernel_rfl) ?_ _
              go_wp2_with fail
              go_meet
              case rel => exact ⟨_, _, f1, z1, f2, z2, rfl, rfl, hge7, hge8, HN5, B75, B85, HF1, HF2⟩
            exact AllReadyH.nil
          exact AllReadyH.nil
        exact AllReadyH.nil
      refine AllReadyH.cons rfl (fun K hK => ?_) ?_
      · go_simp
        have HN2 := Lib.hid (HN1.out.on (Cmd.below_one W1 (.cells #[.bool false, .float .f64 0] 30)))
        have B82 := Lib.hid (Bx.new W1 false 0)
        have hge8 : w.heap.size + 1 + 1 < W1.heap.size := HN1.out.lt
        refine hK.out _ _ ?_ (fun hHeld => ?_)
        · exact HS.out _ HN2.out
        clear hK K
        generalize W1.alloc (.cells #[.bool false, .float .f64 0] 30) = W2 at HN2 B82 hHeld ⊢
        try simp only [List.getElem_toArray, List.getElem_cons_succ, List.getElem_cons_zero, Act.put, List.setIfInBounds_toArray, List.set_cons_zero, List.set_cons_succ]
        refine wpAnyH_ready (rs := [12]) (by kernel_rfl) (by simp) ?_
        refine AllReadyH.cons rfl (fun K hK => ?_) ?_
        · go_simp
          have HN3 := Lib.hid (HN2.out.on (Cmd.below_one W2 (.cells #[.bool false, .float .f64 0] 30)))
          have B73 := Lib.hid (Bx.new W2 false 0)
          have hge7 : w.heap.size + 1 + 1 < W2.heap.size := HN2.out.lt
          have hne : W1.heap.size ≠ W2.heap.size := Nat.ne_of_lt B82.out.lt
          have B83 := Lib.hid (B82.out.alloc (.cells #[.bool false, .float .f64 0] 30))
          refine hK.out _ _ ?_ (fun hHeld => ?_)
          · exact HS.out _ HN3.out
          clear hK K
          generalize W2.alloc (.cells #[.bool false, .float .f64 0] 30) = W3 at HN3 B73 B83 hHeld ⊢
          try simp only [List.getElem_toArray, List.getElem_cons_succ, List.getElem_cons_zero, Act.put, List.setIfInBounds_toArray, List.set_cons_zero, List.set_cons_succ]
          refine wpAnyH_ready (rs := [14]) (by kernel_rfl) (by simp) ?_
          refine AllReadyH.cons rfl (fun K hK => ?_) ?_
          · obtain ⟨x0, x1, x2, x3⟩ := B73.out.facts
            go_simp
            have HN4 := Lib.hid (HN3.out.under (((Below.refl W2.heap.size W3).setCell (p := ⟨W2.heap.size, 0, none⟩) (Nat.le_refl _) (.bool f1)).setCell (p := ⟨W2.heap.size, 1, none⟩) (Nat.le_refl _) (.float .f64 z1)) hge7)
            have B74 := Lib.hid (B73.out.put f1 z1)
            have B84 := Lib.hid ((B83.out.far (c := W2.heap.size) (by omega) 0 (.bool f1)).far (c := W2.heap.size) (by omega) 1 (.float .f64 z1))
            refine hK.out _ _ ?_ (fun hHeld => ?_)
            · exact HS.out _ HN4.out
            clear hK K
            generalize ((W3.setCell ⟨W2.heap.size, 0, none⟩ (.bool f1)).setCell ⟨W2.heap.size, 1, none⟩ (.float .f64 z1)) = W4 at HN4 B74 B84 hHeld ⊢
            try simp only [List.getElem_toArray, List.getElem_cons_succ, List.getElem_cons_zero, Act.put, List.setIfInBounds_toArray, List.set_cons_zero, List.set_cons_succ]
            refine wpAnyH_ready (rs := [15]) (by kernel_rfl) (by simp) ?_
            refine AllReadyH.cons rfl (fun K hK => ?_) ?_
            · obtain ⟨x0, x1, x2, x3⟩ := B84.out.facts
              go_simp
              have HN5 := Lib.hid (HN4.out.under (((Below.refl W1.heap.size W4).setCell (p := ⟨W1.heap.size, 0, none⟩) (Nat.le_refl _) (.bool f2)).setCell (p := ⟨W1.heap.size, 1, none⟩) (Nat.le_refl _) (.float .f64 z2)) hge8)
              have B85 := Lib.hid (B84.out.put f2 z2)
              have B75 := Lib.hid ((B74.out.far (c := W1.heap.size) (by omega) 0 (.bool f2)).far (c := W1.heap.size) (by omega) 1 (.float .f64 z2))
              refine hK.out _ _ ?_ (fun hHeld => ?_)
              · exact HS.out _ HN5.out
              clear hK K
              generalize ((W4.setCell ⟨W1.heap.size, 0, none⟩ (.bool f2)).setCell ⟨W1.heap.size, 1, none⟩ (.float .f64 z2)) = W5 at HN5 B85 B75 hHeld ⊢
              try simp only [List.getElem_toArray, List.getElem_cons_succ, List.getElem_cons_zero, Act.put, List.setIfInBounds_toArray, List.set_cons_zero, List.set_cons_succ]
              refine wpAnyH_done (by kernel_rfl) ?_ _
              go_wp2_with fail
              go_meet
              case rel => exact ⟨_, _, f1, z1, f2, z2, rfl, rfl, hge7, hge8, HN5, B75, B85, HF1, HF2⟩
            exact AllReadyH.nil
          exact AllReadyH.nil
        exact AllReadyH.nil
      exact AllReadyH.nil
    refine AllReadyH.cons rfl (fun K hK => ?_) ?_
    · go_simp
      have HN1 := Lib.hid (HN0.out.on (Cmd.below_one W0 (.cells #[.bool false, .float .f64 0] 30)))
      have B71 := Lib.hid (Bx.new W0 false 0)
      have hge7 : w.heap.size + 1 + 1 < W0.heap.size := HN0.out.lt
      refine hK.out _ _ ?_ (fun hHeld => ?_)
      · exact HS.out _ HN1.out
      clear hK K
      generalize W0.alloc (.cells #[.bool false, .float .f64 0] 30) = W1 at HN1 B71 hHeld ⊢
      try simp only [List.getElem_toArray, List.getElem_cons_succ, List.getElem_cons_zero, Act.put, List.setIfInBounds_toArray, List.set_cons_zero, List.set_cons_succ]
      refine wpAnyH_ready (rs := [8, 13]) (by kernel_rfl) (by simp) ?_
      refine AllReadyH.cons rfl (fun K hK => ?_) ?_
      · go_simp
        (go_at_call 39; (with_reducible refine (CD.out _).mono ?_); rintro E W2 ⟨f1, z1, f2, z2, rfl, h1, h2, hb⟩; have HF1 := Lib.hid h1; have HF2 := Lib.hid h2; have HN2 := Lib.hid (HN1.out.on hb); have B72 := Lib.hid (B71.out.on hb); clear h1 h2 hb)
        refine hK.out _ _ ?_ (fun hHeld => ?_)
        · exact HS.out _ HN2.out
        clear hK K
        try simp only [List.getElem_toArray, List.getElem_cons_succ, List.getElem_cons_zero, Act.put, List.setIfInBounds_toArray, List.set_cons_zero, List.set_cons_succ]
        refine wpAnyH_take (i := 9) (v := ?_) rfl (by kernel_rfl) (by kernel_rfl) (by kernel_rfl) (fun _ _ _ h => h) (Or.inl ⟨by rfl, fun w hSw => ?_⟩) (by assumption) ?_
        rotate_left
        · (try dsimp only at hSw); go_simp; (try with_reducible rfl)
        try simp only [List.getElem_toArray, List.getElem_cons_succ, List.getElem_cons_zero, Act.put, List.setIfInBounds_toArray, List.set_cons_zero, List.set_cons_succ]
        refine wpAnyH_take (i := 10) (v := ?_) rfl (by kernel_rfl) (by kernel_rfl) (by kernel_rfl) (fun _ _ _ h => h) (Or.inl ⟨by rfl, fun w hSw => ?_⟩) (by assumption) ?_
        rotate_left
        · (try dsimp only at hSw); go_simp; (try with_reducible rfl)
        try simp only [List.getElem_toArray, List.getElem_cons_succ, List.getElem_cons_zero, Act.put, List.setIfInBounds_toArray, List.set_cons_zero, List.set_cons_succ]
        refine wpAnyH_take (i := 11) (v := ?_) rfl (by kernel_rfl) (by kernel_rfl) (by kernel_rfl) (fun _ _ _ h => h) (Or.inl ⟨by rfl, fun w hSw => ?_⟩) (by assumption) ?_
        rotate_left
        · (try dsimp only at hSw); go_simp; (try with_reducible rfl)
        try simp only [List.getElem_toArray, List.getElem_cons_succ, List.getElem_cons_zero, Act.put, List.setIfInBounds_toArray, List.set_cons_zero, List.set_cons_succ]
        refine wpAnyH_ready (rs := [13]) (by kernel_rfl) (by simp) ?_
        refine AllReadyH.cons rfl (fun K hK => ?_) ?_
        · go_simp
          have HN3 := Lib.hid (HN2.out.on (Cmd.below_one W2 (.cells #[.bool false, .float .f64 0] 30)))
          have B83 := Lib.hid (Bx.new W2 false 0)
          have hge8 : w.heap.size + 1 + 1 < W2.heap.size := HN2.out.lt
          have hne : W0.heap.size ≠ W2.heap.size := Nat.ne_of_lt B72.out.lt
          have B73 := Lib.hid (B72.out.alloc (.cells #[.bool false, .float .f64 0] 30))
          refine hK.out _ _ ?_ (fun hHeld => ?_)
          · exact HS.out _ HN3.out
          clear hK K
          generalize W2.alloc (.cells #[.bool false, .float .f64 0] 30) = W3 at HN3 B83 B73 hHeld ⊢
          try simp only [List.getElem_toArray, List.getElem_cons_succ, List.getElem_cons_zero, Act.put, List.setIfInBounds_toArray, List.set_cons_zero, List.set_cons_succ]
          refine wpAnyH_ready (rs := [14]) (by kernel_rfl) (by simp) ?_
          refine AllReadyH.cons rfl (fun K hK => ?_) ?_
          · obtain ⟨x0, x1, x2, x3⟩ := B73.out.facts
            go_simp
            have HN4 := Lib.hid (HN3.out.under (((Below.refl W0.heap.size W3).setCell (p := ⟨W0.heap.size, 0, none⟩) (Nat.le_refl _) (.bool f1)).setCell (p := ⟨W0.heap.size, 1, none⟩) (Nat.le_refl _) (.float .f64 z1)) hge7)
            have B74 := Lib.hid (B73.out.put f1 z1)
            have B84 := Lib.hid ((B83.out.far (c := W0.heap.size) (by omega) 0 (.bool f1)).far (c := W0.heap.size) (by omega) 1 (.float .f64 z1))
            refine hK.out _ _ ?_ (fun hHeld => ?_)
            · exact HS.out _ HN4.out
            clear hK K
            generalize ((W3.setCell ⟨W0.heap.size, 0, none⟩ (.bool f1)).setCell ⟨W0.heap.size, 1, none⟩ (.float .f64 z1)) = W4 at HN4 B74 B84 hHeld ⊢
            try simp only [List.getElem_toArray, List.getElem_cons_succ, List.getElem_cons_zero, Act.put, List.setIfInBounds_toArray, List.set_cons_zero, List.set_cons_succ]
            refine wpAnyH_ready (rs := [15]) (by kernel_rfl) (by simp) ?_
            refine AllReadyH.cons rfl (fun K hK => ?_) ?_
            · obtain ⟨x0, x1, x2, x3⟩ := B84.out.facts
              go_simp
              have HN5 := Lib.hid (HN4.out.under (((Below.refl W2.heap.size W4).setCell (p := ⟨W2.heap.size, 0, none⟩) (Nat.le_refl _) (.bool f2)).setCell (p := ⟨W2.heap.size, 1, none⟩) (Nat.le_refl _) (.float .f64 z2)) hge8)
              have B85 := Lib.hid (B84.out.put f2 z2)
              have B75 := Lib.hid ((B74.out.far (c := W2.heap.size) (by omega) 0 (.bool f2)).far (c := W2.heap.size) (by omega) 1 (.float .f64 z2))
              refine hK.out _ _ ?_ (fun hHeld => ?_)
              · exact HS.out _ HN5.out
              clear hK K
              generalize ((W4.setCell ⟨W2.heap.size, 0, none⟩ (.bool f2)).setCell ⟨W2.heap.size, 1, none⟩ (.float .f64 z2)) = W5 at HN5 B85 B75 hHeld ⊢
              try simp only [List.getElem_toArray, List.getElem_cons_succ, List.getElem_cons_zero, Act.put, List.setIfInBounds_toArray, List.set_cons_zero, List.set_cons_succ]
              refine wpAnyH_done (by kernel_rfl) ?_ _
              go_wp2_with fail
              go_meet
              case rel => exact ⟨_, _, f1, z1, f2, z2, rfl, rfl, hge7, hge8, HN5, B75, B85, HF1, HF2⟩
            exact AllReadyH.nil
          exact AllReadyH.nil
        exact AllReadyH.nil
      refine AllReadyH.cons rfl (fun K hK => ?_) ?_
      · go_simp
        have HN2 := Lib.hid (HN1.out.on (Cmd.below_one W1 (.cells #[.bool false, .float .f64 0] 30)))
        have B82 := Lib.hid (Bx.new W1 false 0)
        have hge8 : w.heap.size + 1 + 1 < W1.heap.size := HN1.out.lt
        have hne : W0.heap.size ≠ W1.heap.size := Nat.ne_of_lt B71.out.lt
        have B72 := Lib.hid (B71.out.alloc (.cells #[.bool false, .float .f64 0] 30))
        refine hK.out _ _ ?_ (fun hHeld => ?_)
        · exact HS.out _ HN2.out
        clear hK K
        generalize W1.alloc (.cells #[.bool false, .float .f64 0] 30) = W2 at HN2 B82 B72 hHeld ⊢
        try simp only [List.getElem_toArray, List.getElem_cons_succ, List.getElem_cons_zero, Act.put, List.setIfInBounds_toArray, List.set_cons_zero, List.set_cons_succ]
        refine wpAnyH_ready (rs := [8]) (by kernel_rfl) (by simp) ?_
        refine AllReadyH.cons rfl (fun K hK => ?_) ?_
        · go_simp
          (go_at_call 39; (with_reducible refine (CD.out _).mono ?_); rintro E W3 ⟨f1, z1, f2, z2, rfl, h1, h2, hb⟩; have HF1 := Lib.hid h1; have HF2 := Lib.hid h2; have HN3 := Lib.hid (HN2.out.on hb); have B73 := Lib.hid (B72.out.on hb); have B83 := Lib.hid (B82.out.on hb); clear h1 h2 hb)
          refine hK.out _ _ ?_ (fun hHeld => ?_)
          · exact HS.out _ HN3.out
          clear hK K
          try simp only [List.getElem_toArray, List.getElem_cons_succ, List.getElem_cons_zero, Act.put, List.setIfInBounds_toArray, List.set_cons_zero, List.set_cons_succ]
          refine wpAnyH_take (i := 9) (v := ?_) rfl (by kernel_rfl) (by kernel_rfl) (by kernel_rfl) (fun _ _ _ h => h) (Or.inl ⟨by rfl, fun w hSw => ?_⟩) (by assumption) ?_
          rotate_left
          · (try dsimp only at hSw); go_simp; (try with_reducible rfl)
          try simp only [List.getElem_toArray, List.getElem_cons_succ, List.getElem_cons_zero, Act.put, List.setIfInBounds_toArray, List.set_cons_zero, List.set_cons_succ]
          refine wpAnyH_take (i := 10) (v := ?_) rfl (by kernel_rfl) (by kernel_rfl) (by kernel_rfl) (fun _ _ _ h => h) (Or.inl ⟨by rfl, fun w hSw => ?_⟩) (by assumption) ?_
          rotate_left
          · (try dsimp only at hSw); go_simp; (try with_reducible rfl)
          try simp only [List.getElem_toArray, List.getElem_cons_succ, List.getElem_cons_zero, Act.put, List.setIfInBounds_toArray, List.set_cons_zero, List.set_cons_succ]
          refine wpAnyH_take (i := 11) (v := ?_) rfl (by kernel_rfl) (by kernel_rfl) (by kernel_rfl) (fun _ _ _ h => h) (Or.inl ⟨by rfl, fun w hSw => ?_⟩) (by assumption) ?_
          rotate_left
          · (try dsimp only at hSw); go_simp; (try with_reducible rfl)
          try simp only [List.getElem_toArray, List.getElem_cons_succ, List.getElem_cons_zero, Act.put, List.setIfInBounds_toArray, List.set_cons_zero, List.set_cons_succ]
          refine wpAnyH_ready (rs := [14]) (by kernel_rfl) (by simp) ?_
          refine AllReadyH.cons rfl (fun K hK => ?_) ?_
          · obtain ⟨x0, x1, x2, x3⟩ := B73.out.facts
            go_simp
            have HN4 := Lib.hid (HN3.out.under (((Below.refl W0.heap.size W3).setCell (p := ⟨W0.heap.size, 0, none⟩) (Nat.le_refl _) (.bool f1)).setCell (p := ⟨W0.heap.size, 1, none⟩) (Nat.le_refl _) (.float .f64 z1)) hge7)
            have B74 := Lib.hid (B73.out.put f1 z1)
            have B84 := Lib.hid ((B83.out.far (c := W0.heap.size) (by omega) 0 (.bool f1)).far (c := W0.heap.size) (by omega) 1 (.float .f64 z1))
            refine hK.out _ _ ?_ (fun hHeld => ?_)
            · exact HS.out _ HN4.out
            clear hK K
            generalize ((W3.setCell ⟨W0.heap.size, 0, none⟩ (.bool f1)).setCell ⟨W0.heap.size, 1, none⟩ (.float .f64 z1)) = W4 at HN4 B74 B84 hHeld ⊢
            try simp only [List.getElem_toArray, List.getElem_cons_succ, List.getElem_cons_zero, Act.put, List.setIfInBounds_toArray, List.set_cons_zero, List.set_cons_succ]
            refine wpAnyH_ready (rs := [15]) (by kernel_rfl) (by simp) ?_
            refine AllReadyH.cons rfl (fun K hK => ?_) ?_
            · obtain ⟨x0, x1, x2, x3⟩ := B84.out.facts
              go_simp
              have HN5 := Lib.hid (HN4.out.under (((Below.refl W1.heap.size W4).setCell (p := ⟨W1.heap.size, 0, none⟩) (Nat.le_refl _) (.bool f2)).setCell (p := ⟨W1.heap.size, 1, none⟩) (Nat.le_refl _) (.float .f64 z2)) hge8)
              have B85 := Lib.hid (B84.out.put f2 z2)
              have B75 := Lib.hid ((B74.out.far (c := W1.heap.size) (by omega) 0 (.bool f2)).far (c := W1.heap.size) (by omega) 1 (.float .f64 z2))
              refine hK.out _ _ ?_ (fun hHeld => ?_)
              · exact HS.out _ HN5.out
              clear hK K
              generalize ((W4.setCell ⟨W1.heap.size, 0, none⟩ (.bool f2)).setCell ⟨W1.heap.size, 1, none⟩ (.float .f64 z2)) = W5 at HN5 B85 B75 hHeld ⊢
              try simp only [List.getElem_toArray, List.getElem_cons_succ, List.getElem_cons_zero, Act.put, List.setIfInBounds_toArray, List.set_cons_zero, List.set_cons_succ]
              refine wpAnyH_done (by kernel_rfl) ?_ _
              go_wp2_with fail
              go_meet
              case rel => exact ⟨_, _, f1, z1, f2, z2, rfl, rfl, hge7, hge8, HN5, B75, B85, HF1, HF2⟩
            exact AllReadyH.nil
          exact AllReadyH.nil
        exact AllReadyH.nil
      exact AllReadyH.nil
    refine AllReadyH.cons rfl (fun K hK => ?_) ?_
    · go_simp
      have HN1 := Lib.hid (HN0.out.on (Cmd.below_one W0 (.cells #[.bool false, .float .f64 0] 30)))
      have B81 := Lib.hid (Bx.new W0 false 0)
      have hge8 : w.heap.size + 1 + 1 < W0.heap.size := HN0.out.lt
      refine hK.out _ _ ?_ (fun hHeld => ?_)
      · exact HS.out _ HN1.out
      clear hK K
      generalize W0.alloc (.cells #[.bool false, .float .f64 0] 30) = W1 at HN1 B81 hHeld ⊢
      try simp only [List.getElem_toArray, List.getElem_cons_succ, List.getElem_cons_zero, Act.put, List.setIfInBounds_toArray, List.set_cons_zero, List.set_cons_succ]
      refine wpAnyH_ready (rs := [8, 12]) (by kernel_rfl) (by simp) ?_
      refine AllReadyH.cons rfl (fun K hK => ?_) ?_
      · go_simp
        (go_at_call 39; (with_reducible refine (CD.out _).mono ?_); rintro E W2 ⟨f1, z1, f2, z2, rfl, h1, h2, hb⟩; have HF1 := Lib.hid h1; have HF2 := Lib.hid h2; have HN2 := Lib.hid (HN1.out.on hb); have B82 := Lib.hid (B81.out.on hb); clear h1 h2 hb)
        refine hK.out _ _ ?_ (fun hHeld => ?_)
        · exact HS.out _ HN2.out
        clear hK K
        try simp only [List.getElem_toArray, List.getElem_cons_succ, List.getElem_cons_zero, Act.put, List.setIfInBounds_toArray, List.set_cons_zero, List.set_cons_succ]
        refine wpAnyH_take (i := 9) (v := ?_) rfl (by kernel_rfl) (by kernel_rfl) (by kernel_rfl) (fun _ _ _ h => h) (Or.inl ⟨by rfl, fun w hSw => ?_⟩) (by assumption) ?_
        rotate_left
        · (try dsimp only at hSw); go_simp; (try with_reducible rfl)
        try simp only [List.getElem_toArray, List.getElem_cons_succ, List.getElem_cons_zero, Act.put, List.setIfInBounds_toArray, List.set_cons_zero, List.set_cons_succ]
        refine wpAnyH_take (i := 10) (v := ?_) rfl (by kernel_rfl) (by kernel_rfl) (by kernel_rfl) (fun _ _ _ h => h) (Or.inl ⟨by rfl, fun w hSw => ?_⟩) (by assumption) ?_
        rotate_left
        · (try dsimp only at hSw); go_simp; (try with_reducible rfl)
        try simp only [List.getElem_toArray, List.getElem_cons_succ, List.getElem_cons_zero, Act.put, List.setIfInBounds_toArray, List.set_cons_zero, List.set_cons_succ]
        refine wpAnyH_take (i := 11) (v := ?_) rfl (by kernel_rfl) (by kernel_rfl) (by kernel_rfl) (fun _ _ _ h => h) (Or.inl ⟨by rfl, fun w hSw => ?_⟩) (by assumption) ?_
        rotate_left
        · (try dsimp only at hSw); go_simp; (try with_reducible rfl)
        try simp only [List.getElem_toArray, List.getElem_cons_succ, List.getElem_cons_zero, Act.put, List.setIfInBounds_toArray, List.set_cons_zero, List.set_cons_succ]
        refine wpAnyH_ready (rs := [12]) (by kernel_rfl) (by simp) ?_
        refine AllReadyH.cons rfl (fun K hK => ?_) ?_
        · go_simp
          have HN3 := Lib.hid (HN2.out.on (Cmd.below_one W2 (.cells #[.bool false, .float .f64 0] 30)))
          have B73 := Lib.hid (Bx.new W2 false 0)
          have hge7 : w.heap.size + 1 + 1 < W2.heap.size := HN2.out.lt
          have hne : W0.heap.size ≠ W2.heap.size := Nat.ne_of_lt B82.out.lt
          have B83 := Lib.hid (B82.out.alloc (.cells #[.bool false, .float .f64 0] 30))
          refine hK.out _ _ ?_ (fun hHeld => ?_)
          · exact HS.out _ HN3.out
          clear hK K
          generalize W2.alloc (.cells #[.bool false, .float .f64 0] 30) = W3 at HN3 B73 B83 hHeld ⊢
          try simp only [List.getElem_toArray, List.getElem_cons_succ, List.getElem_cons_zero, Act.put, List.setIfInBounds_toArray, List.set_cons_zero, List.set_cons_succ]
          refine wpAnyH_ready (rs := [14]) (by kernel_rfl) (by simp) ?_
          refine AllReadyH.cons rfl (fun K hK => ?_) ?_
          · obtain ⟨x0, x1, x2, x3⟩ := B73.out.facts
            go_simp
            have HN4 := Lib.hid (HN3.out.under (((Below.refl W2.heap.size W3).setCell (p := ⟨W2.heap.size, 0, none⟩) (Nat.le_refl _) (.bool f1)).setCell (p := ⟨W2.heap.size, 1, none⟩) (Nat.le_refl _) (.float .f64 z1)) hge7)
            have B74 := Lib.hid (B73.out.put f1 z1)
            have B84 := Lib.hid ((B83.out.far (c := W2.heap.size) (by omega) 0 (.bool f1)).far (c := W2.heap.size) (by omega) 1 (.float .f64 z1))
            refine hK.out _ _ ?_ (fun hHeld => ?_)
            · exact HS.out _ HN4.out
            clear hK K
            generalize ((W3.setCell ⟨W2.heap.size, 0, none⟩ (.bool f1)).setCell ⟨W2.heap.size, 1, none⟩ (.float .f64 z1)) = W4 at HN4 B74 B84 hHeld ⊢
            try simp only [List.getElem_toArray, List.getElem_cons_succ, List.getElem_cons_zero, Act.put, List.setIfInBounds_toArray, List.set_cons_zero, List.set_cons_succ]
            refine wpAnyH_ready (rs := [15]) (by kernel_rfl) (by simp) ?_
            refine AllReadyH.cons rfl (fun K hK => ?_) ?_
            · obtain ⟨x0, x1, x2, x3⟩ := B84.out.facts
              go_simp
              have HN5 := Lib.hid (HN4.out.under (((Below.refl W0.heap.size W4).setCell (p := ⟨W0.heap.size, 0, none⟩) (Nat.le_refl _) (.bool f2)).setCell (p := ⟨W0.heap.size, 1, none⟩) (Nat.le_refl _) (.float .f64 z2)) hge8)
              have B85 := Lib.hid (B84.out.put f2 z2)
              have B75 := Lib.hid ((B74.out.far (c := W0.heap.size) (by omega) 0 (.bool f2)).far (c := W0.heap.size) (by omega) 1 (.float .f64 z2))
              refine hK.out _ _ ?_ (fun hHeld => ?_)
              · exact HS.out _ HN5.out
              clear hK K
              generalize ((W4.setCell ⟨W0.heap.size, 0, none⟩ (.bool f2)).setCell ⟨W0.heap.size, 1, none⟩ (.float .f64 z2)) = W5 at HN5 B85 B75 hHeld ⊢
              try simp only [List.getElem_toArray, List.getElem_cons_succ, List.getElem_cons_zero, Act.put, List.setIfInBounds_toArray, List.set_cons_zero, List.set_cons_succ]
              refine wpAnyH_done (by kernel_rfl) ?_ _
              go_wp2_with fail
              go_meet
              case rel => exact ⟨_, _, f1, z1, f2, z2, rfl, rfl, hge7, hge8, HN5, B75, B85, HF1, HF2⟩
            exact AllReadyH.nil
          exact AllReadyH.nil
        exact AllReadyH.nil
      refine AllReadyH.cons rfl (fun K hK => ?_) ?_
      · go_simp
        have HN2 := Lib.hid (HN1.out.on (Cmd.below_one W1 (.cells #[.bool false, .float .f64 0] 30)))
        have B72 := Lib.hid (Bx.new W1 false 0)
        have hge7 : w.heap.size + 1 + 1 < W1.heap.size := HN1.out.lt
        have hne : W0.heap.size ≠ W1.heap.size := Nat.ne_of_lt B81.out.lt
        have B82 := Lib.hid (B81.out.alloc (.cells #[.bool false, .float .f64 0] 30))
        refine hK.out _ _ ?_ (fun hHeld => ?_)
        · exact HS.out _ HN2.out
        clear hK K
        generalize W1.alloc (.cells #[.bool false, .float .f64 0] 30) = W2 at HN2 B72 B82 hHeld ⊢
        try simp only [List.getElem_toArray, List.getElem_cons_succ, List.getElem_cons_zero, Act.put, List.setIfInBounds_toArray, List.set_cons_zero, List.set_cons_succ]
        refine wpAnyH_ready (rs := [8]) (by kernel_rfl) (by simp) ?_
        refine AllReadyH.cons rfl (fun K hK => ?_) ?_
        · go_simp
          (go_at_call 39; (with_reducible refine (CD.out _).mono ?_); rintro E W3 ⟨f1, z1, f2, z2, rfl, h1, h2, hb⟩; have HF1 := Lib.hid h1; have HF2 := Lib.hid h2; have HN3 := Lib.hid (HN2.out.on hb); have B73 := Lib.hid (B72.out.on hb); have B83 := Lib.hid (B82.out.on hb); clear h1 h2 hb)
          refine hK.out _ _ ?_ (fun hHeld => ?_)
          · exact HS.out _ HN3.out
          clear hK K
          try simp only [List.getElem_toArray, List.getElem_cons_succ, List.getElem_cons_zero, Act.put, List.setIfInBounds_toArray, List.set_cons_zero, List.set_cons_succ]
          refine wpAnyH_take (i := 9) (v := ?_) rfl (by kernel_rfl) (by kernel_rfl) (by kernel_rfl) (fun _ _ _ h => h) (Or.inl ⟨by rfl, fun w hSw => ?_⟩) (by assumption) ?_
          rotate_left
          · (try dsimp only at hSw); go_simp; (try with_reducible rfl)
          try simp only [List.getElem_toArray, List.getElem_cons_succ, List.getElem_cons_zero, Act.put, List.setIfInBounds_toArray, List.set_cons_zero, List.set_cons_succ]
          refine wpAnyH_take (i := 10) (v := ?_) rfl (by kernel_rfl) (by kernel_rfl) (by kernel_rfl) (fun _ _ _ h => h) (Or.inl ⟨by rfl, fun w hSw => ?_⟩) (by assumption) ?_
          rotate_left
          · (try dsimp only at hSw); go_simp; (try with_reducible rfl)
          try simp only [List.getElem_toArray, List.getElem_cons_succ, List.getElem_cons_zero, Act.put, List.setIfInBounds_toArray, List.set_cons_zero, List.set_cons_succ]
          refine wpAnyH_take (i := 11) (v := ?_) rfl (by kernel_rfl) (by kernel_rfl) (by kernel_rfl) (fun _ _ _ h => h) (Or.inl ⟨by rfl, fun w hSw => ?_⟩) (by assumption) ?_
          rotate_left
          · (try dsimp only at hSw); go_simp; (try with_reducible rfl)
          try simp only [List.getElem_toArray, List.getElem_cons_succ, List.getElem_cons_zero, Act.put, List.setIfInBounds_toArray, List.set_cons_zero, List.set_cons_succ]
          refine wpAnyH_ready (rs := [14]) (by kernel_rfl) (by simp) ?_
          refine AllReadyH.cons rfl (fun K hK => ?_) ?_
          · obtain ⟨x0, x1, x2, x3⟩ := B73.out.facts
            go_simp
            have HN4 := Lib.hid (HN3.out.under (((Below.refl W1.heap.size W3).setCell (p := ⟨W1.heap.size, 0, none⟩) (Nat.le_refl _) (.bool f1)).setCell (p := ⟨W1.heap.size, 1, none⟩) (Nat.le_refl _) (.float .f64 z1)) hge7)
            have B74 := Lib.hid (B73.out.put f1 z1)
            have B84 := Lib.hid ((B83.out.far (c := W1.heap.size) (by omega) 0 (.bool f1)).far (c := W1.heap.size) (by omega) 1 (.float .f64 z1))
            refine hK.out _ _ ?_ (fun hHeld => ?_)
            · exact HS.out _ HN4.out
            clear hK K
            generalize ((W3.setCell ⟨W1.heap.size, 0, none⟩ (.bool f1)).setCell ⟨W1.heap.size, 1, none⟩ (.float .f64 z1)) = W4 at HN4 B74 B84 hHeld ⊢
            try simp only [List.getElem_toArray, List.getElem_cons_succ, List.getElem_cons_zero, Act.put, List.setIfInBounds_toArray, List.set_cons_zero, List.set_cons_succ]
            refine wpAnyH_ready (rs := [15]) (by kernel_rfl) (by simp) ?_
            refine AllReadyH.cons rfl (fun K hK => ?_) ?_
            · obtain ⟨x0, x1, x2, x3⟩ := B84.out.facts
              go_simp
              have HN5 := Lib.hid (HN4.out.under (((Below.refl W0.heap.size W4).setCell (p := ⟨W0.heap.size, 0, none⟩) (Nat.le_refl _) (.bool f2)).setCell (p := ⟨W0.heap.size, 1, none⟩) (Nat.le_refl _) (.float .f64 z2)) hge8)
              have B85 := Lib.hid (B84.out.put f2 z2)
              have B75 := Lib.hid ((B74.out.far (c := W0.heap.size) (by omega) 0 (.bool f2)).far (c := W0.heap.size) (by omega) 1 (.float .f64 z2))
              refine hK.out _ _ ?_ (fun hHeld => ?_)
              · exact HS.out _ HN5.out
              clear hK K
              generalize ((W4.setCell ⟨W0.heap.size, 0, none⟩ (.bool f2)).setCell ⟨W0.heap.size, 1, none⟩ (.float .f64 z2)) = W5 at HN5 B85 B75 hHeld ⊢
              try simp only [List.getElem_toArray, List.getElem_cons_succ, List.getElem_cons_zero, Act.put, List.setIfInBounds_toArray, List.set_cons_zero, List.set_cons_succ]
              refine wpAnyH_done (by kernel_rfl) ?_ _
              go_wp2_with fail
              go_meet
              case rel => exact ⟨_, _, f1, z1, f2, z2, rfl, rfl, hge7, hge8, HN5, B75, B85, HF1, HF2⟩
            exact AllReadyH.nil
          exact AllReadyH.nil
        exact AllReadyH.nil
      exact AllReadyH.nil
    exact AllReadyH.nil
  case rest =>
    obtain ⟨q7, q8, f1, z1, f2, z2, rfl, rfl, h7, h8, HB, X7, X8, HF1, HF2⟩ := hcut
    obtain ⟨c0, c1, c2⟩ := cmd_cells HB.out.c
    obtain ⟨x0, x1, x2, x3⟩ := X7.out.facts
    obtain ⟨y0, y1, y2, y3⟩ := X8.out.facts
    obtain ⟨r0, r1, r2, r3⟩ := HB.out.r.facts
    have HFL : Hid (∀ j, F j → j < w.heap.size) := Lib.hid fun j hj => (HV.out.foot j hj).2
    obtain rfl : f1 = false := HF1.out.found.trans HFD.out
    go_wp2_with (first
      | (go_at_call 48; (with_reducible refine (CW.out _).mono ?_); rintro E w1 ⟨rfl, hb⟩; have HB1 := Lib.hid (HB.out.on hb); have Y7 := Lib.hid (X7.out.on hb); have Y8 := Lib.hid (X8.out.on hb); obtain ⟨d0, d1, d2⟩ := cmd_cells HB1.out.c; obtain ⟨x0, x1, x2, x3⟩ := Y7.out.facts; obtain ⟨y0, y1, y2, y3⟩ := Y8.out.facts; obtain ⟨r0, r1, r2, r3⟩ := HB1.out.r.facts; clear hb)
      | (go_at_call 49; (with_reducible refine (CC.out _).mono ?_); rintro E w2 ⟨rfl, hb⟩; have HB2 := Lib.hid (HB1.out.on hb); have Z7 := Lib.hid (Y7.out.on hb); have Z8 := Lib.hid (Y8.out.on hb); obtain ⟨e0, e1, e2⟩ := cmd_cells HB2.out.c; have V2 := Lib.hid (HV.out.on HB2.out.below); obtain ⟨w4, hst4, hm4, ht4⟩ := MapF.drop V2.out.cm und_mc HKL.out 0; have V4 := Lib.hid (V2.out.cellput ht4 (MapF.mono hm4 (Nat.le_succ _)) (cellIs_set V2.out.ci (fit_none HF1.out))); have O4 : Hid (Only F w2 w4) := Lib.hid (Only.turned ht4 V2.out.fmc); clear hm4 ht4; have gm0 := V2.out.cells.1; obtain ⟨x0, x1, x2, x3⟩ := Z7.out.facts; obtain ⟨y0, y1, y2, y3⟩ := Z8.out.facts; obtain ⟨r0, r1, r2, r3⟩ := HB2.out.r.facts; clear hb))
    clear hst4
    have V5 := Lib.hid V4.out.drew
    have hb5 := Lib.hid (Cmd.below_one w4.drew (.cells #[.int .i64 a, .int .i64 b, .int .i64 p] 63))
    have O5 := Lib.hid ((Only.trans O4.out (Only.drew F w4) (fun k hk => .inl hk)).trans (Only.of F hb5.out) (fun k hk => .inl hk))
    have HWC : Hid (∀ W, Only F w2 W → W.cell? ⟨w.heap.size + 1, 0, none⟩ = some (.int .i64 a) ∧ W.cell? ⟨w.heap.size + 1, 1, none⟩ = some (.int .i64 b) ∧ W.cell? ⟨w.heap.size + 1, 2, none⟩ = some (.int .i64 p)) := Lib.hid fun W ho => wr_cells (HB2.out.only ho HFL.out).1.2
    have HBS : Hid (base ≤ w4.drew.heap.size) := Lib.hid (Nat.le_trans HBA.out (Nat.le_trans HB2.out.below.size (Only.trans O4.out (Only.drew F w4) (fun k hk => .inl hk)).below.size))
    have hlog2 := ((V4.out.on (Cmd.below_one w4 (.cells #[.int .i64 a, .int .i64 b, .int .i64 p] 63))).drew.lm).look und_ml zero_log (s := s) (by have := HKS.out; omega)
    have hlog := (V5.out.lm).look und_ml zero_log (s := s) (by have := HKS.out; omega)
    have HOWN := Lib.hid (V5.out.log s)
    have HLO := Lib.hid (lone_at (D := wdW) (x := ((a, b), p)) (heap_alloc_new w4.drew (.cells #[.int .i64 a, .int .i64 b, .int .i64 p] 63)) rfl)
    refine wp_region_held_drew (S := (fun w' => w'.cell? ⟨g, 1, none⟩ = some (.map (some ml)) ∧ w'.cell? ⟨w.heap.size + 1, 0, none⟩ = some (.int .i64 a) ∧ w'.cell? ⟨w.heap.size + 1, 1, none⟩ = some (.int .i64 b) ∧ w'.cell? ⟨w.heap.size + 1, 2, none⟩ = some (.int .i64 p))) (by kernel_rfl) ⟨V5.out.cells.2.1, HWC.out _ (Only.trans O4.out (Only.drew F w4) (fun k hk => .inl hk))⟩ (fun hHeld => ?_)
    refine wpAnyH_take (i := 0) (v := ?_) rfl (by kernel_rfl) (by kernel_rfl) (by kernel_rfl) (fun _ _ _ h => h) (Or.inl ⟨by rfl, fun w hSw => ?_⟩) (by assumption) ?_
    rotate_left
    · (try dsimp only at hSw); go_simp; (try with_reducible rfl)
    try simp only [List.getElem_toArray, List.getElem_cons_succ, List.getElem_cons_zero, Act.put, List.setIfInBounds_toArray, List.set_cons_zero, List.set_cons_succ]
    refine wpAnyH_take (i := 1) (v := ?_) rfl (by kernel_rfl) (by kernel_rfl) (by kernel_rfl) (fun _ _ _ h => h) (Or.inl ⟨by rfl, fun w hSw => ?_⟩) (by assumption) ?_
    rotate_left
    · (try dsimp only at hSw); go_simp; (try with_reducible rfl)
    try simp only [List.getElem_toArray, List.getElem_cons_succ, List.getElem_cons_zero, Act.put, List.setIfInBounds_toArray, List.set_cons_zero, List.set_cons_succ]
    refine wpAnyH_take (i := 2) (v := ?_) rfl (by kernel_rfl) (by kernel_rfl) (by kernel_rfl) (fun _ _ _ h => h) (Or.inl ⟨by rfl, fun w hSw => ?_⟩) (by assumption) ?_
    rotate_left
    · (try dsimp only at hSw); go_simp; (try with_reducible rfl)
    try simp only [List.getElem_toArray, List.getElem_cons_succ, List.getElem_cons_zero, Act.put, List.setIfInBounds_toArray, List.set_cons_zero, List.set_cons_succ]
    refine wpAnyH_take (i := 3) (v := ?_) rfl (by kernel_rfl) (by kernel_rfl) (by kernel_rfl) (fun _ _ _ h => h) (Or.inl ⟨by rfl, fun w hSw => ?_⟩) (by assumption) ?_
    rotate_left
    · (try dsimp only at hSw); go_simp; (try with_reducible rfl)
    try simp only [List.getElem_toArray, List.getElem_cons_succ, List.getElem_cons_zero, Act.put, List.setIfInBounds_toArray, List.set_cons_zero, List.set_cons_succ]
    refine wpAnyH_take (i := 4) (v := ?_) rfl (by kernel_rfl) (by kernel_rfl) (by kernel_rfl) (fun _ _ _ h => h) (Or.inl ⟨by rfl, fun w hSw => ?_⟩) (by assumption) ?_
    rotate_left
    · (try dsimp only at hSw); go_simp; (try with_reducible rfl)
    try simp only [List.getElem_toArray, List.getElem_cons_succ, List.getElem_cons_zero, Act.put, List.setIfInBounds_toArray, List.set_cons_zero, List.set_cons_succ]
    refine wpAnyH_take (i := 5) (v := ?_) rfl (by kernel_rfl) (by kernel_rfl) (by kernel_rfl) (fun _ _ _ h => h) (Or.inl ⟨by rfl, fun w hSw => ?_⟩) (by assumption) ?_
    rotate_left
    · (try dsimp only at hSw); go_simp; (try with_reducible rfl)
    try simp only [List.getElem_toArray, List.getElem_cons_succ, List.getElem_cons_zero, Act.put, List.setIfInBounds_toArray, List.set_cons_zero, List.set_cons_succ]
    refine wpAnyH_take (i := 6) (v := ?_) rfl (by kernel_rfl) (by kernel_rfl) (by kernel_rfl) (fun _ _ _ h => h) (Or.inl ⟨by rfl, fun w hSw => ?_⟩) (by assumption) ?_
    rotate_left
    · (try dsimp only at hSw); go_simp; (try with_reducible rfl)
    try simp only [List.getElem_toArray, List.getElem_cons_succ, List.getElem_cons_zero, Act.put, List.setIfInBounds_toArray, List.set_cons_zero, List.set_cons_succ]
    refine wpAnyH_take (i := 7) (v := ?_) rfl (by kernel_rfl) (by kernel_rfl) (by kernel_rfl) (fun _ _ _ h => h) (Or.inl ⟨by rfl, fun w hSw => ?_⟩) (by assumption) ?_
    rotate_left
    · (try dsimp only at hSw); go_simp; (try with_reducible rfl)
    try simp only [List.getElem_toArray, List.getElem_cons_succ, List.getElem_cons_zero, Act.put, List.setIfInBounds_toArray, List.set_cons_zero, List.set_cons_succ]
    refine wpAnyH_take (i := 8) (v := ?_) rfl (by kernel_rfl) (by kernel_rfl) (by kernel_rfl) (fun _ _ _ h => h) (Or.inl ⟨by rfl, fun w hSw => ?_⟩) (by assumption) ?_
    rotate_left
    · (try dsimp only at hSw); go_simp; (try with_reducible rfl)
    try simp only [List.getElem_toArray, List.getElem_cons_succ, List.getElem_cons_zero, Act.put, List.setIfInBounds_toArray, List.set_cons_zero, List.set_cons_succ]
    refine wpAnyH_take (i := 9) (v := ?_) rfl (by kernel_rfl) (by kernel_rfl) (by kernel_rfl) (fun _ _ _ h => h) (Or.inl ⟨by rfl, fun w hSw => ?_⟩) (by assumption) ?_
    rotate_left
    · (try dsimp only at hSw); go_simp; (try with_reducible rfl)
    try simp only [List.getElem_toArray, List.getElem_cons_succ, List.getElem_cons_zero, Act.put, List.setIfInBounds_toArray, List.set_cons_zero, List.set_cons_succ]
    refine wpAnyH_take (i := 11) (v := ?_) rfl (by kernel_rfl) (by kernel_rfl) (by kernel_rfl) (fun _ _ _ h => h) (Or.inl ⟨by rfl, fun w hSw => ?_⟩) (by assumption) ?_
    rotate_left
    · (try dsimp only at hSw); go_simp; (try with_reducible rfl)
    try simp only [List.getElem_toArray, List.getElem_cons_succ, List.getElem_cons_zero, Act.put, List.setIfInBounds_toArray, List.set_cons_zero, List.set_cons_succ]
    refine wpAnyH_ready (rs := [10, 12]) (by kernel_rfl) (by simp) ?_
    refine AllReadyH.cons rfl (fun K hK => ?_) ?_
    · go_simp
      skip
      refine hK.out _ _ ?_ (fun hHeld => ?_)
      · exact hHeld
      clear hK K
      try simp only [List.getElem_toArray, List.getElem_cons_succ, List.getElem_cons_zero, Act.put, List.setIfInBounds_toArray, List.set_cons_zero, List.set_cons_succ]
      refine wpAnyH_ready (rs := [12]) (by kernel_rfl) (by simp) ?_
      refine AllReadyH.cons rfl (fun K hK => ?_) ?_
      rotate_left
      · exact AllReadyH.nil
      go_simp
      skip
      refine hK.out _ _ ?_ (fun hHeld => ?_)
      · exact ⟨(V5.out.on hb5.out).cells.2.1, HWC.out _ O5.out⟩
      clear hK K
      try simp only [List.getElem_toArray, List.getElem_cons_succ, List.getElem_cons_zero, Act.put, List.setIfInBounds_toArray, List.set_cons_zero, List.set_cons_succ]
      refine wpAnyH_ready (rs := [13]) (by kernel_rfl) (by simp) ?_
      refine AllReadyH.cons rfl (fun K hK => ?_) ?_
      rotate_left
      · exact AllReadyH.nil
      refine step_one (by kernel_rfl) _ _ rfl base _ _ rfl (Wd.Own.below HOWN.out hb5.out) (Nat.le_trans HBS.out hb5.out.size) _ ((a, b), p) rfl HLO.out (by have := HLEN.out; omega) ?_
      intro v6 w6 HV6 HG6 HN6
      have HM6 := Lib.hid (V5.out.mid hb5.out HG6.out)
      have O6 := Lib.hid (O5.out.trans (Only.row (F := F) HG6.out (fun k hk => (V5.out.logown s hk).1)) (fun k hk => .inl hk))
      obtain ⟨w7, hst7, hm7, ht7⟩ := MapF.store HM6.out.2 und_ml (by have := HNN.out; omega) HKS.out v6
      have HMF := Lib.hid hm7
      have HT7 := Lib.hid ht7
      clear hm7 ht7
      have HP7 := Lib.hid (V5.out.logput hb5.out HV6.out HG6.out HN6.out HT7.out HMF.out HBS.out)
      have O7 := Lib.hid ((Only.trans O4.out (Only.drew F w4) (fun k hk => .inl hk)).trans HP7.out.2 (fun k hk => .inl hk))
      refine hK.out _ _ ?_ (fun hHeld => ?_)
      · exact ⟨HM6.out.1, HWC.out _ O6.out⟩
      clear hK K
      try simp only [List.getElem_toArray, List.getElem_cons_succ, List.getElem_cons_zero, Act.put, List.setIfInBounds_toArray, List.set_cons_zero, List.set_cons_succ]
      refine wpAnyH_ready (rs := [14]) (by kernel_rfl) (by simp) ?_
      refine AllReadyH.cons rfl (fun K hK => ?_) ?_
      rotate_left
      · exact AllReadyH.nil
      go_simp
      skip
      refine hK.out _ _ ?_ (fun hHeld => ?_)
      · exact ⟨HP7.out.1.cells.2.1, HWC.out _ O7.out⟩
      clear hK K
      try simp only [List.getElem_toArray, List.getElem_cons_succ, List.getElem_cons_zero, Act.put, List.setIfInBounds_toArray, List.set_cons_zero, List.set_cons_succ]
      refine wpAnyH_done (by kernel_rfl) ?_ _
      have G8 := Lib.hid (Z8.out.same (O7.out.block _ Z8.out.lt (fun e => by have := HFL.out _ e; omega)))
      have GR := Lib.hid (HB2.out.only O7.out HFL.out).2
      obtain ⟨y0, y1, y2, y3⟩ := G8.out.facts
      obtain ⟨r0, r1, r2, r3⟩ := GR.out.facts
      go_wp2_with fail
      have P := GR.out.put f2 z2
      obtain ⟨d0, d1, -, -⟩ := P.facts
      exact bodyPost_ret (cell_result rfl _ rfl d0 d1) rfl ⟨f2, z2, rfl, HF2.out, vdo_end (w2 := w2) (n := w4.drew.heap.size) (by have := HB2.out.below.size; have := O4.out.below.size; simp only [World.size_drew] at *; omega) HB2.out.below HP7.out.1 O7.out HBA.out (w.heap.size + 1 + 1) (by have := HB2.out.lt; have := O4.out.below.size; simp only [World.size_drew] at *; omega) (by omega) HFL.out _ _ rfl⟩
    refine AllReadyH.cons rfl (fun K hK => ?_) ?_
    · go_simp
      skip
      refine hK.out _ _ ?_ (fun hHeld => ?_)
      · exact ⟨(V5.out.on hb5.out).cells.2.1, HWC.out _ O5.out⟩
      clear hK K
      try simp only [List.getElem_toArray, List.getElem_cons_succ, List.getElem_cons_zero, Act.put, List.setIfInBounds_toArray, List.set_cons_zero, List.set_cons_succ]
      refine wpAnyH_ready (rs := [10]) (by kernel_rfl) (by simp) ?_
      refine AllReadyH.cons rfl (fun K hK => ?_) ?_
      rotate_left
      · exact AllReadyH.nil
      go_simp
      skip
      refine hK.out _ _ ?_ (fun hHeld => ?_)
      · exact hHeld
      clear hK K
      try simp only [List.getElem_toArray, List.getElem_cons_succ, List.getElem_cons_zero, Act.put, List.setIfInBounds_toArray, List.set_cons_zero, List.set_cons_succ]
      refine wpAnyH_ready (rs := [13]) (by kernel_rfl) (by simp) ?_
      refine AllReadyH.cons rfl (fun K hK => ?_) ?_
      rotate_left
      · exact AllReadyH.nil
      refine step_one (by kernel_rfl) _ _ rfl base _ _ rfl (Wd.Own.below HOWN.out hb5.out) (Nat.le_trans HBS.out hb5.out.size) _ ((a, b), p) rfl HLO.out (by have := HLEN.out; omega) ?_
      intro v6 w6 HV6 HG6 HN6
      have HM6 := Lib.hid (V5.out.mid hb5.out HG6.out)
      have O6 := Lib.hid (O5.out.trans (Only.row (F := F) HG6.out (fun k hk => (V5.out.logown s hk).1)) (fun k hk => .inl hk))
      obtain ⟨w7, hst7, hm7, ht7⟩ := MapF.store HM6.out.2 und_ml (by have := HNN.out; omega) HKS.out v6
      have HMF := Lib.hid hm7
      have HT7 := Lib.hid ht7
      clear hm7 ht7
      have HP7 := Lib.hid (V5.out.logput hb5.out HV6.out HG6.out HN6.out HT7.out HMF.out HBS.out)
      have O7 := Lib.hid ((Only.trans O4.out (Only.drew F w4) (fun k hk => .inl hk)).trans HP7.out.2 (fun k hk => .inl hk))
      refine hK.out _ _ ?_ (fun hHeld => ?_)
      · exact ⟨HM6.out.1, HWC.out _ O6.out⟩
      clear hK K
      try simp only [List.getElem_toArray, List.getElem_cons_succ, List.getElem_cons_zero, Act.put, List.setIfInBounds_toArray, List.set_cons_zero, List.set_cons_succ]
      refine wpAnyH_ready (rs := [14]) (by kernel_rfl) (by simp) ?_
      refine AllReadyH.cons rfl (fun K hK => ?_) ?_
      rotate_left
      · exact AllReadyH.nil
      go_simp
      skip
      refine hK.out _ _ ?_ (fun hHeld => ?_)
      · exact ⟨HP7.out.1.cells.2.1, HWC.out _ O7.out⟩
      clear hK K
      try simp only [List.getElem_toArray, List.getElem_cons_succ, List.getElem_cons_zero, Act.put, List.setIfInBounds_toArray, List.set_cons_zero, List.set_cons_succ]
      refine wpAnyH_done (by kernel_rfl) ?_ _
      have G8 := Lib.hid (Z8.out.same (O7.out.block _ Z8.out.lt (fun e => by have := HFL.out _ e; omega)))
      have GR := Lib.hid (HB2.out.only O7.out HFL.out).2
      obtain ⟨y0, y1, y2, y3⟩ := G8.out.facts
      obtain ⟨r0, r1, r2, r3⟩ := GR.out.facts
      go_wp2_with fail
      have P := GR.out.put f2 z2
      obtain ⟨d0, d1, -, -⟩ := P.facts
      exact bodyPost_ret (cell_result rfl _ rfl d0 d1) rfl ⟨f2, z2, rfl, HF2.out, vdo_end (w2 := w2) (n := w4.drew.heap.size) (by have := HB2.out.below.size; have := O4.out.below.size; simp only [World.size_drew] at *; omega) HB2.out.below HP7.out.1 O7.out HBA.out (w.heap.size + 1 + 1) (by have := HB2.out.lt; have := O4.out.below.size; simp only [World.size_drew] at *; omega) (by omega) HFL.out _ _ rfl⟩
    exact AllReadyH.nil
end Go.Proofs.Ytdnabghhjlhjoaa.Vau
