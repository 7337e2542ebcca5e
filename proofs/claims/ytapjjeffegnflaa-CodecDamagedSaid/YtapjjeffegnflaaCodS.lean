/- What the document's Read, and the developers' whole (layer 11, codec) have alike: what the record's checks let by; rows that grow, boxes that turn. Conditions: those in each statement. (Written by tools/gen_read.py.) -/
import Derived.Test.YtapjjeffegnflaaCodI
import Derived.Deep.DeepCutAuto
import Derived.Deep.CutBlock
namespace Go.Proofs.Ytapjjeffegnflaa.Cod
open Go.RowKit F64 Cmd Bat Ids Rec Wir Dig
set_option linter.unusedVariables false
set_option linter.unusedSimpArgs false

/-- The commands got: their bits are a number, and those of a command that has none are 0. -/
def GoodC (cs : List Cmdn) : Prop := ∀ c ∈ cs, c.2.2 < 18446744073709551616 ∧ (hasV c.1 = false → c.2.2 = 0)
theorem GoodC.snoc {cs : List Cmdn} {k : Int} {s : List UInt8} {z : Nat} (h : GoodC cs) (hz : z < 18446744073709551616) (hv : hasV k = false → z = 0) : GoodC (cs ++ [(k, s, z)]) := fun c hc => by
  rcases List.mem_append.1 hc with hc | hc
  · exact h c hc
  · rw [List.mem_singleton] at hc; subst hc; exact ⟨hz, hv⟩
theorem no_good : GoodC [] := fun c hc => absurd hc (by simp)
/-- What Read answers: a record as it is read, or what is wrong first. -/
def ReadIs (zs : List UInt8) (W : World) (E : Ending) (W' : World) : Prop :=
  ∃ (a b q : Int) (v u : Value) (e : Nat) (ds : List Idn) (cs : List Cmdn), E = .returned (.tuple #[.agg #[.int .i64 a, .int .i64 b, .int .i64 q, v, u], .int .i64 (e : Int)]) ∧ Below W.heap.size W W' ∧ RowAt W' v ds ∧ layC.Row W' u cs ∧ GoodC cs
    ∧ ((e = 0 ∧ dec zs = .ok (a, b, q, ds, cs.map cmdC)) ∨ (e ≠ 0 ∧ dec zs = .error e ∧ a = 0 ∧ b = 0 ∧ q = 0 ∧ ds = [] ∧ cs = []))
theorem rec_result {fn : Func} {p u' : Tmp} (h : fn.results = #[.cell p 27, .tmp u']) (tmps : Array Value) {W : World} {r : Nat} {x0 x1 x2 : Int} {p3 p4 : Option Addr} {n3 c3 n4 c4 : Nat} {z : Value} (hp : tmps.getD p undef = .pointer (some ⟨r, 0, none⟩)) (hu : tmps.getD u' undef = z) (hb : Five r (.int .i64 x0) (.int .i64 x1) (.int .i64 x2) (.slice p3 n3 c3) (.slice p4 n4 c4) 27 W) :
    (results fn tmps).run Try.prog W = .ok (.tuple #[.agg #[.int .i64 x0, .int .i64 x1, .int .i64 x2, .slice p3 n3 c3, .slice p4 n4 c4], z]) W := by
  obtain ⟨c0, c1, c2, c3', c4'⟩ := hb.cells
  rw [results_cell_tmp h, hp, hu]
  go_simp
abbrev zeroR : Obj := .cells #[.int .i64 0, .int .i64 0, .int .i64 0, .slice none 0 0, .slice none 0 0] 27
theorem nil_ids (W : World) : RowAt W (.slice none 0 0) [] := ⟨none, 0, rfl, Nat.le_refl _, by omega, fun _ => rfl, fun h => absurd rfl h⟩
theorem nil_cmds (W : World) : layC.Row W (.slice none 0 0) [] := ⟨none, 0, rfl, Nat.le_refl _, by omega, fun h => absurd rfl h⟩
theorem two_cells_set (w : World) (a : Addr) (v x y : Value) (t : TypeId) : ∀ j u, [x, y][j]? = some u → ((w.setCell a v).alloc (.cells #[x, y] t)).cell? ((⟨w.heap.size, 0, none⟩ : Addr).add j) = some u := by
  have h := two_cells (w.setCell a v) x y t
  rw [show (w.setCell a v).heap.size = w.heap.size by simp] at h
  exact h
theorem St.grown {w : World} {g : Nat} {ys : List UInt8} {e : Nat} {a b q : Int} {v u : Value} {W : World} (h : St w g (g + 1) ys e a b q v u W) {size n : Nat} {t : TypeId} {l : Value} {xs : List Value} (ho : W.ownsRow (g + 2) t size l n xs) (o : Obj) {W' : World} (hg : (W.alloc o).grownBy W' l.ownBlock) : St w g (g + 1) ys e a b q v u W' :=
  (h.alloc o).under (below_grown (Below.refl (g + 2) (W.alloc o)) (Nat.le_refl _) (World.ownsRow.alloc ho o) (by have := h.box.lt; simp; omega) hg) (Nat.lt_succ_self _)
theorem gb_le {W W' : World} {r : Option Nat} {B : Nat} (h : W.grownBy W' r) (hB : B ≤ W.heap.size) : B ≤ W'.heap.size := by
  obtain ⟨-, -, -, h4, -⟩ := h
  exact Nat.le_trans hB h4
theorem gb_leA {W W' : World} {o : Obj} {r : Option Nat} {B : Nat} (h : (W.alloc o).grownBy W' r) (hB : B ≤ W.heap.size) : B ≤ W'.heap.size := gb_le h (by rw [World.size_alloc]; omega)
theorem St.grownB {w : World} {g : Nat} {ys : List UInt8} {e : Nat} {a b q : Int} {v u : Value} {W : World} (h : St w g (g + 1) ys e a b q v u W) {B size n : Nat} {t : TypeId} {l : Value} {xs : List Value} (hB : g + 2 ≤ B) (ho : W.ownsRow B t size l n xs) (hs : B ≤ W.heap.size) (o : Obj) {W' : World} (hg : (W.alloc o).grownBy W' l.ownBlock) : St w g (g + 1) ys e a b q v u W' :=
  (h.alloc o).under (below_grown (Below.refl B (W.alloc o)) (Nat.le_refl _) (World.ownsRow.alloc ho o) (by simp; omega) hg) (by omega)
theorem own_apartB {W : World} {B size n : Nat} {t : TypeId} {l : Value} {xs : List Value} (ho : W.ownsRow B t size l n xs) {base size' n' : Nat} {t' : TypeId} {l' : Value} {xs' : List Value} (h : W.ownsRow base t' size' l' n' xs') (hb : ∀ k, l'.ownBlock = some k → k < B) (o : Obj) {W' : World} (hg : (W.alloc o).grownBy W' l.ownBlock) : W'.ownsRow base t' size' l' n' xs' :=
  World.ownsRow.kept (World.ownsRow.alloc h o) hg (by
    cases hv : l'.ownBlock with
    | none => exact .inl rfl
    | some k =>
      right; intro e
      have h1 := (World.ownsRow.lt ho k e.symm).1
      have h2 := hb k hv
      omega)
/-- append of a command to a row of the call's own, at a step of a drawn region. -/
theorem step_cmd {ops : Array Oper} {o : Oper} {a : Act} {W : World} {K : Act → World → Prop} {Q : Exit → Act → World → Prop} {E : Prop}
    (hw : Region.wanted o (yielded ops a.tmps) = true) (s x : Operand) (ho : o.op = .call { callee := .builtin .append, args := #[s, x], argTypes := #[25, 25] })
    (B n : Nat) (pv : Option Addr) (cv : Nat) (cs : List Cmdn) (hn : Hid (cs.length = n)) (hs : a.eval s = .slice pv n cv) (hv : OwnK W B (.slice pv n cv) cs) (hb : B ≤ W.heap.size) (k : Int) (t : List UInt8) (z : Nat) (hx : a.eval x = .slice (some ⟨W.heap.size, 0, none⟩) 1 1) (hl : n ≤ 100)
    (hK : ∀ pw cw w', Hid (OwnK w' B (.slice pw (n + 1) cw) (cs ++ [(k, t, z)])) → Hid ((W.alloc (.cells #[.int .i64 k, .string (str t), .float .f64 z] 59)).grownBy w' (Value.slice pv n cv).ownBlock) → K (a.put o.dst (.slice pw (n + 1) cw)) w') :
    if Region.wanted o (yielded ops a.tmps) = true then Oper.wp Try.prog o a (W.alloc (.cells #[.int .i64 k, .string (str t), .float .f64 z] 59)) K Q else E := by
  obtain ⟨i1, hk0, hy0, hy1, hy2⟩ := info_parts infoK
  rw [if_pos hw]
  have hn := hn.out
  subst hn
  refine wp_append_own _ s x 25 ho B 59 i1 (.agg #[.int .i64 0, .string ⟨#[]⟩, .float .f64 0]) 3 32 Try.underlying25 hk0 hy0 hy1 hy2 rfl (by decide) _ _ _ hs (World.ownsRow.alloc hv _) ⟨W.heap.size, 0, none⟩ 1 1 [.int .i64 k, .string (str t), .float .f64 z] hx rfl (three_cells _ _ _ _ _) (three_one _ _ _) (by unfold maxLen; omega) (by omega) (by simp; omega) ?_
  intro v1 w1 h1 h2 h3
  have hf := own_form h1
  obtain ⟨pw, cw, rfl⟩ := hf
  exact hK pw cw w1 (Lib.hid (OwnK.snoc h1)) (Lib.hid h2)
theorem cmdC_right {c : Cmdn} (h : hasV c.1 = false → c.2.2 = 0) : right (cmdC c) = right c := by
  obtain ⟨k, s, v⟩ := c
  unfold right cmdC cRight mayV
  simp only [] at h ⊢
  cases hv : hasV k
  · rw [h hv]; rfl
  · have : k = 2 ∨ k = 4 := by unfold hasV at hv; rw [Bool.or_eq_true, beq_iff_eq, beq_iff_eq] at hv; exact hv
    rw [decide_eq_true (by omega), decide_eq_true (by omega)]
theorem berr_map : ∀ {cs : List Cmdn}, GoodC cs → bErr (cs.map cmdC) = bErr cs := by
  intro cs h
  have e : ∀ l : List Cmdn, (∀ c ∈ l, hasV c.1 = false → c.2.2 = 0) → ((l.map cmdC).any fun x => !right x) = (l.any fun x => !right x) := by
    intro l
    induction l with
    | nil => intro _; rfl
    | cons x l ih =>
      intro hl
      rw [List.map_cons, List.any_cons, List.any_cons, cmdC_right (hl x (by simp)), ih (fun c hc => hl c (by simp [hc]))]
  unfold bErr
  rw [List.length_map, e cs (fun c hc => (h c hc).2)]
theorem rerr_cmdC {a b q : Int} {ds : List Idn} {cs : List Cmdn} (h : GoodC cs) : rErr a b q ds (cs.map cmdC) = rErr a b q ds cs := by unfold rErr; rw [berr_map h]
theorem iderr_nn (x : Idn) : 0 ≤ idErr x := by
  unfold idErr; split
  · split <;> decide
  · decide
theorem deperr_nn (x : Idn) (ds : List Idn) (j : Nat) : 0 ≤ depErr x ds j := by
  unfold depErr
  split
  · exact iderr_nn _
  · split
    · decide
    · split <;> decide
theorem depserr_nn (x : Idn) (ds : List Idn) : 0 ≤ depsErr x ds := by
  unfold depsErr
  split
  · exact deperr_nn _ _ _
  · decide
theorem berr_nn (cs : List Cmdn) : 0 ≤ bErr cs := by
  unfold bErr
  split
  · decide
  · split <;> decide
theorem rerr_nn (a b q : Int) (ds : List Idn) (cs : List Cmdn) : 0 ≤ rErr a b q ds cs := by
  unfold rErr
  split
  · exact iderr_nn _
  · split
    · unfold seqErr; split <;> decide
    · split
      · unfold cntErr; split <;> decide
      · split
        · exact depserr_nn _ _
        · exact berr_nn _
/-- What gmany lets by may be checked. -/
theorem good_wf {m e : Nat} {ys zs : List UInt8} {cs : List Cmdn} (hg : GoodC cs) (h : Lk (gmany gcmd m zs) e (cs.map cmdC) 0 ys) : ∀ x ∈ cs, wfC x := by
  intro x hx
  refine ⟨(hg x hx).1, ?_⟩
  rcases h with ⟨-, h1, -⟩ | ⟨-, -, h1⟩ | ⟨h0, h1⟩
  · have := (many_out (g := gcmd) (p := cmdB) (P := fun c => okC c ∧ cmdC c = c) (fun zs x r h => gcmd_out h) m zs _ ys h1).2.2 (cmdC x) (List.mem_map_of_mem hx)
    have h2 := this.1.2.2.1
    unfold cmdC at h2
    simp only [] at h2
    omega
  · exact absurd rfl h1
  · exact absurd h1.symm h0
theorem cell_five {W : World} {a : Addr} {b : Nat} (h : a.block ≠ b) (x0 x1 x2 x3 x4 : Value) : (((((W.setCell ⟨b, 0, none⟩ x0).setCell ⟨b, 1, none⟩ x1).setCell ⟨b, 2, none⟩ x2).setCell ⟨b, 3, none⟩ x3).setCell ⟨b, 4, none⟩ x4).cell? a = W.cell? a := by
  have e : ∀ (X : World) (i : Nat) (v : Value), (X.setCell ⟨b, i, none⟩ v).cell? a = X.cell? a := fun X i v => by rw [World.cell?_setCell_other]; exact fun e => h (by rw [← e])
  rw [e, e, e, e, e]
theorem Five.drewn {b : Nat} {x0 x1 x2 x3 x4 : Value} {t : TypeId} {W : World} (h : Five b x0 x1 x2 x3 x4 t W) : Five b x0 x1 x2 x3 x4 t W.drew := h.same rfl
theorem five_fin_drew {b : Nat} {x0 x1 x2 x3 x4 : Value} {t : TypeId} {W X : World} (F : Five b x0 x1 x2 x3 x4 t X) (B : Below W.heap.size W X) (hb : W.heap.size ≤ b) (y0 y1 y2 y3 y4 : Value) :
    Five b y0 y1 y2 y3 y4 t (((((X.setCell ⟨b, 0, none⟩ y0).setCell ⟨b, 1, none⟩ y1).setCell ⟨b, 2, none⟩ y2).setCell ⟨b, 3, none⟩ y3).setCell ⟨b, 4, none⟩ y4).drew ∧ Below W.heap.size W (((((X.setCell ⟨b, 0, none⟩ y0).setCell ⟨b, 1, none⟩ y1).setCell ⟨b, 2, none⟩ y2).setCell ⟨b, 3, none⟩ y3).setCell ⟨b, 4, none⟩ y4).drew :=
  ⟨(five_fin F B hb y0 y1 y2 y3 y4).1.drewn, (five_fin F B hb y0 y1 y2 y3 y4).2.drew⟩
theorem cell_drew (X : World) (a : Addr) : X.drew.cell? a = X.cell? a := World.cell?_of_block rfl
theorem cell_five_drew {W : World} {a : Addr} {b : Nat} (h : a.block ≠ b) (x0 x1 x2 x3 x4 : Value) : (((((W.setCell ⟨b, 0, none⟩ x0).setCell ⟨b, 1, none⟩ x1).setCell ⟨b, 2, none⟩ x2).setCell ⟨b, 3, none⟩ x3).setCell ⟨b, 4, none⟩ x4).drew.cell? a = W.cell? a := (cell_drew _ a).trans (cell_five h x0 x1 x2 x3 x4)
theorem own_five {w : World} {base size n c : Nat} {t : TypeId} {v : Value} {xs : List Value} (h : w.ownsRow base t size v n xs) (hc : c < base) (x0 x1 x2 x3 x4 : Value) : (((((w.setCell ⟨c, 0, none⟩ x0).setCell ⟨c, 1, none⟩ x1).setCell ⟨c, 2, none⟩ x2).setCell ⟨c, 3, none⟩ x3).setCell ⟨c, 4, none⟩ x4).ownsRow base t size v n xs :=
  own_far (own_far (own_far (own_far (own_far h hc 0 x0) hc 1 x1) hc 2 x2) hc 3 x3) hc 4 x4
end Go.Proofs.Ytapjjeffegnflaa.Cod
