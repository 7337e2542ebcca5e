/- What a cell is and what a command does to it, plain; what the document's Do, Same, Plain and Text (layer 12, cell) give. Conditions: words of 64 bits; texts of a length that Go reads; Text: the library's tables as they are laid. -/
import Derived.Test.YtdnabghhjlhjoaaRealD
import Derived.Test.YtdnabghhjlhjoaaCmdC
import Derived.Test.YtdnabghhjlhjoaaNan
namespace Go.Proofs.Ytdnabghhjlhjoaa.Cel
open Go.RowKit F64 Cmd
set_option linter.unusedVariables false
set_option linter.unusedSimpArgs false

@[go_sem] theorem run_store_float {P : Program} {w : World} {m : Mode} (a : Addr) (k : FloatKind) (b : Nat) : (store a (.float k b) m).run P w = stored P w a (.float k b) m := run_store P w a _ m rfl

/-! ### Plain -/
abbrev Cell2 := Bool × Nat
/-- A cell without a number has +0. -/
def fz (c : Cell2) : Cell2 := if c.1 then c else (false, 0)
def sumc (a b : Nat) : Nat := match floatBits .add .f64 a b with
  | some r => canon r
  | none => 9221120237041090561
/-- What is there behind a command, and what it tells. -/
def doC (c : Cell2) (k : Int) (s : List UInt8) (x : Nat) : Cell2 × Cell2 :=
  if cRight k s x = false then (fz c, (false, 0)) else if k = 2 then ((true, x), fz c) else if k = 3 then ((false, 0), fz c) else if k = 4 then ((true, sumc (fz c).2 x), (true, sumc (fz c).2 x)) else (fz c, fz c)
def sameC (a b : Cell2) : Bool := a.1 == b.1 && (!a.1 || same a.2 b.2)
/-- Alike: NaNs are one. -/
structure Alike (a b : Cell2) : Prop where
  found : a.1 = b.1
  val : canon a.2 = canon b.2
theorem Alike.refl (a : Cell2) : Alike a a := ⟨rfl, rfl⟩
theorem Alike.symm {a b : Cell2} (h : Alike a b) : Alike b a := ⟨h.found.symm, h.val.symm⟩
theorem Alike.trans {a b c : Cell2} (h : Alike a b) (g : Alike b c) : Alike a c := ⟨h.found.trans g.found, h.val.trans g.val⟩
def Pl (c : Cell2) : Prop := c.1 = false → c.2 = 0
theorem fz_pl (c : Cell2) : Pl (fz c) := by
  intro h; unfold fz at h ⊢; split at h
  · rename_i hc; rw [hc] at h; cases h
  · rename_i hc; rw [if_neg hc]
theorem alike_same {a b : Cell2} (h : Alike a b) : sameC a b = true := by
  unfold sameC same
  rw [h.found, h.val]; simp
theorem same_alike {a b a' b' : Cell2} (h : Alike a a') (g : Alike b b') : sameC a b = sameC a' b' := by
  unfold sameC same
  rw [h.found, h.val, g.found, g.val]
theorem canon_num {a b : Nat} (h : canon a = canon b) : a = b ∨ (isNan a = true ∧ isNan b = true) := by
  unfold canon at h
  cases ha : isNan a <;> cases hb : isNan b <;> rw [ha, hb] at h
  · left; exact h
  · exfalso; simp at h; rw [h] at ha; revert ha; decide
  · exfalso; simp at h; rw [← h] at hb; revert hb; decide
  · right; exact ⟨rfl, rfl⟩
theorem sumc_congr {a b x y : Nat} (h : canon a = canon b) (g : canon x = canon y) : sumc a x = sumc b y := by
  unfold sumc
  rcases canon_num h with rfl | ⟨h1, h2⟩
  · rcases canon_num g with rfl | ⟨g1, g2⟩
    · rfl
    · rw [sum_comm a x, sum_comm a y, sum_nan g1, sum_nan g2]
  · rw [sum_nan h1, sum_nan h2]
theorem fz_alike {a b : Cell2} (h : Alike a b) : Alike (fz a) (fz b) := by
  unfold fz; rw [h.found]; split
  · exact h
  · exact Alike.refl _
/-- A command does the same to cells that are alike. -/
theorem do_alike {a b : Cell2} (h : Alike a b) (k : Int) (s : List UInt8) (x : Nat) : Alike (doC a k s x).1 (doC b k s x).1 ∧ Alike (doC a k s x).2 (doC b k s x).2 := by
  have hf := fz_alike h
  unfold doC
  split
  · exact ⟨hf, Alike.refl _⟩
  · split
    · exact ⟨Alike.refl _, hf⟩
    · split
      · exact ⟨Alike.refl _, hf⟩
      · split
        · have e : sumc (fz a).2 x = sumc (fz b).2 x := sumc_congr hf.val rfl
          simp only [e]; exact ⟨Alike.refl _, Alike.refl _⟩
        · exact ⟨hf, hf⟩

/-! ### What Do gives, whoever does it -/
def cellV (f : Bool) (z : Nat) : Value := .agg #[.bool f, .float .f64 z]
/-- A number that is one, all NaNs alike. -/
structure Fit (f : Bool) (z : Nat) (c : Cell2) : Prop where
  found : f = c.1
  val : canon z = canon c.2
  plain : f = false → z = 0
  lt : z < 18446744073709551616
theorem Fit.alike {f : Bool} {z : Nat} {c : Cell2} (h : Fit f z c) : Alike (f, z) c := ⟨h.found, h.val⟩
def GivesDo (r : Cell2 × Cell2) (w : World) (E : Ending) (w' : World) : Prop := ∃ (f : Bool) (z : Nat) (g : Bool) (y : Nat), E = .returned (.tuple #[.agg #[.bool f, .float .f64 z], .agg #[.bool g, .float .f64 y]]) ∧ Fit f z r.1 ∧ Fit g y r.2 ∧ Below w.heap.size w w'
/-- A block of two cells that is a cell's. -/
theorem do_result {fn : Func} {p q : Tmp} (h : fn.results = #[.cell p 30, .cell q 30]) (tmps : Array Value) {W : World} {b c : Nat} {f g : Bool} {z y : Nat} (hp : tmps.getD p undef = .pointer (some ⟨b, 0, none⟩)) (hq : tmps.getD q undef = .pointer (some ⟨c, 0, none⟩)) (c0 : W.cell? ⟨b, 0, none⟩ = some (.bool f)) (c1 : W.cell? ⟨b, 1, none⟩ = some (.float .f64 z)) (d0 : W.cell? ⟨c, 0, none⟩ = some (.bool g)) (d1 : W.cell? ⟨c, 1, none⟩ = some (.float .f64 y)) :
    (results fn tmps).run Try.prog W = .ok (.tuple #[.agg #[.bool f, .float .f64 z], .agg #[.bool g, .float .f64 y]]) W := by
  have hp' : tmps[p]?.getD undef = .pointer (some ⟨b, 0, none⟩) := by rw [← Array.getD_eq_getD_getElem?]; exact hp
  have hq' : tmps[q]?.getD undef = .pointer (some ⟨c, 0, none⟩) := by rw [← Array.getD_eq_getD_getElem?]; exact hq
  unfold results
  rw [h]
  simp [go_sem, hp', hq', c0, c1, d0, d1, Sem.run_bind, Result.andThen]

/-! ### The document's Do -/
structure Bx (b : Nat) (f : Bool) (z : Nat) (W : World) : Prop where
  blk : W.heap[b]? = some (.cells #[.bool f, .float .f64 z] 30 (0, 0))
theorem Bx.new (W : World) (f : Bool) (z : Nat) : Bx W.heap.size f z (W.alloc (.cells #[.bool f, .float .f64 z] 30)) := ⟨heap_alloc_new W _⟩
theorem Bx.lt {b : Nat} {f : Bool} {z : Nat} {W : World} (h : Bx b f z W) : b < W.heap.size := (Array.getElem?_eq_some_iff.1 h.blk).1
theorem Bx.facts {b : Nat} {f : Bool} {z : Nat} {W : World} (h : Bx b f z W) : W.cell? ⟨b, 0, none⟩ = some (.bool f) ∧ W.cell? ⟨b, 1, none⟩ = some (.float .f64 z) ∧ W.frozen? ⟨b, 0, none⟩ = false ∧ W.frozen? ⟨b, 1, none⟩ = false := by
  have hg := h.blk
  exact ⟨by simp [World.cell?, hg], by simp [World.cell?, hg], by simp [World.frozen?, hg], by simp [World.frozen?, hg]⟩
theorem Bx.same {b : Nat} {f : Bool} {z : Nat} {W W' : World} (h : Bx b f z W) (e : W'.heap[b]? = W.heap[b]?) : Bx b f z W' := ⟨e.trans h.blk⟩
theorem drew_block (W : World) (j : Nat) : W.drew.heap[j]? = W.heap[j]? := rfl
theorem Bx.drewn {b : Nat} {f : Bool} {z : Nat} {W : World} (h : Bx b f z W) : Bx b f z W.drew := h.same (drew_block W b)
theorem Bx.on {b : Nat} {f : Bool} {z : Nat} {W W' : World} (h : Bx b f z W) (hb : Below W.heap.size W W') : Bx b f z W' := h.same (hb.block b h.lt)
theorem Bx.alloc {b : Nat} {f : Bool} {z : Nat} {W : World} (h : Bx b f z W) (o : Obj) : Bx b f z (W.alloc o) := h.on (Cmd.below_one W o)
theorem Bx.far {b : Nat} {f : Bool} {z : Nat} {W : World} (h : Bx b f z W) {c : Nat} (hne : b ≠ c) (i : Nat) (v : Value) : Bx b f z (W.setCell ⟨c, i, none⟩ v) := h.same (Below.heap_setCell W ⟨c, i, none⟩ v b hne)
theorem Bx.put {b : Nat} {f : Bool} {z : Nat} {W : World} (h : Bx b f z W) (g : Bool) (y : Nat) : Bx b g y ((W.setCell ⟨b, 0, none⟩ (.bool g)).setCell ⟨b, 1, none⟩ (.float .f64 y)) := ⟨Go.Joins.block_setCell (Go.Joins.block_setCell h.blk (.bool g)) (.float .f64 y)⟩
theorem Bx.put1 {b : Nat} {f : Bool} {z : Nat} {W : World} (h : Bx b f z W) (y : Nat) : Bx b f y (W.setCell ⟨b, 1, none⟩ (.float .f64 y)) := ⟨Go.Joins.block_setCell h.blk (.float .f64 y)⟩

/-- The four boxes: the cell's, the command's, the two results'. -/
structure Dw (w : World) (f : Bool) (z : Nat) (k : Int) (s : List UInt8) (x : Nat) (W : World) : Prop where
  below : Below w.heap.size w W
  c : Bx w.heap.size f z W
  x : W.heap[w.heap.size + 1]? = some (.cells #[.int .i64 k, .string (str s), .float .f64 x] 48 (0, 0))
  r : Bx (w.heap.size + 1 + 1) false 0 W
  q : Bx (w.heap.size + 1 + 1 + 1) false 0 W
section
variable {w W : World} {f : Bool} {z : Nat} {k : Int} {s : List UInt8} {x : Nat}
abbrev four (w : World) (f : Bool) (z : Nat) (k : Int) (s : List UInt8) (x : Nat) : World := (((w.alloc (.cells #[.bool f, .float .f64 z] 30)).alloc (.cells #[.int .i64 k, .string (str s), .float .f64 x] 48)).alloc (.cells #[.bool false, .float .f64 0] 30)).alloc (.cells #[.bool false, .float .f64 0] 30)
theorem Dw.start (w : World) (f : Bool) (z : Nat) (k : Int) (s : List UInt8) (x : Nat) : Dw w f z k s x (four w f z k s x) := by
  have b1 := Cmd.below_one w (.cells #[.bool f, .float .f64 z] 30)
  refine ⟨((b1.alloc (by simp only [World.size_alloc]; omega) _).alloc (by simp only [World.size_alloc]; omega) _).alloc (by simp only [World.size_alloc]; omega) _, (((Bx.new w f z).alloc _).alloc _).alloc _, ?_, ?_, ?_⟩
  · have e : (w.alloc (.cells #[.bool f, .float .f64 z] 30)).heap.size = w.heap.size + 1 := by simp
    have h := heap_alloc_new (w.alloc (.cells #[.bool f, .float .f64 z] 30)) (.cells #[.int .i64 k, .string (str s), .float .f64 x] 48)
    rw [e] at h
    refine (Below.heap_alloc _ _ _ ?_).trans ((Below.heap_alloc _ _ _ ?_).trans h) <;> simp <;> omega
  · have h := Bx.new ((w.alloc (.cells #[.bool f, .float .f64 z] 30)).alloc (.cells #[.int .i64 k, .string (str s), .float .f64 x] 48)) false 0
    rw [show ((w.alloc (.cells #[.bool f, .float .f64 z] 30)).alloc (.cells #[.int .i64 k, .string (str s), .float .f64 x] 48)).heap.size = w.heap.size + 1 + 1 by simp] at h
    exact h.alloc _
  · have h := Bx.new (((w.alloc (.cells #[.bool f, .float .f64 z] 30)).alloc (.cells #[.int .i64 k, .string (str s), .float .f64 x] 48)).alloc (.cells #[.bool false, .float .f64 0] 30)) false 0
    rw [show (((w.alloc (.cells #[.bool f, .float .f64 z] 30)).alloc (.cells #[.int .i64 k, .string (str s), .float .f64 x] 48)).alloc (.cells #[.bool false, .float .f64 0] 30)).heap.size = w.heap.size + 1 + 1 + 1 by simp] at h
    exact h
theorem Dw.lt (h : Dw w f z k s x W) : w.heap.size + 1 + 1 + 1 < W.heap.size := h.q.lt
theorem Dw.drewn (h : Dw w f z k s x W) : Dw w f z k s x W.drew := ⟨h.below.drew, h.c.drewn, (drew_block W _).trans h.x, h.r.drewn, h.q.drewn⟩
theorem Dw.on (h : Dw w f z k s x W) {W' : World} (hb : Below W.heap.size W W') : Dw w f z k s x W' := by
  have := h.lt
  exact ⟨h.below.trans (hb.mono h.below.size), h.c.on hb, (hb.block _ (by omega)).trans h.x, h.r.on hb, h.q.on hb⟩
theorem Dw.zero (h : Dw w f z k s x W) (y : Nat) : Dw w f y k s x (W.setCell ⟨w.heap.size, 1, none⟩ (.float .f64 y)) :=
  ⟨h.below.setCell (Nat.le_refl _) _, h.c.put1 y, (Below.heap_setCell W ⟨w.heap.size, 1, none⟩ _ _ (by show w.heap.size + 1 ≠ w.heap.size; omega)).trans h.x, h.r.far (by omega) _ _, h.q.far (by omega) _ _⟩
theorem Dw.alloc (h : Dw w f z k s x W) (o : Obj) : Dw w f z k s x (W.alloc o) := h.on (Cmd.below_one W o)
theorem Dw.facts (h : Dw w f z k s x W) : W.cell? ⟨w.heap.size, 0, none⟩ = some (.bool f) ∧ W.cell? ⟨w.heap.size, 1, none⟩ = some (.float .f64 z) ∧ W.frozen? ⟨w.heap.size, 0, none⟩ = false ∧ W.frozen? ⟨w.heap.size, 1, none⟩ = false
    ∧ W.cell? ⟨w.heap.size + 1, 0, none⟩ = some (.int .i64 k) ∧ W.cell? ⟨w.heap.size + 1, 1, none⟩ = some (.string (str s)) ∧ W.cell? ⟨w.heap.size + 1, 2, none⟩ = some (.float .f64 x)
    ∧ W.cell? ⟨w.heap.size + 1 + 1, 0, none⟩ = some (.bool false) ∧ W.cell? ⟨w.heap.size + 1 + 1, 1, none⟩ = some (.float .f64 0) ∧ W.frozen? ⟨w.heap.size + 1 + 1, 0, none⟩ = false ∧ W.frozen? ⟨w.heap.size + 1 + 1, 1, none⟩ = false
    ∧ W.cell? ⟨w.heap.size + 1 + 1 + 1, 0, none⟩ = some (.bool false) ∧ W.cell? ⟨w.heap.size + 1 + 1 + 1, 1, none⟩ = some (.float .f64 0) ∧ W.frozen? ⟨w.heap.size + 1 + 1 + 1, 0, none⟩ = false ∧ W.frozen? ⟨w.heap.size + 1 + 1 + 1, 1, none⟩ = false := by
  obtain ⟨a0, a1, a2, a3⟩ := h.c.facts
  obtain ⟨b0, b1, b2, b3⟩ := h.r.facts
  obtain ⟨d0, d1, d2, d3⟩ := h.q.facts
  have hx := h.x
  exact ⟨a0, a1, a2, a3, by simp [World.cell?, hx], by simp [World.cell?, hx], by simp [World.cell?, hx], b0, b1, b2, b3, d0, d1, d2, d3⟩
/-- The results are written: the first one first. -/
theorem Dw.fin1 (h : Dw w f z k s x W) (f1 f2 : Bool) (z1 z2 : Nat) : Bx (w.heap.size + 1 + 1) f1 z1 ((((W.setCell ⟨w.heap.size + 1 + 1, 0, none⟩ (.bool f1)).setCell ⟨w.heap.size + 1 + 1, 1, none⟩ (.float .f64 z1)).setCell ⟨w.heap.size + 1 + 1 + 1, 0, none⟩ (.bool f2)).setCell ⟨w.heap.size + 1 + 1 + 1, 1, none⟩ (.float .f64 z2))
    ∧ Bx (w.heap.size + 1 + 1 + 1) f2 z2 ((((W.setCell ⟨w.heap.size + 1 + 1, 0, none⟩ (.bool f1)).setCell ⟨w.heap.size + 1 + 1, 1, none⟩ (.float .f64 z1)).setCell ⟨w.heap.size + 1 + 1 + 1, 0, none⟩ (.bool f2)).setCell ⟨w.heap.size + 1 + 1 + 1, 1, none⟩ (.float .f64 z2))
    ∧ Below w.heap.size w ((((W.setCell ⟨w.heap.size + 1 + 1, 0, none⟩ (.bool f1)).setCell ⟨w.heap.size + 1 + 1, 1, none⟩ (.float .f64 z1)).setCell ⟨w.heap.size + 1 + 1 + 1, 0, none⟩ (.bool f2)).setCell ⟨w.heap.size + 1 + 1 + 1, 1, none⟩ (.float .f64 z2)) := by
  refine ⟨((h.r.put f1 z1).far (by omega) _ _).far (by omega) _ _, ((h.q.far (by omega) _ _).far (by omega) _ _).put f2 z2, (((h.below.setCell ?_ _).setCell ?_ _).setCell ?_ _).setCell ?_ _⟩ <;> (simp only []; omega)
/-- Behind a draw, the first result written: what the loads read. -/
theorem Dw.held (h : Dw w f z k s x W) (f1 : Bool) (z1 : Nat) : ((W.setCell ⟨w.heap.size + 1 + 1, 0, none⟩ (.bool f1)).setCell ⟨w.heap.size + 1 + 1, 1, none⟩ (.float .f64 z1)).drew.cell? ⟨w.heap.size, 0, none⟩ = some (.bool f) ∧ ((W.setCell ⟨w.heap.size + 1 + 1, 0, none⟩ (.bool f1)).setCell ⟨w.heap.size + 1 + 1, 1, none⟩ (.float .f64 z1)).drew.cell? ⟨w.heap.size, 1, none⟩ = some (.float .f64 z) ∧ ((W.setCell ⟨w.heap.size + 1 + 1, 0, none⟩ (.bool f1)).setCell ⟨w.heap.size + 1 + 1, 1, none⟩ (.float .f64 z1)).drew.cell? ⟨w.heap.size + 1, 2, none⟩ = some (.float .f64 x) := by
  have hc := (((h.c.far (c := w.heap.size + 1 + 1) (by omega) 0 (.bool f1)).far (c := w.heap.size + 1 + 1) (by omega) 1 (.float .f64 z1)).drewn).facts
  have hx : ((W.setCell ⟨w.heap.size + 1 + 1, 0, none⟩ (.bool f1)).setCell ⟨w.heap.size + 1 + 1, 1, none⟩ (.float .f64 z1)).drew.heap[w.heap.size + 1]? = some (.cells #[.int .i64 k, .string (str s), .float .f64 x] 48 (0, 0)) :=
    ((drew_block _ _).trans (Below.heap_setCell _ ⟨w.heap.size + 1 + 1, 1, none⟩ _ _ (by simp only []; omega))).trans ((Below.heap_setCell W ⟨w.heap.size + 1 + 1, 0, none⟩ _ _ (by simp only []; omega)).trans h.x)
  exact ⟨hc.1, hc.2.1, by simp [World.cell?, hx]⟩
theorem Dw.held2 (h : Dw w f z k s x W) (f1 : Bool) (z1 : Nat) (f2 : Bool) (z2 : Nat) : ((((W.setCell ⟨w.heap.size + 1 + 1, 0, none⟩ (.bool f1)).setCell ⟨w.heap.size + 1 + 1, 1, none⟩ (.float .f64 z1)).setCell ⟨w.heap.size + 1 + 1 + 1, 0, none⟩ (.bool f2)).setCell ⟨w.heap.size + 1 + 1 + 1, 1, none⟩ (.float .f64 z2)).drew.cell? ⟨w.heap.size, 0, none⟩ = some (.bool f) ∧ ((((W.setCell ⟨w.heap.size + 1 + 1, 0, none⟩ (.bool f1)).setCell ⟨w.heap.size + 1 + 1, 1, none⟩ (.float .f64 z1)).setCell ⟨w.heap.size + 1 + 1 + 1, 0, none⟩ (.bool f2)).setCell ⟨w.heap.size + 1 + 1 + 1, 1, none⟩ (.float .f64 z2)).drew.cell? ⟨w.heap.size, 1, none⟩ = some (.float .f64 z) ∧ ((((W.setCell ⟨w.heap.size + 1 + 1, 0, none⟩ (.bool f1)).setCell ⟨w.heap.size + 1 + 1, 1, none⟩ (.float .f64 z1)).setCell ⟨w.heap.size + 1 + 1 + 1, 0, none⟩ (.bool f2)).setCell ⟨w.heap.size + 1 + 1 + 1, 1, none⟩ (.float .f64 z2)).drew.cell? ⟨w.heap.size + 1, 2, none⟩ = some (.float .f64 x) := by
  have hc := ((((((h.c.far (c := w.heap.size + 1 + 1) (by omega) 0 (.bool f1)).far (c := w.heap.size + 1 + 1) (by omega) 1 (.float .f64 z1)).far (c := w.heap.size + 1 + 1 + 1) (by omega) 0 (.bool f2)).far (c := w.heap.size + 1 + 1 + 1) (by omega) 1 (.float .f64 z2)).drewn)).facts
  have hx : ((((W.setCell ⟨w.heap.size + 1 + 1, 0, none⟩ (.bool f1)).setCell ⟨w.heap.size + 1 + 1, 1, none⟩ (.float .f64 z1)).setCell ⟨w.heap.size + 1 + 1 + 1, 0, none⟩ (.bool f2)).setCell ⟨w.heap.size + 1 + 1 + 1, 1, none⟩ (.float .f64 z2)).drew.heap[w.heap.size + 1]? = some (.cells #[.int .i64 k, .string (str s), .float .f64 x] 48 (0, 0)) :=
    (drew_block _ _).trans ((Below.heap_setCell _ ⟨w.heap.size + 1 + 1 + 1, 1, none⟩ _ _ (by simp only []; omega)).trans ((Below.heap_setCell _ ⟨w.heap.size + 1 + 1 + 1, 0, none⟩ _ _ (by simp only []; omega)).trans ((Below.heap_setCell _ ⟨w.heap.size + 1 + 1, 1, none⟩ _ _ (by simp only []; omega)).trans ((Below.heap_setCell W ⟨w.heap.size + 1 + 1, 0, none⟩ _ _ (by simp only []; omega)).trans h.x))))
  exact ⟨hc.1, hc.2.1, by simp [World.cell?, hx]⟩
theorem Dw.held0 (h : Dw w f z k s x W) : W.drew.cell? ⟨w.heap.size, 0, none⟩ = some (.bool f) ∧ W.drew.cell? ⟨w.heap.size, 1, none⟩ = some (.float .f64 z) ∧ W.drew.cell? ⟨w.heap.size + 1, 2, none⟩ = some (.float .f64 x) := by
  have hc := h.c.drewn.facts
  have hx : W.drew.heap[w.heap.size + 1]? = some (.cells #[.int .i64 k, .string (str s), .float .f64 x] 48 (0, 0)) := (drew_block _ _).trans h.x
  exact ⟨hc.1, hc.2.1, by simp [World.cell?, hx]⟩
theorem Dw.fin1d (h : Dw w f z k s x W) (f1 f2 : Bool) (z1 z2 : Nat) : Bx (w.heap.size + 1 + 1) f1 z1 ((((W.setCell ⟨w.heap.size + 1 + 1, 0, none⟩ (.bool f1)).setCell ⟨w.heap.size + 1 + 1, 1, none⟩ (.float .f64 z1)).setCell ⟨w.heap.size + 1 + 1 + 1, 0, none⟩ (.bool f2)).setCell ⟨w.heap.size + 1 + 1 + 1, 1, none⟩ (.float .f64 z2)).drew
    ∧ Bx (w.heap.size + 1 + 1 + 1) f2 z2 ((((W.setCell ⟨w.heap.size + 1 + 1, 0, none⟩ (.bool f1)).setCell ⟨w.heap.size + 1 + 1, 1, none⟩ (.float .f64 z1)).setCell ⟨w.heap.size + 1 + 1 + 1, 0, none⟩ (.bool f2)).setCell ⟨w.heap.size + 1 + 1 + 1, 1, none⟩ (.float .f64 z2)).drew
    ∧ Below w.heap.size w ((((W.setCell ⟨w.heap.size + 1 + 1, 0, none⟩ (.bool f1)).setCell ⟨w.heap.size + 1 + 1, 1, none⟩ (.float .f64 z1)).setCell ⟨w.heap.size + 1 + 1 + 1, 0, none⟩ (.bool f2)).setCell ⟨w.heap.size + 1 + 1 + 1, 1, none⟩ (.float .f64 z2)).drew :=
  ⟨(h.fin1 f1 f2 z1 z2).1.drewn, (h.fin1 f1 f2 z1 z2).2.1.drewn, (h.fin1 f1 f2 z1 z2).2.2.drew⟩
end
section
variable {g : Nat} {f : Bool} {z : Nat} {W : World}
theorem Bx.held0 (h : Bx g f z W) : W.drew.cell? ⟨g, 0, none⟩ = some (.bool f) ∧ W.drew.cell? ⟨g, 1, none⟩ = some (.float .f64 z) := ⟨h.drewn.facts.1, h.drewn.facts.2.1⟩
theorem Bx.held (h : Bx g f z W) {c : Nat} (hc : g ≠ c) (f1 : Bool) (z1 : Nat) : ((W.setCell ⟨c, 0, none⟩ (.bool f1)).setCell ⟨c, 1, none⟩ (.float .f64 z1)).drew.cell? ⟨g, 0, none⟩ = some (.bool f) ∧ ((W.setCell ⟨c, 0, none⟩ (.bool f1)).setCell ⟨c, 1, none⟩ (.float .f64 z1)).drew.cell? ⟨g, 1, none⟩ = some (.float .f64 z) := ((h.far hc 0 (.bool f1)).far hc 1 (.float .f64 z1)).held0
theorem Bx.held2 (h : Bx g f z W) {c d : Nat} (hc : g ≠ c) (hd : g ≠ d) (f1 : Bool) (z1 : Nat) (f2 : Bool) (z2 : Nat) : ((((W.setCell ⟨c, 0, none⟩ (.bool f1)).setCell ⟨c, 1, none⟩ (.float .f64 z1)).setCell ⟨d, 0, none⟩ (.bool f2)).setCell ⟨d, 1, none⟩ (.float .f64 z2)).drew.cell? ⟨g, 0, none⟩ = some (.bool f) ∧ ((((W.setCell ⟨c, 0, none⟩ (.bool f1)).setCell ⟨c, 1, none⟩ (.float .f64 z1)).setCell ⟨d, 0, none⟩ (.bool f2)).setCell ⟨d, 1, none⟩ (.float .f64 z2)).drew.cell? ⟨g, 1, none⟩ = some (.float .f64 z) := ((((h.far hc 0 (.bool f1)).far hc 1 (.float .f64 z1)).far hd 0 (.bool f2)).far hd 1 (.float .f64 z2)).held0
end
theorem fit_self {f : Bool} {z : Nat} (h : Pl (f, z)) (hl : z < 18446744073709551616) : Fit f z (f, z) := ⟨rfl, rfl, h, hl⟩
theorem fit_fz (c : Cell2) (hl : c.2 < 18446744073709551616) : Fit (fz c).1 (fz c).2 (fz c) := ⟨rfl, rfl, fz_pl c, by unfold fz; split <;> first | exact hl | exact (by decide)⟩
set_option maxHeartbeats 4000000 in
set_option maxRecDepth 100000 in
theorem refdo_wrong_false (z : Nat) (k : Int) (s : List UInt8) (x : Nat) (w : World) (hc : z < 18446744073709551616) (hx : x < 18446744073709551616) (hl : (s.length : Int) ≤ 9223372036854775807) (hr : cRight k s x = false) : Calls Try.prog 24 #[.agg #[.bool false, .float .f64 z], .agg #[.int .i64 k, .string (str s), .float .f64 x]] w (GivesDo (doC (false, z) k s x) w) := by
  have CR := Lib.hid (fun W => right_any k s x W hx hl)
  rw [hr] at CR
  have D0 := Lib.hid (Dw.start w false z k s x)
  unfold four at D0
  have HE : Hid (doC (false, z) k s x = ((false, 0), (false, 0))) := Lib.hid (by unfold doC; rw [hr]; rfl)
  have D1 := Lib.hid (Dw.start w false 0 k s x)
  unfold four at D1
  obtain ⟨a0, a1, a2, a3, a4, a5, a6, a7, a8, a9, a10, a11, a12, a13, a14⟩ := D0.out.facts
  have F1 := Lib.hid hc
  have F2 := Lib.hid hx
  clear hr hl hc hx
  go_enter Try.func24, Try.ntmps24
  go_wp2_with (go_at_call 26; (with_reducible refine (CR.out _).mono ?_); rintro E w1 ⟨rfl, hb⟩; have D2 := Lib.hid (D1.out.on hb); obtain ⟨b0, b1, b2, b3, b4, b5, b6, b7, b8, b9, b10, b11, b12, b13, b14⟩ := D2.out.facts; clear hb)
  obtain ⟨Z1, Z2, Z3⟩ := D2.out.fin1 false false 0 0
  obtain ⟨c0, c1, -, -⟩ := Z1.facts
  obtain ⟨d0, d1, -, -⟩ := Z2.facts
  exact bodyPost_ret (do_result rfl _ rfl rfl c0 c1 d0 d1) rfl (by rw [HE.out]; exact ⟨false, 0, false, 0, rfl, (fit_fz (false, z) F1.out), ⟨rfl, rfl, fun _ => rfl, by decide⟩, Z3⟩)
set_option maxHeartbeats 4000000 in
set_option maxRecDepth 100000 in
theorem refdo_wrong_true (z : Nat) (k : Int) (s : List UInt8) (x : Nat) (w : World) (hc : z < 18446744073709551616) (hx : x < 18446744073709551616) (hl : (s.length : Int) ≤ 9223372036854775807) (hr : cRight k s x = false) : Calls Try.prog 24 #[.agg #[.bool true, .float .f64 z], .agg #[.int .i64 k, .string (str s), .float .f64 x]] w (GivesDo (doC (true, z) k s x) w) := by
  have CR := Lib.hid (fun W => right_any k s x W hx hl)
  rw [hr] at CR
  have D0 := Lib.hid (Dw.start w true z k s x)
  unfold four at D0
  have HE : Hid (doC (true, z) k s x = ((true, z), (false, 0))) := Lib.hid (by unfold doC; rw [hr]; rfl)
  obtain ⟨a0, a1, a2, a3, a4, a5, a6, a7, a8, a9, a10, a11, a12, a13, a14⟩ := D0.out.facts
  have F1 := Lib.hid hc
  have F2 := Lib.hid hx
  clear hr hl hc hx
  go_enter Try.func24, Try.ntmps24
  go_wp2_with (go_at_call 26; (with_reducible refine (CR.out _).mono ?_); rintro E w1 ⟨rfl, hb⟩; have D2 := Lib.hid (D0.out.on hb); obtain ⟨b0, b1, b2, b3, b4, b5, b6, b7, b8, b9, b10, b11, b12, b13, b14⟩ := D2.out.facts; clear hb)
  obtain ⟨Z1, Z2, Z3⟩ := D2.out.fin1 true false z 0
  obtain ⟨c0, c1, -, -⟩ := Z1.facts
  obtain ⟨d0, d1, -, -⟩ := Z2.facts
  exact bodyPost_ret (do_result rfl _ rfl rfl c0 c1 d0 d1) rfl (by rw [HE.out]; exact ⟨true, z, false, 0, rfl, (fit_fz (true, z) F1.out), ⟨rfl, rfl, fun _ => rfl, by decide⟩, Z3⟩)
set_option maxHeartbeats 4000000 in
set_option maxRecDepth 100000 in
theorem refdo_get_false (z : Nat) (s : List UInt8) (x : Nat) (w : World) (hc : z < 18446744073709551616) (hx : x < 18446744073709551616) (hl : (s.length : Int) ≤ 9223372036854775807) (hr : cRight 1 s x = true) : Calls Try.prog 24 #[.agg #[.bool false, .float .f64 z], .agg #[.int .i64 1, .string (str s), .float .f64 x]] w (GivesDo (doC (false, z) 1 s x) w) := by
  have CR := Lib.hid (fun W => right_any 1 s x W hx hl)
  rw [hr] at CR
  have D0 := Lib.hid (Dw.start w false z 1 s x)
  unfold four at D0
  have HE : Hid (doC (false, z) 1 s x = ((false, 0), (false, 0))) := Lib.hid (by unfold doC; rw [hr]; rfl)
  have D1 := Lib.hid (Dw.start w false 0 1 s x)
  unfold four at D1
  obtain ⟨a0, a1, a2, a3, a4, a5, a6, a7, a8, a9, a10, a11, a12, a13, a14⟩ := D0.out.facts
  have F1 := Lib.hid hc
  have F2 := Lib.hid hx
  clear hr hl hc hx
  go_enter Try.func24, Try.ntmps24
  go_wp2_with (go_at_call 26; (with_reducible refine (CR.out _).mono ?_); rintro E w1 ⟨rfl, hb⟩; have D2 := Lib.hid (D1.out.on hb); obtain ⟨b0, b1, b2, b3, b4, b5, b6, b7, b8, b9, b10, b11, b12, b13, b14⟩ := D2.out.facts; clear hb)
  have HH := Lib.hid D2.out.held0
  have HK := Lib.hid (D2.out.held false 0)
  have HJ := Lib.hid (D2.out.held2 false 0 false 0)
  refine wp_region_held_drew (S := (fun w' => w'.cell? ⟨w.heap.size, 0, none⟩ = some (.bool false) ∧ w'.cell? ⟨w.heap.size, 1, none⟩ = some (.float .f64 0) ∧ w'.cell? ⟨w.heap.size + 1, 2, none⟩ = some (.float .f64 x))) (by kernel_rfl) HH.out (fun hHeld => ?_)
  refine wpAnyH_take (i := 0) (v := ?_) rfl (by kernel_rfl) (by kernel_rfl) (by kernel_rfl) (fun _ _ _ h => h) (Or.inl ⟨by rfl, fun w hSw => ?_⟩) (by assumption) ?_
  rotate_left
  · (try dsimp only at hSw); go_simp; (try with_reducible rfl)
  try simp only [List.getElem_toArray, List.getElem_cons_succ, List.getElem_cons_zero, Act.put, List.setIfInBounds_toArray, List.set_cons_zero, List.set_cons_succ]
  refine wpAnyH_take (i := 1) (v := ?_) rfl (by kernel_rfl) (by kernel_rfl) (by kernel_rfl) (fun _ _ _ h => h) (Or.inl ⟨by rfl, fun w hSw => ?_⟩) (by assumption) ?_
  rotate_left
  · (try dsimp only at hSw); go_simp; (try with_reducible rfl)
  try simp only [List.getElem_toArray, List.getElem_cons_succ, List.getElem_cons_zero, Act.put, List.setIfInBounds_toArray, List.set_cons_zero, List.set_cons_succ]
  refine wpAnyH_ready (rs := [2]) (by kernel_rfl) (by simp) ?_
  refine AllReadyH.cons rfl (fun K hK => ?_) ?_
  rotate_left
  · exact AllReadyH.nil
  go_simp
  skip
  refine hK.out _ _ ?_ (fun hHeld => ?_)
  · exact HK.out
  clear hK K
  try simp only [List.getElem_toArray, List.getElem_cons_succ, List.getElem_cons_zero, Act.put, List.setIfInBounds_toArray, List.set_cons_zero, List.set_cons_succ]
  refine wpAnyH_ready (rs := [3]) (by kernel_rfl) (by simp) ?_
  refine AllReadyH.cons rfl (fun K hK => ?_) ?_
  rotate_left
  · exact AllReadyH.nil
  go_simp
  skip
  refine hK.out _ _ ?_ (fun hHeld => ?_)
  · exact HJ.out
  clear hK K
  try simp only [List.getElem_toArray, List.getElem_cons_succ, List.getElem_cons_zero, Act.put, List.setIfInBounds_toArray, List.set_cons_zero, List.set_cons_succ]
  refine wpAnyH_done (by kernel_rfl) ?_ _
  go_wp2_with fail
  obtain ⟨Z1, Z2, Z3⟩ := D2.out.fin1d false false 0 0
  obtain ⟨c0, c1, -, -⟩ := Z1.facts
  obtain ⟨d0, d1, -, -⟩ := Z2.facts
  exact bodyPost_ret (do_result rfl _ rfl rfl c0 c1 d0 d1) rfl (by rw [HE.out]; exact ⟨false, 0, false, 0, rfl, (fit_fz (false, z) F1.out), (fit_fz (false, z) F1.out), Z3⟩)
set_option maxHeartbeats 4000000 in
set_option maxRecDepth 100000 in
theorem refdo_get_true (z : Nat) (s : List UInt8) (x : Nat) (w : World) (hc : z < 18446744073709551616) (hx : x < 18446744073709551616) (hl : (s.length : Int) ≤ 9223372036854775807) (hr : cRight 1 s x = true) : Calls Try.prog 24 #[.agg #[.bool true, .float .f64 z], .agg #[.int .i64 1, .string (str s), .float .f64 x]] w (GivesDo (doC (true, z) 1 s x) w) := by
  have CR := Lib.hid (fun W => right_any 1 s x W hx hl)
  rw [hr] at CR
  have D0 := Lib.hid (Dw.start w true z 1 s x)
  unfold four at D0
  have HE : Hid (doC (true, z) 1 s x = ((true, z), (true, z))) := Lib.hid (by unfold doC; rw [hr]; rfl)
  obtain ⟨a0, a1, a2, a3, a4, a5, a6, a7, a8, a9, a10, a11, a12, a13, a14⟩ := D0.out.facts
  have F1 := Lib.hid hc
  have F2 := Lib.hid hx
  clear hr hl hc hx
  go_enter Try.func24, Try.ntmps24
  go_wp2_with (go_at_call 26; (with_reducible refine (CR.out _).mono ?_); rintro E w1 ⟨rfl, hb⟩; have D2 := Lib.hid (D0.out.on hb); obtain ⟨b0, b1, b2, b3, b4, b5, b6, b7, b8, b9, b10, b11, b12, b13, b14⟩ := D2.out.facts; clear hb)
  have HH := Lib.hid D2.out.held0
  have HK := Lib.hid (D2.out.held true z)
  have HJ := Lib.hid (D2.out.held2 true z true z)
  refine wp_region_held_drew (S := (fun w' => w'.cell? ⟨w.heap.size, 0, none⟩ = some (.bool true) ∧ w'.cell? ⟨w.heap.size, 1, none⟩ = some (.float .f64 z) ∧ w'.cell? ⟨w.heap.size + 1, 2, none⟩ = some (.float .f64 x))) (by kernel_rfl) HH.out (fun hHeld => ?_)
  refine wpAnyH_take (i := 0) (v := ?_) rfl (by kernel_rfl) (by kernel_rfl) (by kernel_rfl) (fun _ _ _ h => h) (Or.inl ⟨by rfl, fun w hSw => ?_⟩) (by assumption) ?_
  rotate_left
  · (try dsimp only at hSw); go_simp; (try with_reducible rfl)
  try simp only [List.getElem_toArray, List.getElem_cons_succ, List.getElem_cons_zero, Act.put, List.setIfInBounds_toArray, List.set_cons_zero, List.set_cons_succ]
  refine wpAnyH_take (i := 1) (v := ?_) rfl (by kernel_rfl) (by kernel_rfl) (by kernel_rfl) (fun _ _ _ h => h) (Or.inl ⟨by rfl, fun w hSw => ?_⟩) (by assumption) ?_
  rotate_left
  · (try dsimp only at hSw); go_simp; (try with_reducible rfl)
  try simp only [List.getElem_toArray, List.getElem_cons_succ, List.getElem_cons_zero, Act.put, List.setIfInBounds_toArray, List.set_cons_zero, List.set_cons_succ]
  refine wpAnyH_ready (rs := [2]) (by kernel_rfl) (by simp) ?_
  refine AllReadyH.cons rfl (fun K hK => ?_) ?_
  rotate_left
  · exact AllReadyH.nil
  go_simp
  skip
  refine hK.out _ _ ?_ (fun hHeld => ?_)
  · exact HK.out
  clear hK K
  try simp only [List.getElem_toArray, List.getElem_cons_succ, List.getElem_cons_zero, Act.put, List.setIfInBounds_toArray, List.set_cons_zero, List.set_cons_succ]
  refine wpAnyH_ready (rs := [3]) (by kernel_rfl) (by simp) ?_
  refine AllReadyH.cons rfl (fun K hK => ?_) ?_
  rotate_left
  · exact AllReadyH.nil
  go_simp
  skip
  refine hK.out _ _ ?_ (fun hHeld => ?_)
  · exact HJ.out
  clear hK K
  try simp only [List.getElem_toArray, List.getElem_cons_succ, List.getElem_cons_zero, Act.put, List.setIfInBounds_toArray, List.set_cons_zero, List.set_cons_succ]
  refine wpAnyH_done (by kernel_rfl) ?_ _
  go_wp2_with fail
  obtain ⟨Z1, Z2, Z3⟩ := D2.out.fin1d true true z z
  obtain ⟨c0, c1, -, -⟩ := Z1.facts
  obtain ⟨d0, d1, -, -⟩ := Z2.facts
  exact bodyPost_ret (do_result rfl _ rfl rfl c0 c1 d0 d1) rfl (by rw [HE.out]; exact ⟨true, z, true, z, rfl, (fit_fz (true, z) F1.out), (fit_fz (true, z) F1.out), Z3⟩)
set_option maxHeartbeats 4000000 in
set_option maxRecDepth 100000 in
theorem refdo_put_false (z : Nat) (s : List UInt8) (x : Nat) (w : World) (hc : z < 18446744073709551616) (hx : x < 18446744073709551616) (hl : (s.length : Int) ≤ 9223372036854775807) (hr : cRight 2 s x = true) : Calls Try.prog 24 #[.agg #[.bool false, .float .f64 z], .agg #[.int .i64 2, .string (str s), .float .f64 x]] w (GivesDo (doC (false, z) 2 s x) w) := by
  have CR := Lib.hid (fun W => right_any 2 s x W hx hl)
  rw [hr] at CR
  have D0 := Lib.hid (Dw.start w false z 2 s x)
  unfold four at D0
  have HE : Hid (doC (false, z) 2 s x = ((true, x), (false, 0))) := Lib.hid (by unfold doC; rw [hr]; rfl)
  have D1 := Lib.hid (Dw.start w false 0 2 s x)
  unfold four at D1
  obtain ⟨a0, a1, a2, a3, a4, a5, a6, a7, a8, a9, a10, a11, a12, a13, a14⟩ := D0.out.facts
  have F1 := Lib.hid hc
  have F2 := Lib.hid hx
  clear hr hl hc hx
  go_enter Try.func24, Try.ntmps24
  go_wp2_with (go_at_call 26; (with_reducible refine (CR.out _).mono ?_); rintro E w1 ⟨rfl, hb⟩; have D2 := Lib.hid (D1.out.on hb); obtain ⟨b0, b1, b2, b3, b4, b5, b6, b7, b8, b9, b10, b11, b12, b13, b14⟩ := D2.out.facts; clear hb)
  have HH := Lib.hid D2.out.held0
  have HK := Lib.hid (D2.out.held true x)
  have HJ := Lib.hid (D2.out.held2 true x false 0)
  refine wp_region_held_drew (S := (fun w' => w'.cell? ⟨w.heap.size, 0, none⟩ = some (.bool false) ∧ w'.cell? ⟨w.heap.size, 1, none⟩ = some (.float .f64 0) ∧ w'.cell? ⟨w.heap.size + 1, 2, none⟩ = some (.float .f64 x))) (by kernel_rfl) HH.out (fun hHeld => ?_)
  refine wpAnyH_take (i := 0) (v := ?_) rfl (by kernel_rfl) (by kernel_rfl) (by kernel_rfl) (fun _ _ _ h => h) (Or.inl ⟨by rfl, fun w hSw => ?_⟩) (by assumption) ?_
  rotate_left
  · (try dsimp only at hSw); go_simp; (try with_reducible rfl)
  try simp only [List.getElem_toArray, List.getElem_cons_succ, List.getElem_cons_zero, Act.put, List.setIfInBounds_toArray, List.set_cons_zero, List.set_cons_succ]
  refine wpAnyH_take (i := 1) (v := ?_) rfl (by kernel_rfl) (by kernel_rfl) (by kernel_rfl) (fun _ _ _ h => h) (Or.inl ⟨by rfl, fun w hSw => ?_⟩) (by assumption) ?_
  rotate_left
  · (try dsimp only at hSw); go_simp; (try with_reducible rfl)
  try simp only [List.getElem_toArray, List.getElem_cons_succ, List.getElem_cons_zero, Act.put, List.setIfInBounds_toArray, List.set_cons_zero, List.set_cons_succ]
  refine wpAnyH_take (i := 2) (v := ?_) rfl (by kernel_rfl) (by kernel_rfl) (by kernel_rfl) (fun _ _ _ h => h) (Or.inl ⟨by rfl, fun w hSw => ?_⟩) (by assumption) ?_
  rotate_left
  · (try dsimp only at hSw); go_simp; (try with_reducible rfl)
  try simp only [List.getElem_toArray, List.getElem_cons_succ, List.getElem_cons_zero, Act.put, List.setIfInBounds_toArray, List.set_cons_zero, List.set_cons_succ]
  refine wpAnyH_take (i := 3) (v := ?_) rfl (by kernel_rfl) (by kernel_rfl) (by kernel_rfl) (fun _ _ _ h => h) (Or.inl ⟨by rfl, fun w hSw => ?_⟩) (by assumption) ?_
  rotate_left
  · (try dsimp only at hSw); go_simp; (try with_reducible rfl)
  try simp only [List.getElem_toArray, List.getElem_cons_succ, List.getElem_cons_zero, Act.put, List.setIfInBounds_toArray, List.set_cons_zero, List.set_cons_succ]
  refine wpAnyH_ready (rs := [4]) (by kernel_rfl) (by simp) ?_
  refine AllReadyH.cons rfl (fun K hK => ?_) ?_
  rotate_left
  · exact AllReadyH.nil
  go_simp
  skip
  refine hK.out _ _ ?_ (fun hHeld => ?_)
  · exact HK.out
  clear hK K
  try simp only [List.getElem_toArray, List.getElem_cons_succ, List.getElem_cons_zero, Act.put, List.setIfInBounds_toArray, List.set_cons_zero, List.set_cons_succ]
  refine wpAnyH_ready (rs := [5]) (by kernel_rfl) (by simp) ?_
  refine AllReadyH.cons rfl (fun K hK => ?_) ?_
  rotate_left
  · exact AllReadyH.nil
  go_simp
  skip
  refine hK.out _ _ ?_ (fun hHeld => ?_)
  · exact HJ.out
  clear hK K
  try simp only [List.getElem_toArray, List.getElem_cons_succ, List.getElem_cons_zero, Act.put, List.setIfInBounds_toArray, List.set_cons_zero, List.set_cons_succ]
  refine wpAnyH_done (by kernel_rfl) ?_ _
  go_wp2_with fail
  obtain ⟨Z1, Z2, Z3⟩ := D2.out.fin1d true false x 0
  obtain ⟨c0, c1, -, -⟩ := Z1.facts
  obtain ⟨d0, d1, -, -⟩ := Z2.facts
  exact bodyPost_ret (do_result rfl _ rfl rfl c0 c1 d0 d1) rfl (by rw [HE.out]; exact ⟨true, x, false, 0, rfl, ⟨rfl, rfl, fun h => (by cases h), F2.out⟩, (fit_fz (false, z) F1.out), Z3⟩)
set_option maxHeartbeats 4000000 in
set_option maxRecDepth 100000 in
theorem refdo_put_true (z : Nat) (s : List UInt8) (x : Nat) (w : World) (hc : z < 18446744073709551616) (hx : x < 18446744073709551616) (hl : (s.length : Int) ≤ 9223372036854775807) (hr : cRight 2 s x = true) : Calls Try.prog 24 #[.agg #[.bool true, .float .f64 z], .agg #[.int .i64 2, .string (str s), .float .f64 x]] w (GivesDo (doC (true, z) 2 s x) w) := by
  have CR := Lib.hid (fun W => right_any 2 s x W hx hl)
  rw [hr] at CR
  have D0 := Lib.hid (Dw.start w true z 2 s x)
  unfold four at D0
  have HE : Hid (doC (true, z) 2 s x = ((true, x), (true, z))) := Lib.hid (by unfold doC; rw [hr]; rfl)
  obtain ⟨a0, a1, a2, a3, a4, a5, a6, a7, a8, a9, a10, a11, a12, a13, a14⟩ := D0.out.facts
  have F1 := Lib.hid hc
  have F2 := Lib.hid hx
  clear hr hl hc hx
  go_enter Try.func24, Try.ntmps24
  go_wp2_with (go_at_call 26; (with_reducible refine (CR.out _).mono ?_); rintro E w1 ⟨rfl, hb⟩; have D2 := Lib.hid (D0.out.on hb); obtain ⟨b0, b1, b2, b3, b4, b5, b6, b7, b8, b9, b10, b11, b12, b13, b14⟩ := D2.out.facts; clear hb)
  have HH := Lib.hid D2.out.held0
  have HK := Lib.hid (D2.out.held true x)
  have HJ := Lib.hid (D2.out.held2 true x true z)
  refine wp_region_held_drew (S := (fun w' => w'.cell? ⟨w.heap.size, 0, none⟩ = some (.bool true) ∧ w'.cell? ⟨w.heap.size, 1, none⟩ = some (.float .f64 z) ∧ w'.cell? ⟨w.heap.size + 1, 2, none⟩ = some (.float .f64 x))) (by kernel_rfl) HH.out (fun hHeld => ?_)
  refine wpAnyH_take (i := 0) (v := ?_) rfl (by kernel_rfl) (by kernel_rfl) (by kernel_rfl) (fun _ _ _ h => h) (Or.inl ⟨by rfl, fun w hSw => ?_⟩) (by assumption) ?_
  rotate_left
  · (try dsimp only at hSw); go_simp; (try with_reducible rfl)
  try simp only [List.getElem_toArray, List.getElem_cons_succ, List.getElem_cons_zero, Act.put, List.setIfInBounds_toArray, List.set_cons_zero, List.set_cons_succ]
  refine wpAnyH_take (i := 1) (v := ?_) rfl (by kernel_rfl) (by kernel_rfl) (by kernel_rfl) (fun _ _ _ h => h) (Or.inl ⟨by rfl, fun w hSw => ?_⟩) (by assumption) ?_
  rotate_left
  · (try dsimp only at hSw); go_simp; (try with_reducible rfl)
  try simp only [List.getElem_toArray, List.getElem_cons_succ, List.getElem_cons_zero, Act.put, List.setIfInBounds_toArray, List.set_cons_zero, List.set_cons_succ]
  refine wpAnyH_take (i := 2) (v := ?_) rfl (by kernel_rfl) (by kernel_rfl) (by kernel_rfl) (fun _ _ _ h => h) (Or.inl ⟨by rfl, fun w hSw => ?_⟩) (by assumption) ?_
  rotate_left
  · (try dsimp only at hSw); go_simp; (try with_reducible rfl)
  try simp only [List.getElem_toArray, List.getElem_cons_succ, List.getElem_cons_zero, Act.put, List.setIfInBounds_toArray, List.set_cons_zero, List.set_cons_succ]
  refine wpAnyH_take (i := 3) (v := ?_) rfl (by kernel_rfl) (by kernel_rfl) (by kernel_rfl) (fun _ _ _ h => h) (Or.inl ⟨by rfl, fun w hSw => ?_⟩) (by assumption) ?_
  rotate_left
  · (try dsimp only at hSw); go_simp; (try with_reducible rfl)
  try simp only [List.getElem_toArray, List.getElem_cons_succ, List.getElem_cons_zero, Act.put, List.setIfInBounds_toArray, List.set_cons_zero, List.set_cons_succ]
  refine wpAnyH_ready (rs := [4]) (by kernel_rfl) (by simp) ?_
  refine AllReadyH.cons rfl (fun K hK => ?_) ?_
  rotate_left
  · exact AllReadyH.nil
  go_simp
  skip
  refine hK.out _ _ ?_ (fun hHeld => ?_)
  · exact HK.out
  clear hK K
  try simp only [List.getElem_toArray, List.getElem_cons_succ, List.getElem_cons_zero, Act.put, List.setIfInBounds_toArray, List.set_cons_zero, List.set_cons_succ]
  refine wpAnyH_ready (rs := [5]) (by kernel_rfl) (by simp) ?_
  refine AllReadyH.cons rfl (fun K hK => ?_) ?_
  rotate_left
  · exact AllReadyH.nil
  go_simp
  skip
  refine hK.out _ _ ?_ (fun hHeld => ?_)
  · exact HJ.out
  clear hK K
  try simp only [List.getElem_toArray, List.getElem_cons_succ, List.getElem_cons_zero, Act.put, List.setIfInBounds_toArray, List.set_cons_zero, List.set_cons_succ]
  refine wpAnyH_done (by kernel_rfl) ?_ _
  go_wp2_with fail
  obtain ⟨Z1, Z2, Z3⟩ := D2.out.fin1d true true x z
  obtain ⟨c0, c1, -, -⟩ := Z1.facts
  obtain ⟨d0, d1, -, -⟩ := Z2.facts
  exact bodyPost_ret (do_result rfl _ rfl rfl c0 c1 d0 d1) rfl (by rw [HE.out]; exact ⟨true, x, true, z, rfl, ⟨rfl, rfl, fun h => (by cases h), F2.out⟩, (fit_fz (true, z) F1.out), Z3⟩)
set_option maxHeartbeats 4000000 in
set_option maxRecDepth 100000 in
theorem refdo_del_false (z : Nat) (s : List UInt8) (x : Nat) (w : World) (hc : z < 18446744073709551616) (hx : x < 18446744073709551616) (hl : (s.length : Int) ≤ 9223372036854775807) (hr : cRight 3 s x = true) : Calls Try.prog 24 #[.agg #[.bool false, .float .f64 z], .agg #[.int .i64 3, .string (str s), .float .f64 x]] w (GivesDo (doC (false, z) 3 s x) w) := by
  have CR := Lib.hid (fun W => right_any 3 s x W hx hl)
  rw [hr] at CR
  have D0 := Lib.hid (Dw.start w false z 3 s x)
  unfold four at D0
  have HE : Hid (doC (false, z) 3 s x = ((false, 0), (false, 0))) := Lib.hid (by unfold doC; rw [hr]; rfl)
  have D1 := Lib.hid (Dw.start w false 0 3 s x)
  unfold four at D1
  obtain ⟨a0, a1, a2, a3, a4, a5, a6, a7, a8, a9, a10, a11, a12, a13, a14⟩ := D0.out.facts
  have F1 := Lib.hid hc
  have F2 := Lib.hid hx
  clear hr hl hc hx
  go_enter Try.func24, Try.ntmps24
  go_wp2_with (go_at_call 26; (with_reducible refine (CR.out _).mono ?_); rintro E w1 ⟨rfl, hb⟩; have D2 := Lib.hid (D1.out.on hb); obtain ⟨b0, b1, b2, b3, b4, b5, b6, b7, b8, b9, b10, b11, b12, b13, b14⟩ := D2.out.facts; clear hb)
  have HH := Lib.hid D2.out.held0
  have HK := Lib.hid (D2.out.held false 0)
  have HJ := Lib.hid (D2.out.held2 false 0 false 0)
  refine wp_region_held_drew (S := (fun w' => w'.cell? ⟨w.heap.size, 0, none⟩ = some (.bool false) ∧ w'.cell? ⟨w.heap.size, 1, none⟩ = some (.float .f64 0) ∧ w'.cell? ⟨w.heap.size + 1, 2, none⟩ = some (.float .f64 x))) (by kernel_rfl) HH.out (fun hHeld => ?_)
  refine wpAnyH_take (i := 0) (v := ?_) rfl (by kernel_rfl) (by kernel_rfl) (by kernel_rfl) (fun _ _ _ h => h) (Or.inl ⟨by rfl, fun w hSw => ?_⟩) (by assumption) ?_
  rotate_left
  · (try dsimp only at hSw); go_simp; (try with_reducible rfl)
  try simp only [List.getElem_toArray, List.getElem_cons_succ, List.getElem_cons_zero, Act.put, List.setIfInBounds_toArray, List.set_cons_zero, List.set_cons_succ]
  refine wpAnyH_take (i := 1) (v := ?_) rfl (by kernel_rfl) (by kernel_rfl) (by kernel_rfl) (fun _ _ _ h => h) (Or.inl ⟨by rfl, fun w hSw => ?_⟩) (by assumption) ?_
  rotate_left
  · (try dsimp only at hSw); go_simp; (try with_reducible rfl)
  try simp only [List.getElem_toArray, List.getElem_cons_succ, List.getElem_cons_zero, Act.put, List.setIfInBounds_toArray, List.set_cons_zero, List.set_cons_succ]
  refine wpAnyH_ready (rs := [2]) (by kernel_rfl) (by simp) ?_
  refine AllReadyH.cons rfl (fun K hK => ?_) ?_
  rotate_left
  · exact AllReadyH.nil
  go_simp
  skip
  refine hK.out _ _ ?_ (fun hHeld => ?_)
  · exact HK.out
  clear hK K
  try simp only [List.getElem_toArray, List.getElem_cons_succ, List.getElem_cons_zero, Act.put, List.setIfInBounds_toArray, List.set_cons_zero, List.set_cons_succ]
  refine wpAnyH_ready (rs := [3]) (by kernel_rfl) (by simp) ?_
  refine AllReadyH.cons rfl (fun K hK => ?_) ?_
  rotate_left
  · exact AllReadyH.nil
  go_simp
  skip
  refine hK.out _ _ ?_ (fun hHeld => ?_)
  · exact HJ.out
  clear hK K
  try simp only [List.getElem_toArray, List.getElem_cons_succ, List.getElem_cons_zero, Act.put, List.setIfInBounds_toArray, List.set_cons_zero, List.set_cons_succ]
  refine wpAnyH_done (by kernel_rfl) ?_ _
  go_wp2_with fail
  obtain ⟨Z1, Z2, Z3⟩ := D2.out.fin1d false false 0 0
  obtain ⟨c0, c1, -, -⟩ := Z1.facts
  obtain ⟨d0, d1, -, -⟩ := Z2.facts
  exact bodyPost_ret (do_result rfl _ rfl rfl c0 c1 d0 d1) rfl (by rw [HE.out]; exact ⟨false, 0, false, 0, rfl, ⟨rfl, rfl, fun _ => rfl, by decide⟩, (fit_fz (false, z) F1.out), Z3⟩)
set_option maxHeartbeats 4000000 in
set_option maxRecDepth 100000 in
theorem refdo_del_true (z : Nat) (s : List UInt8) (x : Nat) (w : World) (hc : z < 18446744073709551616) (hx : x < 18446744073709551616) (hl : (s.length : Int) ≤ 9223372036854775807) (hr : cRight 3 s x = true) : Calls Try.prog 24 #[.agg #[.bool true, .float .f64 z], .agg #[.int .i64 3, .string (str s), .float .f64 x]] w (GivesDo (doC (true, z) 3 s x) w) := by
  have CR := Lib.hid (fun W => right_any 3 s x W hx hl)
  rw [hr] at CR
  have D0 := Lib.hid (Dw.start w true z 3 s x)
  unfold four at D0
  have HE : Hid (doC (true, z) 3 s x = ((false, 0), (true, z))) := Lib.hid (by unfold doC; rw [hr]; rfl)
  obtain ⟨a0, a1, a2, a3, a4, a5, a6, a7, a8, a9, a10, a11, a12, a13, a14⟩ := D0.out.facts
  have F1 := Lib.hid hc
  have F2 := Lib.hid hx
  clear hr hl hc hx
  go_enter Try.func24, Try.ntmps24
  go_wp2_with (go_at_call 26; (with_reducible refine (CR.out _).mono ?_); rintro E w1 ⟨rfl, hb⟩; have D2 := Lib.hid (D0.out.on hb); obtain ⟨b0, b1, b2, b3, b4, b5, b6, b7, b8, b9, b10, b11, b12, b13, b14⟩ := D2.out.facts; clear hb)
  have HH := Lib.hid D2.out.held0
  have HK := Lib.hid (D2.out.held false 0)
  have HJ := Lib.hid (D2.out.held2 false 0 true z)
  refine wp_region_held_drew (S := (fun w' => w'.cell? ⟨w.heap.size, 0, none⟩ = some (.bool true) ∧ w'.cell? ⟨w.heap.size, 1, none⟩ = some (.float .f64 z) ∧ w'.cell? ⟨w.heap.size + 1, 2, none⟩ = some (.float .f64 x))) (by kernel_rfl) HH.out (fun hHeld => ?_)
  refine wpAnyH_take (i := 0) (v := ?_) rfl (by kernel_rfl) (by kernel_rfl) (by kernel_rfl) (fun _ _ _ h => h) (Or.inl ⟨by rfl, fun w hSw => ?_⟩) (by assumption) ?_
  rotate_left
  · (try dsimp only at hSw); go_simp; (try with_reducible rfl)
  try simp only [List.getElem_toArray, List.getElem_cons_succ, List.getElem_cons_zero, Act.put, List.setIfInBounds_toArray, List.set_cons_zero, List.set_cons_succ]
  refine wpAnyH_take (i := 1) (v := ?_) rfl (by kernel_rfl) (by kernel_rfl) (by kernel_rfl) (fun _ _ _ h => h) (Or.inl ⟨by rfl, fun w hSw => ?_⟩) (by assumption) ?_
  rotate_left
  · (try dsimp only at hSw); go_simp; (try with_reducible rfl)
  try simp only [List.getElem_toArray, List.getElem_cons_succ, List.getElem_cons_zero, Act.put, List.setIfInBounds_toArray, List.set_cons_zero, List.set_cons_succ]
  refine wpAnyH_ready (rs := [2]) (by kernel_rfl) (by simp) ?_
  refine AllReadyH.cons rfl (fun K hK => ?_) ?_
  rotate_left
  · exact AllReadyH.nil
  go_simp
  skip
  refine hK.out _ _ ?_ (fun hHeld => ?_)
  · exact HK.out
  clear hK K
  try simp only [List.getElem_toArray, List.getElem_cons_succ, List.getElem_cons_zero, Act.put, List.setIfInBounds_toArray, List.set_cons_zero, List.set_cons_succ]
  refine wpAnyH_ready (rs := [3]) (by kernel_rfl) (by simp) ?_
  refine AllReadyH.cons rfl (fun K hK => ?_) ?_
  rotate_left
  · exact AllReadyH.nil
  go_simp
  skip
  refine hK.out _ _ ?_ (fun hHeld => ?_)
  · exact HJ.out
  clear hK K
  try simp only [List.getElem_toArray, List.getElem_cons_succ, List.getElem_cons_zero, Act.put, List.setIfInBounds_toArray, List.set_cons_zero, List.set_cons_succ]
  refine wpAnyH_done (by kernel_rfl) ?_ _
  go_wp2_with fail
  obtain ⟨Z1, Z2, Z3⟩ := D2.out.fin1d false true 0 z
  obtain ⟨c0, c1, -, -⟩ := Z1.facts
  obtain ⟨d0, d1, -, -⟩ := Z2.facts
  exact bodyPost_ret (do_result rfl _ rfl rfl c0 c1 d0 d1) rfl (by rw [HE.out]; exact ⟨false, 0, true, z, rfl, ⟨rfl, rfl, fun _ => rfl, by decide⟩, (fit_fz (true, z) F1.out), Z3⟩)
set_option maxHeartbeats 4000000 in
set_option maxRecDepth 100000 in
theorem refdo_add_false_some (z : Nat) (s : List UInt8) (x : Nat) (w : World) (hc : z < 18446744073709551616) (hx : x < 18446744073709551616) (hl : (s.length : Int) ≤ 9223372036854775807) (hr : cRight 4 s x = true) (r : Nat) (hs : floatBits .add .f64 0 x = some r) : Calls Try.prog 24 #[.agg #[.bool false, .float .f64 z], .agg #[.int .i64 4, .string (str s), .float .f64 x]] w (GivesDo (doC (false, z) 4 s x) w) := by
  have CR := Lib.hid (fun W => right_any 4 s x W hx hl)
  rw [hr] at CR
  have D0 := Lib.hid (Dw.start w false z 4 s x)
  have D1 := Lib.hid (Dw.start w false 0 4 s x)
  unfold four at D0 D1
  have HE : Hid (doC (false, z) 4 s x = ((true, sumc 0 x), (true, sumc 0 x))) := Lib.hid (by unfold doC; rw [hr]; rfl)
  obtain ⟨a0, a1, a2, a3, a4, a5, a6, a7, a8, a9, a10, a11, a12, a13, a14⟩ := D0.out.facts
  have HS : Hid (sumc 0 x = canon r) := Lib.hid (by unfold sumc; rw [hs])
  have hlt := Lib.hid (sum_lt hs)
  have hrun : ∀ w, (binOp .add 28 (.float .f64 0) (.float .f64 x)).run Try.prog w = .ok (.float .f64 r) w := fun w => run_float_arith w .add _ .f64 _ _ _ hs
  clear hs
  clear hr hl hc hx
  go_enter Try.func24, Try.ntmps24
  go_wp2_with (go_at_call 26; (with_reducible refine (CR.out _).mono ?_); rintro E w1 ⟨rfl, hb⟩; have D2 := Lib.hid (D1.out.on hb); obtain ⟨b0, b1, b2, b3, b4, b5, b6, b7, b8, b9, b10, b11, b12, b13, b14⟩ := D2.out.facts; clear hb)
  have D3 := Lib.hid ((D2.out.alloc (.cells #[.bool true, .float .f64 r] 30)))
  have B6 := Lib.hid ((Bx.new w1 true r))
  have hn := D2.out.lt
  generalize hW2 : (w1.alloc (.cells #[.bool true, .float .f64 r] 30)) = W2 at D3 B6 ⊢
  clear hW2
  generalize w1.heap.size = g at hn B6 ⊢
  obtain ⟨e0, e1, e2, e3, e4, e5, e6, e7, e8, e9, e10, e11, e12, e13, e14⟩ := D3.out.facts
  have HH := Lib.hid (B6.out.held0)
  have HK := Lib.hid (B6.out.held (c := w.heap.size + 1 + 1) (by omega) true r)
  have HJ := Lib.hid (B6.out.held2 (c := w.heap.size + 1 + 1) (d := w.heap.size + 1 + 1 + 1) (by omega) (by omega) true r true r)
  refine wp_region_held_drew (S := (fun w' => w'.cell? ⟨g, 0, none⟩ = some (.bool true) ∧ w'.cell? ⟨g, 1, none⟩ = some (.float .f64 r))) (by kernel_rfl) HH.out (fun hHeld => ?_)
  refine wpAnyH_take (i := 0) (v := ?_) rfl (by kernel_rfl) (by kernel_rfl) (by kernel_rfl) (fun _ _ _ h => h) (Or.inl ⟨by rfl, fun w hSw => ?_⟩) (by assumption) ?_
  rotate_left
  · (try dsimp only at hSw); go_simp; (try with_reducible rfl)
  try simp only [List.getElem_toArray, List.getElem_cons_succ, List.getElem_cons_zero, Act.put, List.setIfInBounds_toArray, List.set_cons_zero, List.set_cons_succ]
  refine wpAnyH_take (i := 1) (v := ?_) rfl (by kernel_rfl) (by kernel_rfl) (by kernel_rfl) (fun _ _ _ h => h) (Or.inl ⟨by rfl, fun w hSw => ?_⟩) (by assumption) ?_
  rotate_left
  · (try dsimp only at hSw); go_simp; (try with_reducible rfl)
  try simp only [List.getElem_toArray, List.getElem_cons_succ, List.getElem_cons_zero, Act.put, List.setIfInBounds_toArray, List.set_cons_zero, List.set_cons_succ]
  refine wpAnyH_ready (rs := [2]) (by kernel_rfl) (by simp) ?_
  refine AllReadyH.cons rfl (fun K hK => ?_) ?_
  rotate_left
  · exact AllReadyH.nil
  go_simp
  skip
  refine hK.out _ _ ?_ (fun hHeld => ?_)
  · exact HK.out
  clear hK K
  try simp only [List.getElem_toArray, List.getElem_cons_succ, List.getElem_cons_zero, Act.put, List.setIfInBounds_toArray, List.set_cons_zero, List.set_cons_succ]
  refine wpAnyH_ready (rs := [3]) (by kernel_rfl) (by simp) ?_
  refine AllReadyH.cons rfl (fun K hK => ?_) ?_
  rotate_left
  · exact AllReadyH.nil
  go_simp
  skip
  refine hK.out _ _ ?_ (fun hHeld => ?_)
  · exact HJ.out
  clear hK K
  try simp only [List.getElem_toArray, List.getElem_cons_succ, List.getElem_cons_zero, Act.put, List.setIfInBounds_toArray, List.set_cons_zero, List.set_cons_succ]
  refine wpAnyH_done (by kernel_rfl) ?_ _
  go_wp2_with fail
  obtain ⟨Z1, Z2, Z3⟩ := D3.out.fin1d true true r r
  obtain ⟨c0, c1, -, -⟩ := Z1.facts
  obtain ⟨d0, d1, -, -⟩ := Z2.facts
  have hfit : Fit true r (true, sumc 0 x) := ⟨rfl, by rw [HS.out, canon_canon], fun h => (by cases h), hlt.out⟩
  exact bodyPost_ret (do_result rfl _ rfl rfl c0 c1 d0 d1) rfl (by rw [HE.out]; exact ⟨true, r, true, r, rfl, hfit, hfit, Z3⟩)
set_option maxHeartbeats 4000000 in
set_option maxRecDepth 100000 in
theorem refdo_add_false_none (z : Nat) (s : List UInt8) (x : Nat) (w : World) (hc : z < 18446744073709551616) (hx : x < 18446744073709551616) (hl : (s.length : Int) ≤ 9223372036854775807) (hr : cRight 4 s x = true) (hs : floatBits .add .f64 0 x = none) : Calls Try.prog 24 #[.agg #[.bool false, .float .f64 z], .agg #[.int .i64 4, .string (str s), .float .f64 x]] w (GivesDo (doC (false, z) 4 s x) w) := by
  have CR := Lib.hid (fun W => right_any 4 s x W hx hl)
  rw [hr] at CR
  have D0 := Lib.hid (Dw.start w false z 4 s x)
  have D1 := Lib.hid (Dw.start w false 0 4 s x)
  unfold four at D0 D1
  have HE : Hid (doC (false, z) 4 s x = ((true, sumc 0 x), (true, sumc 0 x))) := Lib.hid (by unfold doC; rw [hr]; rfl)
  obtain ⟨a0, a1, a2, a3, a4, a5, a6, a7, a8, a9, a10, a11, a12, a13, a14⟩ := D0.out.facts
  have HS : Hid (sumc 0 x = 9221120237041090561) := Lib.hid (by unfold sumc; rw [hs])
  have hnb := Lib.hid (fun w => nb_nan 0 x w)
  have hrun : ∀ w, (binOp .add 28 (.float .f64 0) (.float .f64 x)).run Try.prog w = .ok (.float .f64 (nb 0 x w)) w.drew := fun w => run_nan .add _ _ _ w (.inl rfl) hs
  clear hs
  clear hr hl hc hx
  go_enter Try.func24, Try.ntmps24
  go_wp2_with (go_at_call 26; (with_reducible refine (CR.out _).mono ?_); rintro E w1 ⟨rfl, hb⟩; have D2 := Lib.hid (D1.out.on hb); obtain ⟨b0, b1, b2, b3, b4, b5, b6, b7, b8, b9, b10, b11, b12, b13, b14⟩ := D2.out.facts; clear hb)
  have D3 := Lib.hid ((D2.out.alloc (.cells #[.bool true, .float .f64 (nb 0 x w1)] 30)).drewn)
  have B6 := Lib.hid ((Bx.new w1 true (nb 0 x w1)).drewn)
  have hn := D2.out.lt
  generalize hW2 : (w1.alloc (.cells #[.bool true, .float .f64 (nb 0 x w1)] 30)).drew = W2 at D3 B6 ⊢
  clear hW2
  have hy := Lib.hid (hnb.out w1)
  generalize nb 0 x w1 = y at hy B6 ⊢
  generalize w1.heap.size = g at hn B6 ⊢
  obtain ⟨e0, e1, e2, e3, e4, e5, e6, e7, e8, e9, e10, e11, e12, e13, e14⟩ := D3.out.facts
  have HH := Lib.hid (B6.out.held0)
  have HK := Lib.hid (B6.out.held (c := w.heap.size + 1 + 1) (by omega) true y)
  have HJ := Lib.hid (B6.out.held2 (c := w.heap.size + 1 + 1) (d := w.heap.size + 1 + 1 + 1) (by omega) (by omega) true y true y)
  refine wp_region_held_drew (S := (fun w' => w'.cell? ⟨g, 0, none⟩ = some (.bool true) ∧ w'.cell? ⟨g, 1, none⟩ = some (.float .f64 y))) (by kernel_rfl) HH.out (fun hHeld => ?_)
  refine wpAnyH_take (i := 0) (v := ?_) rfl (by kernel_rfl) (by kernel_rfl) (by kernel_rfl) (fun _ _ _ h => h) (Or.inl ⟨by rfl, fun w hSw => ?_⟩) (by assumption) ?_
  rotate_left
  · (try dsimp only at hSw); go_simp; (try with_reducible rfl)
  try simp only [List.getElem_toArray, List.getElem_cons_succ, List.getElem_cons_zero, Act.put, List.setIfInBounds_toArray, List.set_cons_zero, List.set_cons_succ]
  refine wpAnyH_take (i := 1) (v := ?_) rfl (by kernel_rfl) (by kernel_rfl) (by kernel_rfl) (fun _ _ _ h => h) (Or.inl ⟨by rfl, fun w hSw => ?_⟩) (by assumption) ?_
  rotate_left
  · (try dsimp only at hSw); go_simp; (try with_reducible rfl)
  try simp only [List.getElem_toArray, List.getElem_cons_succ, List.getElem_cons_zero, Act.put, List.setIfInBounds_toArray, List.set_cons_zero, List.set_cons_succ]
  refine wpAnyH_ready (rs := [2]) (by kernel_rfl) (by simp) ?_
  refine AllReadyH.cons rfl (fun K hK => ?_) ?_
  rotate_left
  · exact AllReadyH.nil
  go_simp
  skip
  refine hK.out _ _ ?_ (fun hHeld => ?_)
  · exact HK.out
  clear hK K
  try simp only [List.getElem_toArray, List.getElem_cons_succ, List.getElem_cons_zero, Act.put, List.setIfInBounds_toArray, List.set_cons_zero, List.set_cons_succ]
  refine wpAnyH_ready (rs := [3]) (by kernel_rfl) (by simp) ?_
  refine AllReadyH.cons rfl (fun K hK => ?_) ?_
  rotate_left
  · exact AllReadyH.nil
  go_simp
  skip
  refine hK.out _ _ ?_ (fun hHeld => ?_)
  · exact HJ.out
  clear hK K
  try simp only [List.getElem_toArray, List.getElem_cons_succ, List.getElem_cons_zero, Act.put, List.setIfInBounds_toArray, List.set_cons_zero, List.set_cons_succ]
  refine wpAnyH_done (by kernel_rfl) ?_ _
  go_wp2_with fail
  obtain ⟨Z1, Z2, Z3⟩ := D3.out.fin1d true true y y
  obtain ⟨c0, c1, -, -⟩ := Z1.facts
  obtain ⟨d0, d1, -, -⟩ := Z2.facts
  have hfit : Fit true y (true, sumc 0 x) := ⟨rfl, by rw [HS.out]; unfold canon; rw [hy.out.1]; rfl, fun h => (by cases h), hy.out.2⟩
  exact bodyPost_ret (do_result rfl _ rfl rfl c0 c1 d0 d1) rfl (by rw [HE.out]; exact ⟨true, y, true, y, rfl, hfit, hfit, Z3⟩)
set_option maxHeartbeats 4000000 in
set_option maxRecDepth 100000 in
theorem refdo_add_true_some (z : Nat) (s : List UInt8) (x : Nat) (w : World) (hc : z < 18446744073709551616) (hx : x < 18446744073709551616) (hl : (s.length : Int) ≤ 9223372036854775807) (hr : cRight 4 s x = true) (r : Nat) (hs : floatBits .add .f64 z x = some r) : Calls Try.prog 24 #[.agg #[.bool true, .float .f64 z], .agg #[.int .i64 4, .string (str s), .float .f64 x]] w (GivesDo (doC (true, z) 4 s x) w) := by
  have CR := Lib.hid (fun W => right_any 4 s x W hx hl)
  rw [hr] at CR
  have D0 := Lib.hid (Dw.start w true z 4 s x)
  have D1 := Lib.hid (Dw.start w true z 4 s x)
  unfold four at D0 D1
  have HE : Hid (doC (true, z) 4 s x = ((true, sumc z x), (true, sumc z x))) := Lib.hid (by unfold doC; rw [hr]; rfl)
  obtain ⟨a0, a1, a2, a3, a4, a5, a6, a7, a8, a9, a10, a11, a12, a13, a14⟩ := D0.out.facts
  have HS : Hid (sumc z x = canon r) := Lib.hid (by unfold sumc; rw [hs])
  have hlt := Lib.hid (sum_lt hs)
  have hrun : ∀ w, (binOp .add 28 (.float .f64 z) (.float .f64 x)).run Try.prog w = .ok (.float .f64 r) w := fun w => run_float_arith w .add _ .f64 _ _ _ hs
  clear hs
  clear hr hl hc hx
  go_enter Try.func24, Try.ntmps24
  go_wp2_with (go_at_call 26; (with_reducible refine (CR.out _).mono ?_); rintro E w1 ⟨rfl, hb⟩; have D2 := Lib.hid (D1.out.on hb); obtain ⟨b0, b1, b2, b3, b4, b5, b6, b7, b8, b9, b10, b11, b12, b13, b14⟩ := D2.out.facts; clear hb)
  have D3 := Lib.hid ((D2.out.alloc (.cells #[.bool true, .float .f64 r] 30)))
  have B6 := Lib.hid ((Bx.new w1 true r))
  have hn := D2.out.lt
  generalize hW2 : (w1.alloc (.cells #[.bool true, .float .f64 r] 30)) = W2 at D3 B6 ⊢
  clear hW2
  generalize w1.heap.size = g at hn B6 ⊢
  obtain ⟨e0, e1, e2, e3, e4, e5, e6, e7, e8, e9, e10, e11, e12, e13, e14⟩ := D3.out.facts
  have HH := Lib.hid (B6.out.held0)
  have HK := Lib.hid (B6.out.held (c := w.heap.size + 1 + 1) (by omega) true r)
  have HJ := Lib.hid (B6.out.held2 (c := w.heap.size + 1 + 1) (d := w.heap.size + 1 + 1 + 1) (by omega) (by omega) true r true r)
  refine wp_region_held_drew (S := (fun w' => w'.cell? ⟨g, 0, none⟩ = some (.bool true) ∧ w'.cell? ⟨g, 1, none⟩ = some (.float .f64 r))) (by kernel_rfl) HH.out (fun hHeld => ?_)
  refine wpAnyH_take (i := 0) (v := ?_) rfl (by kernel_rfl) (by kernel_rfl) (by kernel_rfl) (fun _ _ _ h => h) (Or.inl ⟨by rfl, fun w hSw => ?_⟩) (by assumption) ?_
  rotate_left
  · (try dsimp only at hSw); go_simp; (try with_reducible rfl)
  try simp only [List.getElem_toArray, List.getElem_cons_succ, List.getElem_cons_zero, Act.put, List.setIfInBounds_toArray, List.set_cons_zero, List.set_cons_succ]
  refine wpAnyH_take (i := 1) (v := ?_) rfl (by kernel_rfl) (by kernel_rfl) (by kernel_rfl) (fun _ _ _ h => h) (Or.inl ⟨by rfl, fun w hSw => ?_⟩) (by assumption) ?_
  rotate_left
  · (try dsimp only at hSw); go_simp; (try with_reducible rfl)
  try simp only [List.getElem_toArray, List.getElem_cons_succ, List.getElem_cons_zero, Act.put, List.setIfInBounds_toArray, List.set_cons_zero, List.set_cons_succ]
  refine wpAnyH_ready (rs := [2]) (by kernel_rfl) (by simp) ?_
  refine AllReadyH.cons rfl (fun K hK => ?_) ?_
  rotate_left
  · exact AllReadyH.nil
  go_simp
  skip
  refine hK.out _ _ ?_ (fun hHeld => ?_)
  · exact HK.out
  clear hK K
  try simp only [List.getElem_toArray, List.getElem_cons_succ, List.getElem_cons_zero, Act.put, List.setIfInBounds_toArray, List.set_cons_zero, List.set_cons_succ]
  refine wpAnyH_ready (rs := [3]) (by kernel_rfl) (by simp) ?_
  refine AllReadyH.cons rfl (fun K hK => ?_) ?_
  rotate_left
  · exact AllReadyH.nil
  go_simp
  skip
  refine hK.out _ _ ?_ (fun hHeld => ?_)
  · exact HJ.out
  clear hK K
  try simp only [List.getElem_toArray, List.getElem_cons_succ, List.getElem_cons_zero, Act.put, List.setIfInBounds_toArray, List.set_cons_zero, List.set_cons_succ]
  refine wpAnyH_done (by kernel_rfl) ?_ _
  go_wp2_with fail
  obtain ⟨Z1, Z2, Z3⟩ := D3.out.fin1d true true r r
  obtain ⟨c0, c1, -, -⟩ := Z1.facts
  obtain ⟨d0, d1, -, -⟩ := Z2.facts
  have hfit : Fit true r (true, sumc z x) := ⟨rfl, by rw [HS.out, canon_canon], fun h => (by cases h), hlt.out⟩
  exact bodyPost_ret (do_result rfl _ rfl rfl c0 c1 d0 d1) rfl (by rw [HE.out]; exact ⟨true, r, true, r, rfl, hfit, hfit, Z3⟩)
set_option maxHeartbeats 4000000 in
set_option maxRecDepth 100000 in
theorem refdo_add_true_none (z : Nat) (s : List UInt8) (x : Nat) (w : World) (hc : z < 18446744073709551616) (hx : x < 18446744073709551616) (hl : (s.length : Int) ≤ 9223372036854775807) (hr : cRight 4 s x = true) (hs : floatBits .add .f64 z x = none) : Calls Try.prog 24 #[.agg #[.bool true, .float .f64 z], .agg #[.int .i64 4, .string (str s), .float .f64 x]] w (GivesDo (doC (true, z) 4 s x) w) := by
  have CR := Lib.hid (fun W => right_any 4 s x W hx hl)
  rw [hr] at CR
  have D0 := Lib.hid (Dw.start w true z 4 s x)
  have D1 := Lib.hid (Dw.start w true z 4 s x)
  unfold four at D0 D1
  have HE : Hid (doC (true, z) 4 s x = ((true, sumc z x), (true, sumc z x))) := Lib.hid (by unfold doC; rw [hr]; rfl)
  obtain ⟨a0, a1, a2, a3, a4, a5, a6, a7, a8, a9, a10, a11, a12, a13, a14⟩ := D0.out.facts
  have HS : Hid (sumc z x = 9221120237041090561) := Lib.hid (by unfold sumc; rw [hs])
  have hnb := Lib.hid (fun w => nb_nan z x w)
  have hrun : ∀ w, (binOp .add 28 (.float .f64 z) (.float .f64 x)).run Try.prog w = .ok (.float .f64 (nb z x w)) w.drew := fun w => run_nan .add _ _ _ w (.inl rfl) hs
  clear hs
  clear hr hl hc hx
  go_enter Try.func24, Try.ntmps24
  go_wp2_with (go_at_call 26; (with_reducible refine (CR.out _).mono ?_); rintro E w1 ⟨rfl, hb⟩; have D2 := Lib.hid (D1.out.on hb); obtain ⟨b0, b1, b2, b3, b4, b5, b6, b7, b8, b9, b10, b11, b12, b13, b14⟩ := D2.out.facts; clear hb)
  have D3 := Lib.hid ((D2.out.alloc (.cells #[.bool true, .float .f64 (nb z x w1)] 30)).drewn)
  have B6 := Lib.hid ((Bx.new w1 true (nb z x w1)).drewn)
  have hn := D2.out.lt
  generalize hW2 : (w1.alloc (.cells #[.bool true, .float .f64 (nb z x w1)] 30)).drew = W2 at D3 B6 ⊢
  clear hW2
  have hy := Lib.hid (hnb.out w1)
  generalize nb z x w1 = y at hy B6 ⊢
  generalize w1.heap.size = g at hn B6 ⊢
  obtain ⟨e0, e1, e2, e3, e4, e5, e6, e7, e8, e9, e10, e11, e12, e13, e14⟩ := D3.out.facts
  have HH := Lib.hid (B6.out.held0)
  have HK := Lib.hid (B6.out.held (c := w.heap.size + 1 + 1) (by omega) true y)
  have HJ := Lib.hid (B6.out.held2 (c := w.heap.size + 1 + 1) (d := w.heap.size + 1 + 1 + 1) (by omega) (by omega) true y true y)
  refine wp_region_held_drew (S := (fun w' => w'.cell? ⟨g, 0, none⟩ = some (.bool true) ∧ w'.cell? ⟨g, 1, none⟩ = some (.float .f64 y))) (by kernel_rfl) HH.out (fun hHeld => ?_)
  refine wpAnyH_take (i := 0) (v := ?_) rfl (by kernel_rfl) (by kernel_rfl) (by kernel_rfl) (fun _ _ _ h => h) (Or.inl ⟨by rfl, fun w hSw => ?_⟩) (by assumption) ?_
  rotate_left
  · (try dsimp only at hSw); go_simp; (try with_reducible rfl)
  try simp only [List.getElem_toArray, List.getElem_cons_succ, List.getElem_cons_zero, Act.put, List.setIfInBounds_toArray, List.set_cons_zero, List.set_cons_succ]
  refine wpAnyH_take (i := 1) (v := ?_) rfl (by kernel_rfl) (by kernel_rfl) (by kernel_rfl) (fun _ _ _ h => h) (Or.inl ⟨by rfl, fun w hSw => ?_⟩) (by assumption) ?_
  rotate_left
  · (try dsimp only at hSw); go_simp; (try with_reducible rfl)
  try simp only [List.getElem_toArray, List.getElem_cons_succ, List.getElem_cons_zero, Act.put, List.setIfInBounds_toArray, List.set_cons_zero, List.set_cons_succ]
  refine wpAnyH_ready (rs := [2]) (by kernel_rfl) (by simp) ?_
  refine AllReadyH.cons rfl (fun K hK => ?_) ?_
  rotate_left
  · exact AllReadyH.nil
  go_simp
  skip
  refine hK.out _ _ ?_ (fun hHeld => ?_)
  · exact HK.out
  clear hK K
  try simp only [List.getElem_toArray, List.getElem_cons_succ, List.getElem_cons_zero, Act.put, List.setIfInBounds_toArray, List.set_cons_zero, List.set_cons_succ]
  refine wpAnyH_ready (rs := [3]) (by kernel_rfl) (by simp) ?_
  refine AllReadyH.cons rfl (fun K hK => ?_) ?_
  rotate_left
  · exact AllReadyH.nil
  go_simp
  skip
  refine hK.out _ _ ?_ (fun hHeld => ?_)
  · exact HJ.out
  clear hK K
  try simp only [List.getElem_toArray, List.getElem_cons_succ, List.getElem_cons_zero, Act.put, List.setIfInBounds_toArray, List.set_cons_zero, List.set_cons_succ]
  refine wpAnyH_done (by kernel_rfl) ?_ _
  go_wp2_with fail
  obtain ⟨Z1, Z2, Z3⟩ := D3.out.fin1d true true y y
  obtain ⟨c0, c1, -, -⟩ := Z1.facts
  obtain ⟨d0, d1, -, -⟩ := Z2.facts
  have hfit : Fit true y (true, sumc z x) := ⟨rfl, by rw [HS.out]; unfold canon; rw [hy.out.1]; rfl, fun h => (by cases h), hy.out.2⟩
  exact bodyPost_ret (do_result rfl _ rfl rfl c0 c1 d0 d1) rfl (by rw [HE.out]; exact ⟨true, y, true, y, rfl, hfit, hfit, Z3⟩)

set_option maxRecDepth 100000 in
/-- Do, by the document. -/
theorem refdo_any (c : Cell2) (k : Int) (s : List UInt8) (x : Nat) (w : World) (hc : c.2 < 18446744073709551616) (hx : x < 18446744073709551616) (hl : (s.length : Int) ≤ 9223372036854775807) : Calls Try.prog 24 #[.agg #[.bool c.1, .float .f64 c.2], .agg #[.int .i64 k, .string (str s), .float .f64 x]] w (GivesDo (doC c k s x) w) := by
  obtain ⟨f, z⟩ := c
  simp only [] at hc ⊢
  cases hr : cRight k s x with
  | false => cases f with
    | false => exact refdo_wrong_false z k s x w hc hx hl hr
    | true => exact refdo_wrong_true z k s x w hc hx hl hr
  | true =>
    have hk : k = 1 ∨ k = 2 ∨ k = 3 ∨ k = 4 := by
      have h2 := (right_parts hr).2
      unfold mayV at h2
      rw [decide_eq_true_eq] at h2
      omega
    rcases hk with rfl | rfl | rfl | rfl
    · cases f with
      | false => exact refdo_get_false z s x w hc hx hl hr
      | true => exact refdo_get_true z s x w hc hx hl hr
    · cases f with
      | false => exact refdo_put_false z s x w hc hx hl hr
      | true => exact refdo_put_true z s x w hc hx hl hr
    · cases f with
      | false => exact refdo_del_false z s x w hc hx hl hr
      | true => exact refdo_del_true z s x w hc hx hl hr
    · cases f with
      | false => cases hs : floatBits .add .f64 0 x with
        | some r => exact refdo_add_false_some z s x w hc hx hl hr r hs
        | none => exact refdo_add_false_none z s x w hc hx hl hr hs
      | true => cases hs : floatBits .add .f64 z x with
        | some r => exact refdo_add_true_some z s x w hc hx hl hr r hs
        | none => exact refdo_add_true_none z s x w hc hx hl hr hs
end Go.Proofs.Ytdnabghhjlhjoaa.Cel
