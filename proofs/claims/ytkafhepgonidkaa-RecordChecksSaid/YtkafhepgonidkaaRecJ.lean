/- What the statement's function of layer 8 (record) has in memory: its own copy of a record, and the program's. Conditions: those in each statement. -/
import Derived.Test.YtkafhepgonidkaaRecI
namespace Go.Proofs.Ytkafhepgonidkaa.Rec
open Go.RowKit Cmd Bat Ids
set_option linter.unusedVariables false
set_option linter.unusedSimpArgs false

/-! ### The call's own copy -/
def zeroR : Obj := .cells #[.int .i64 0, .int .i64 0, .int .i64 0, .slice none 0 0, .slice none 0 0] 27
/-- The record in its box, and its copy at block h, whose lists lie in blocks of their own. -/
structure OwnAt (w : World) (a b q : Int) (v u : Value) (ds : List Idn) (cs : List Cmdn) (h g k g' k' : Nat) (W : World) : Prop where
  box : BoxR w w.heap.size a b q v u W
  hi : w.heap.size < h
  own : W.heap[h]? = some (.cells #[.int .i64 a, .int .i64 b, .int .i64 q, .slice (some ⟨g, 0, none⟩) ds.length k, .slice (some ⟨g', 0, none⟩) cs.length k'] 27 (0, 0))
  dep : Fresh 23 2 (flat ds) ds.length (w.heap.size + 1) g k W
  bat : Fresh 36 3 (flatC cs) cs.length (w.heap.size + 1) g' k' W
  d1 : ds.length = 0 ∨ g ≠ h
  d2 : cs.length = 0 ∨ g' ≠ h
  d3 : ds.length = 0 ∨ cs.length = 0 ∨ g ≠ g'
theorem five_put {W : World} {g h : Nat} {x0 x1 x2 x3 x4 : Value} (hc : W.cell? ⟨g, 0, none⟩ = some x0 ∧ W.cell? ⟨g, 1, none⟩ = some x1 ∧ W.cell? ⟨g, 2, none⟩ = some x2 ∧ W.cell? ⟨g, 3, none⟩ = some x3 ∧ W.cell? ⟨g, 4, none⟩ = some x4) (hne : g ≠ h) (a b q : Int) (v u : Value) :
    (put5 W h a b q v u).cell? ⟨g, 0, none⟩ = some x0 ∧ (put5 W h a b q v u).cell? ⟨g, 1, none⟩ = some x1 ∧ (put5 W h a b q v u).cell? ⟨g, 2, none⟩ = some x2 ∧ (put5 W h a b q v u).cell? ⟨g, 3, none⟩ = some x3 ∧ (put5 W h a b q v u).cell? ⟨g, 4, none⟩ = some x4 := by
  have e : ∀ i, (put5 W h a b q v u).cell? ⟨g, i, none⟩ = W.cell? ⟨g, i, none⟩ := fun i => World.cell?_of_block (w := W) (put5_far W hne a b q v u)
  rw [e, e, e, e, e]; exact hc
theorem size_put5 (W : World) (h : Nat) (a b q : Int) (v u : Value) : (put5 W h a b q v u).heap.size = W.heap.size := by
  unfold put5; rw [size_sc, size_sc, size_sc, size_sc, size_sc]
theorem BoxR.put {w W : World} {g h : Nat} {a b q : Int} {v u : Value} (hx : BoxR w g a b q v u W) (hne : g ≠ h) (hw : w.heap.size ≤ h) (a' b' q' : Int) (v' u' : Value) : BoxR w g a b q v u (put5 W h a' b' q' v' u') := by
  obtain ⟨c0, c1, c2, c3, c4⟩ := five_put hx.five hne a' b' q' v' u'
  exact ⟨below_put5 hx.below hw _ _ _ _ _, hx.own, by rw [size_put5]; exact hx.lt, c0, c1, c2, c3, c4⟩
theorem OwnAt.of {w W : World} {a b q : Int} {v u : Value} {ds : List Idn} {cs : List Cmdn} {h g k g' k' : Nat} (hx : BoxR w w.heap.size a b q v u W) (hz : W.heap[h]? = some zeroR) (hh : w.heap.size < h)
    (hd : Fresh 23 2 (flat ds) ds.length (w.heap.size + 1) g k W) (hb : Fresh 36 3 (flatC cs) cs.length (w.heap.size + 1) g' k' W) (d1 : ds.length = 0 ∨ g ≠ h) (d2 : cs.length = 0 ∨ g' ≠ h) (d3 : ds.length = 0 ∨ cs.length = 0 ∨ g ≠ g') :
    OwnAt w a b q v u ds cs h g k g' k' (put5 W h a b q (.slice (some ⟨g, 0, none⟩) ds.length k) (.slice (some ⟨g', 0, none⟩) cs.length k')) :=
  ⟨hx.put (by omega) (by omega) _ _ _ _ _, hh, put5_row hz _ _ _ _ _, hd.far (size_put5 _ _ _ _ _ _ _) (d1.imp id fun e => put5_far W e _ _ _ _ _), hb.far (size_put5 _ _ _ _ _ _ _) (d2.imp id fun e => put5_far W e _ _ _ _ _), d1, d2, d3⟩
/-- Where blocks lie that were laid one behind the other. -/
theorem Fresh.apart {e e' : TypeId} {size size' : Nat} {fl fl' : List Value} {n base g k n' base' g' k' : Nat} {W W' : World} (h : Fresh e size fl n base g k W) (h' : Fresh e' size' fl' n' base' g' k' W') (hb : W.heap.size ≤ base') : n = 0 ∨ n' = 0 ∨ g ≠ g' := by
  rcases h.row with h0 | ⟨-, h1, -⟩
  · exact .inl h0
  · rcases h'.row with h0 | ⟨h2, -, -⟩
    · exact .inr (.inl h0)
    · right; right; omega
theorem Fresh.under {e : TypeId} {size : Nat} {fl : List Value} {n base g k h : Nat} {W : World} (hf : Fresh e size fl n base g k W) (hb : W.heap.size ≤ h) : n = 0 ∨ g ≠ h := by
  rcases hf.row with h0 | ⟨-, h1, -⟩
  · exact .inl h0
  · right; omega
theorem Fresh.over {e : TypeId} {size : Nat} {fl : List Value} {n base g k h : Nat} {W : World} (hf : Fresh e size fl n base g k W) (hb : h < base) : n = 0 ∨ g ≠ h := by
  rcases hf.row with h0 | ⟨h1, -, -⟩
  · exact .inl h0
  · right; omega

theorem OwnAt.on {w W W' : World} {a b q : Int} {v u : Value} {ds : List Idn} {cs : List Cmdn} {h g k g' k' : Nat} (x : OwnAt w a b q v u ds cs h g k g' k' W) (hb : Below W.heap.size W W') : OwnAt w a b q v u ds cs h g k g' k' W' :=
  ⟨x.box.on hb, x.hi, (hb.block _ (Array.getElem?_eq_some_iff.1 x.own).1).trans x.own, x.dep.on hb, x.bat.on hb, x.d1, x.d2, x.d3⟩
theorem Fresh.rowI {base g k : Nat} {ds : List Idn} {W : World} (h : Fresh 23 2 (flat ds) ds.length base g k W) : RowAt W (.slice (some ⟨g, 0, none⟩) ds.length k) ds := by
  have hm := h.max
  unfold maxLen at hm
  refine ⟨some ⟨g, 0, none⟩, k, rfl, h.le, by omega, (fun e => by cases e), fun hz => ?_⟩
  obtain ⟨-, hlt, cur, hg, -, ht⟩ := h.row.resolve_left (fun e => hz (List.eq_nil_of_length_eq_zero e))
  have hc : ∀ j v, (flat ds)[j]? = some v → W.cell? ⟨g, j, none⟩ = some v := fun j v hj => by
    rw [← ht, List.getElem?_take] at hj
    split at hj
    · exact cell_row hg (by simpa using hj)
    · cases hj
  refine ⟨g, 0, rfl, hlt, fun j hj => ?_⟩
  obtain ⟨h1, h2⟩ := flat_at ds j hj
  rw [Nat.zero_add]
  exact ⟨hc _ _ h1, hc _ _ h2⟩
theorem Fresh.rowC {base g k : Nat} {cs : List Cmdn} {W : World} (h : Fresh 36 3 (flatC cs) cs.length base g k W) : layC.Row W (.slice (some ⟨g, 0, none⟩) cs.length k) cs := by
  have hm := h.max
  unfold maxLen at hm
  refine ⟨some ⟨g, 0, none⟩, k, rfl, h.le, by omega, fun hz => ?_⟩
  obtain ⟨-, hlt, cur, hg, -, ht⟩ := h.row.resolve_left (fun e => hz (List.eq_nil_of_length_eq_zero e))
  have hc : ∀ j v, (flatC cs)[j]? = some v → W.cell? ⟨g, j, none⟩ = some v := fun j v hj => by
    rw [← ht, List.getElem?_take] at hj
    split at hj
    · exact cell_row hg (by simpa using hj)
    · cases hj
  refine ⟨g, 0, rfl, hlt, fun j hj => ?_⟩
  obtain ⟨h1, h2, h3⟩ := flatC_at cs j hj
  show W.cell? ⟨g, 0 + j * 3, none⟩ = _ ∧ W.cell? ⟨g, 0 + j * 3 + 1, none⟩ = _ ∧ W.cell? ⟨g, 0 + j * 3 + 2, none⟩ = _
  rw [Nat.zero_add]
  exact ⟨hc _ _ h1, hc _ _ h2, hc _ _ h3⟩

/-! ### The program's copy beside it -/
structure Got (w : World) (a b q : Int) (v u : Value) (ds : List Idn) (cs : List Cmdn) (h g k g' k' t x y : Nat) (W : World) : Prop where
  own : OwnAt w a b q v u ds cs h g k g' k' W
  cell : W.heap[t]? = some (.cells #[.int .i64 a, .int .i64 b, .int .i64 q, .slice (some ⟨x, 0, none⟩) ds.length ds.length, .slice (some ⟨y, 0, none⟩) cs.length cs.length] 27 (0, 0))
  rx : W.heap[x]? = some (.cells (flat ds).toArray 23 (0, 0))
  ry : W.heap[y]? = some (.cells (flatC cs).toArray 36 (0, 0))
  ap : (ds.length = 0 ∨ (g ≠ x ∧ g ≠ y ∧ g ≠ t)) ∧ (cs.length = 0 ∨ (g' ≠ x ∧ g' ≠ y ∧ g' ≠ t))
theorem Got.on {w W W' : World} {a b q : Int} {v u : Value} {ds : List Idn} {cs : List Cmdn} {h g k g' k' t x y : Nat} (z : Got w a b q v u ds cs h g k g' k' t x y W) (hb : Below W.heap.size W W') : Got w a b q v u ds cs h g k g' k' t x y W' :=
  ⟨z.own.on hb, (hb.block _ (Array.getElem?_eq_some_iff.1 z.cell).1).trans z.cell, (hb.block _ (Array.getElem?_eq_some_iff.1 z.rx).1).trans z.rx, (hb.block _ (Array.getElem?_eq_some_iff.1 z.ry).1).trans z.ry, z.ap⟩
theorem Got.of {w W W' : World} {a b q : Int} {v u : Value} {ds : List Idn} {cs : List Cmdn} {h g k g' k' x y : Nat} (o : OwnAt w a b q v u ds cs h g k g' k' W) (c : CopyIs ds cs W x y W') :
    Got w a b q v u ds cs h g k g' k' W'.heap.size x y (W'.alloc (.cells #[.int .i64 a, .int .i64 b, .int .i64 q, .slice (some ⟨x, 0, none⟩) ds.length ds.length, .slice (some ⟨y, 0, none⟩) cs.length cs.length] 27)) := by
  have hb := Cmd.below_one W' (.cells #[.int .i64 a, .int .i64 b, .int .i64 q, .slice (some ⟨x, 0, none⟩) ds.length ds.length, .slice (some ⟨y, 0, none⟩) cs.length cs.length] 27)
  have hs := c.below.size
  have h1 := c.own
  have h2 := c.own'
  refine ⟨(o.on c.below).on hb, heap_alloc_new W' _, (hb.block _ (Array.getElem?_eq_some_iff.1 c.row).1).trans c.row, (hb.block _ (Array.getElem?_eq_some_iff.1 c.row').1).trans c.row', ?_, ?_⟩
  · exact o.dep.row.imp id fun ⟨_, h3, _⟩ => ⟨by omega, by omega, by omega⟩
  · exact o.bat.row.imp id fun ⟨_, h3, _⟩ => ⟨by omega, by omega, by omega⟩
/-- Fifteen cells: the copy's, the argument's, the call's own. -/
theorem Got.all {w W : World} {a b q : Int} {v u : Value} {ds : List Idn} {cs : List Cmdn} {h g k g' k' t x y : Nat} (z : Got w a b q v u ds cs h g k g' k' t x y W) {n m : Nat} (hn : n = ds.length) (hm : m = cs.length) :
    W.cell? ⟨t, 0, none⟩ = some (.int .i64 a) ∧ W.cell? ⟨t, 1, none⟩ = some (.int .i64 b) ∧ W.cell? ⟨t, 2, none⟩ = some (.int .i64 q) ∧ W.cell? ⟨t, 3, none⟩ = some (.slice (some ⟨x, 0, none⟩) n n) ∧ W.cell? ⟨t, 4, none⟩ = some (.slice (some ⟨y, 0, none⟩) m m) ∧
    W.cell? ⟨w.heap.size, 0, none⟩ = some (.int .i64 a) ∧ W.cell? ⟨w.heap.size, 1, none⟩ = some (.int .i64 b) ∧ W.cell? ⟨w.heap.size, 2, none⟩ = some (.int .i64 q) ∧ W.cell? ⟨w.heap.size, 3, none⟩ = some v ∧ W.cell? ⟨w.heap.size, 4, none⟩ = some u ∧
    W.cell? ⟨h, 0, none⟩ = some (.int .i64 a) ∧ W.cell? ⟨h, 1, none⟩ = some (.int .i64 b) ∧ W.cell? ⟨h, 2, none⟩ = some (.int .i64 q) ∧ W.cell? ⟨h, 3, none⟩ = some (.slice (some ⟨g, 0, none⟩) n k) ∧ W.cell? ⟨h, 4, none⟩ = some (.slice (some ⟨g', 0, none⟩) m k') := by
  subst hn; subst hm
  exact ⟨cell_row z.cell rfl, cell_row z.cell rfl, cell_row z.cell rfl, cell_row z.cell rfl, cell_row z.cell rfl, z.own.box.c0, z.own.box.c1, z.own.box.c2, z.own.box.c3, z.own.box.c4, cell_row z.own.own rfl, cell_row z.own.own rfl, cell_row z.own.own rfl, cell_row z.own.own rfl, cell_row z.own.own rfl⟩

/-! ### While the call's own copy is written over -/
structure Kept (w : World) (a b q : Int) (v u : Value) (ds : List Idn) (cs : List Cmdn) (h g k g' k' t x y : Nat) (W : World) : Prop where
  box : BoxR w w.heap.size a b q v u W
  own : W.heap[h]? = some (.cells #[.int .i64 a, .int .i64 b, .int .i64 q, .slice (some ⟨g, 0, none⟩) ds.length k, .slice (some ⟨g', 0, none⟩) cs.length k'] 27 (0, 0))
  cell : W.heap[t]? = some (.cells #[.int .i64 a, .int .i64 b, .int .i64 q, .slice (some ⟨x, 0, none⟩) ds.length ds.length, .slice (some ⟨y, 0, none⟩) cs.length cs.length] 27 (0, 0))
  rx : W.heap[x]? = some (.cells (flat ds).toArray 23 (0, 0))
  ry : W.heap[y]? = some (.cells (flatC cs).toArray 36 (0, 0))
  dep : ds.length = 0 ∨ (w.heap.size < g ∧ g ≠ h ∧ g ≠ x ∧ g ≠ y ∧ g ≠ t ∧ ∃ cur, W.heap[g]? = some (.cells cur 23 (0, 0)) ∧ ds.length * 2 ≤ cur.size)
  bat : cs.length = 0 ∨ (w.heap.size < g' ∧ g' ≠ h ∧ g' ≠ x ∧ g' ≠ y ∧ g' ≠ t ∧ ∃ cur, W.heap[g']? = some (.cells cur 36 (0, 0)) ∧ cs.length * 3 ≤ cur.size)
  ap : ds.length = 0 ∨ cs.length = 0 ∨ g ≠ g'
theorem Got.kept {w W : World} {a b q : Int} {v u : Value} {ds : List Idn} {cs : List Cmdn} {h g k g' k' t x y : Nat} (z : Got w a b q v u ds cs h g k g' k' t x y W) : Kept w a b q v u ds cs h g k g' k' t x y W := by
  refine ⟨z.own.box, z.own.own, z.cell, z.rx, z.ry, ?_, ?_, z.own.d3⟩
  · rcases z.own.dep.row with h0 | ⟨h1, -, cur, h2, h3, -⟩
    · exact .inl h0
    · rcases z.own.d1 with h0 | hd
      · exact .inl h0
      · rcases z.ap.1 with h0 | ⟨e1, e2, e3⟩
        · exact .inl h0
        · exact .inr ⟨by omega, hd, e1, e2, e3, cur, h2, h3⟩
  · rcases z.own.bat.row with h0 | ⟨h1, -, cur, h2, h3, -⟩
    · exact .inl h0
    · rcases z.own.d2 with h0 | hd
      · exact .inl h0
      · rcases z.ap.2 with h0 | ⟨e1, e2, e3⟩
        · exact .inl h0
        · exact .inr ⟨by omega, hd, e1, e2, e3, cur, h2, h3⟩
/-- One block of the call's own turns, its cells' number not. -/
structure Turned (g : Nat) (t : TypeId) (W W' : World) : Prop where
  far : ∀ k, k ≠ g → W'.heap[k]? = W.heap[k]?
  size : W'.heap.size = W.heap.size
  row : ∀ cur, W.heap[g]? = some (.cells cur t (0, 0)) → ∃ cur', W'.heap[g]? = some (.cells cur' t (0, 0)) ∧ cur'.size = cur.size
  low : ∀ B a, Below B a W → B ≤ g → Below B a W'
theorem Turned.set (W : World) (g i : Nat) (t : TypeId) (v : Value) : Turned g t W (W.setCell ⟨g, i, none⟩ v) :=
  ⟨fun k hk => Below.heap_setCell _ _ _ _ hk, size_sc _ _ _, fun cur hc => ⟨_, heap_set hc i v, by simp⟩, fun B a h hB => h.setCell (p := ⟨g, i, none⟩) hB v⟩
theorem Turned.trans {g : Nat} {t : TypeId} {W W' W2 : World} (h : Turned g t W W') (h' : Turned g t W' W2) : Turned g t W W2 :=
  ⟨fun k hk => (h'.far k hk).trans (h.far k hk), h'.size.trans h.size, fun cur hc => by
    obtain ⟨c1, e1, s1⟩ := h.row cur hc
    obtain ⟨c2, e2, s2⟩ := h'.row c1 e1
    exact ⟨c2, e2, s2.trans s1⟩, fun B a hb hB => h'.low B a (h.low B a hb hB) hB⟩
theorem BoxR.turned {w W W' : World} {g0 g : Nat} {t : TypeId} {a b q : Int} {v u : Value} (hx : BoxR w g0 a b q v u W) (h : Turned g t W W') (hne : g0 ≠ g) (hw : w.heap.size ≤ g) : BoxR w g0 a b q v u W' := by
  have e : ∀ i, W'.cell? ⟨g0, i, none⟩ = W.cell? ⟨g0, i, none⟩ := fun i => World.cell?_of_block (w := W) (h.far g0 hne)
  exact ⟨h.low _ _ hx.below hw, hx.own, by rw [h.size]; exact hx.lt, (e 0).trans hx.c0, (e 1).trans hx.c1, (e 2).trans hx.c2, (e 3).trans hx.c3, (e 4).trans hx.c4⟩
theorem Kept.dep1 {w W W' : World} {a b q : Int} {v u : Value} {ds : List Idn} {cs : List Cmdn} {h g k g' k' t x y : Nat} (z : Kept w a b q v u ds cs h g k g' k' t x y W) (hz : ds.length ≠ 0) (ht : Turned g 23 W W') : Kept w a b q v u ds cs h g k g' k' t x y W' := by
  obtain ⟨h1, n1, n2, n3, n4, cur, hc, hs⟩ := z.dep.resolve_left hz
  obtain ⟨cur', hc', hs'⟩ := ht.row cur hc
  refine ⟨z.box.turned ht (by omega) (by omega), (ht.far _ n1.symm).trans z.own, (ht.far _ n4.symm).trans z.cell, (ht.far _ n2.symm).trans z.rx, (ht.far _ n3.symm).trans z.ry, .inr ⟨h1, n1, n2, n3, n4, cur', hc', by rw [hs']; exact hs⟩, ?_, z.ap⟩
  rcases z.bat with h0 | ⟨m1, m2, m3, m4, m5, cur2, hc2, hs2⟩
  · exact .inl h0
  · rcases z.ap with h0 | h0 | h0
    · exact absurd h0 hz
    · exact .inl h0
    · exact .inr ⟨m1, m2, m3, m4, m5, cur2, (ht.far _ h0.symm).trans hc2, hs2⟩
theorem Kept.bat1 {w W W' : World} {a b q : Int} {v u : Value} {ds : List Idn} {cs : List Cmdn} {h g k g' k' t x y : Nat} (z : Kept w a b q v u ds cs h g k g' k' t x y W) (hz : cs.length ≠ 0) (ht : Turned g' 36 W W') : Kept w a b q v u ds cs h g k g' k' t x y W' := by
  obtain ⟨h1, n1, n2, n3, n4, cur, hc, hs⟩ := z.bat.resolve_left hz
  obtain ⟨cur', hc', hs'⟩ := ht.row cur hc
  refine ⟨z.box.turned ht (by omega) (by omega), (ht.far _ n1.symm).trans z.own, (ht.far _ n4.symm).trans z.cell, (ht.far _ n2.symm).trans z.rx, (ht.far _ n3.symm).trans z.ry, ?_, .inr ⟨h1, n1, n2, n3, n4, cur', hc', by rw [hs']; exact hs⟩, z.ap⟩
  rcases z.dep with h0 | ⟨m1, m2, m3, m4, m5, cur2, hc2, hs2⟩
  · exact .inl h0
  · rcases z.ap with h0 | h0 | h0
    · exact .inl h0
    · exact absurd h0 hz
    · exact .inr ⟨m1, m2, m3, m4, m5, cur2, (ht.far _ h0).trans hc2, hs2⟩
/-- A cell of a row there: something lies in it, and it may be written. -/
theorem there {W : World} {g i : Nat} {cur : Array Value} {t : TypeId} (hg : W.heap[g]? = some (.cells cur t (0, 0))) (hi : i < cur.size) : ∃ x, W.cell? ⟨g, i, none⟩ = some x ∧ W.frozen? ⟨g, i, none⟩ = false :=
  ⟨cur[i], cell_row hg (Array.getElem?_eq_getElem hi), free_row hg⟩
theorem OwnAt.five {w W : World} {a b q : Int} {v u : Value} {ds : List Idn} {cs : List Cmdn} {h g k g' k' : Nat} (z : OwnAt w a b q v u ds cs h g k g' k' W) {n m : Nat} (hn : n = ds.length) (hm : m = cs.length) :
    W.cell? ⟨h, 0, none⟩ = some (.int .i64 a) ∧ W.cell? ⟨h, 1, none⟩ = some (.int .i64 b) ∧ W.cell? ⟨h, 2, none⟩ = some (.int .i64 q) ∧ W.cell? ⟨h, 3, none⟩ = some (.slice (some ⟨g, 0, none⟩) n k) ∧ W.cell? ⟨h, 4, none⟩ = some (.slice (some ⟨g', 0, none⟩) m k') := by
  subst hn; subst hm
  exact ⟨cell_row z.own rfl, cell_row z.own rfl, cell_row z.own rfl, cell_row z.own rfl, cell_row z.own rfl⟩
theorem rsame_self (a b q : Int) (ds : List Idn) (cs : List Cmdn) : rSame a b q ds cs a b q ds cs = true := by
  unfold rSame
  rw [decide_eq_true rfl, decide_eq_true rfl, decide_eq_true rfl, bsame_yes rfl fun j hj => by unfold Bat.same cSame; simp [same]]
  rfl
theorem Kept.all {w W : World} {a b q : Int} {v u : Value} {ds : List Idn} {cs : List Cmdn} {h g k g' k' t x y : Nat} (z : Kept w a b q v u ds cs h g k g' k' t x y W) {n m : Nat} (hn : n = ds.length) (hm : m = cs.length) :
    W.cell? ⟨t, 0, none⟩ = some (.int .i64 a) ∧ W.cell? ⟨t, 1, none⟩ = some (.int .i64 b) ∧ W.cell? ⟨t, 2, none⟩ = some (.int .i64 q) ∧ W.cell? ⟨t, 3, none⟩ = some (.slice (some ⟨x, 0, none⟩) n n) ∧ W.cell? ⟨t, 4, none⟩ = some (.slice (some ⟨y, 0, none⟩) m m) ∧
    W.cell? ⟨w.heap.size, 0, none⟩ = some (.int .i64 a) ∧ W.cell? ⟨w.heap.size, 1, none⟩ = some (.int .i64 b) ∧ W.cell? ⟨w.heap.size, 2, none⟩ = some (.int .i64 q) ∧ W.cell? ⟨w.heap.size, 3, none⟩ = some v ∧ W.cell? ⟨w.heap.size, 4, none⟩ = some u ∧
    W.cell? ⟨h, 0, none⟩ = some (.int .i64 a) ∧ W.cell? ⟨h, 1, none⟩ = some (.int .i64 b) ∧ W.cell? ⟨h, 2, none⟩ = some (.int .i64 q) ∧ W.cell? ⟨h, 3, none⟩ = some (.slice (some ⟨g, 0, none⟩) n k) ∧ W.cell? ⟨h, 4, none⟩ = some (.slice (some ⟨g', 0, none⟩) m k') := by
  subst hn; subst hm
  exact ⟨cell_row z.cell rfl, cell_row z.cell rfl, cell_row z.cell rfl, cell_row z.cell rfl, cell_row z.cell rfl, z.box.c0, z.box.c1, z.box.c2, z.box.c3, z.box.c4, cell_row z.own rfl, cell_row z.own rfl, cell_row z.own rfl, cell_row z.own rfl, cell_row z.own rfl⟩

end Go.Proofs.Ytkafhepgonidkaa.Rec
