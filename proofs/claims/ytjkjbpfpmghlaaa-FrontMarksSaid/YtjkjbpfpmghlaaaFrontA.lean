/- What a front is (layer 5, front): plain (marked ids, floors, what stands above) and in memory (nine cells and a set of ids). Conditions: those in each statement. -/
import Derived.Test.YtjkjbpfpmghlaaaSetC
namespace Go.Proofs.Ytjkjbpfpmghlaaa
open Go.RowKit Go.Maps
set_option linter.unusedVariables false

/-! ### Plain -/
/-- n is the floor of replica r. -/
def IsFl (ms : List Idn) (r : Int) (n : Nat) : Prop := (∀ j : Int, 1 ≤ j → j ≤ n → (r, j) ∈ ms) ∧ (r, (n : Int) + 1) ∉ ms
theorem IsFl.uniq {ms : List Idn} {r : Int} {n k : Nat} (h : IsFl ms r n) (g : IsFl ms r k) : n = k := by
  rcases Nat.lt_trichotomy n k with h1 | h1 | h1
  · exact absurd (g.1 ((n : Int) + 1) (by omega) (by omega)) h.2
  · exact h1
  · exact absurd (h.1 ((k : Int) + 1) (by omega) (by omega)) g.2
noncomputable def flr (ms : List Idn) (r : Int) : Nat := Classical.epsilon fun n => IsFl ms r n
theorem flr_eq {ms : List Idn} {r : Int} {n : Nat} (h : IsFl ms r n) : flr ms r = n := (Classical.epsilon_spec (p := fun n => IsFl ms r n) ⟨n, h⟩).uniq h
noncomputable def abv (ms : List Idn) : List Idn := ms.filter fun x => decide ((flr ms x.1 : Int) < x.2)
def upd (fs : Nat → Int) (r : Nat) (v : Int) (k : Nat) : Int := if k = r then v else fs k
def sum8 (fs : Nat → Int) : Int := fs 0 + fs 1 + fs 2 + fs 3 + fs 4 + fs 5 + fs 6 + fs 7
theorem sum8_upd (fs : Nat → Int) (r : Nat) (h : r < 8) : sum8 (upd fs r (fs r + 1)) = sum8 fs + 1 := by
  have : r = 0 ∨ r = 1 ∨ r = 2 ∨ r = 3 ∨ r = 4 ∨ r = 5 ∨ r = 6 ∨ r = 7 := by omega
  unfold sum8 upd
  rcases this with rfl | rfl | rfl | rfl | rfl | rfl | rfl | rfl <;> simp <;> omega
theorem right_iff (x : Idn) : idRight x = true ↔ 0 ≤ x.1 ∧ x.1 < 8 ∧ 1 ≤ x.2 ∧ x.2 ≤ 1048576 := by unfold idRight; rw [decide_eq_true_eq]
/-- What is marked, told by floors and a list of those above; a floor may lag behind. -/
structure Marks (ms : List Idn) (fs : Nat → Int) (zs : List Idn) : Prop where
  rise : Rise ms
  right : ∀ x ∈ ms, idRight x = true
  nn : ∀ r, r < 8 → 0 ≤ fs r
  low : ∀ r : Nat, r < 8 → ∀ j : Int, 1 ≤ j → j ≤ fs r → ((r : Int), j) ∈ ms
  eqz : zs = ms.filter fun x => decide (fs x.1.toNat < x.2)
  cnt : (ms.length : Int) = zs.length + sum8 fs
def Gap (ms : List Idn) (fs : Nat → Int) : Prop := ∀ r : Nat, r < 8 → ((r : Int), fs r + 1) ∉ ms
theorem Marks.start : Marks [] (fun _ => 0) [] := ⟨.nil, (fun x h => by cases h), fun r _ => Int.le_refl _, (fun r _ j h1 h2 => by omega), rfl, rfl⟩
theorem gap_start : Gap [] (fun _ => 0) := fun r _ h => by cases h
theorem Marks.top {ms : List Idn} {fs : Nat → Int} {zs : List Idn} (h : Marks ms fs zs) {r : Nat} (hr : r < 8) : fs r ≤ 1048576 := by
  by_cases h0 : fs r ≤ 0
  · omega
  · have := (right_iff _).1 (h.right _ (h.low r hr (fs r) (by omega) (Int.le_refl _)))
    exact this.2.2.2
theorem Marks.riseZ {ms : List Idn} {fs : Nat → Int} {zs : List Idn} (h : Marks ms fs zs) : Rise zs := by rw [h.eqz]; exact h.rise.filter _
theorem Marks.memZ {ms : List Idn} {fs : Nat → Int} {zs : List Idn} (h : Marks ms fs zs) (x : Idn) : x ∈ zs ↔ x ∈ ms ∧ fs x.1.toNat < x.2 := by rw [h.eqz, List.mem_filter, decide_eq_true_eq]
theorem Marks.lenZ {ms : List Idn} {fs : Nat → Int} {zs : List Idn} (h : Marks ms fs zs) : zs.length ≤ ms.length := by rw [h.eqz]; exact List.length_filter_le _ _
theorem Marks.hasLow {ms : List Idn} {fs : Nat → Int} {zs : List Idn} (h : Marks ms fs zs) {r : Nat} {j : Int} (hr : r < 8) (h1 : 1 ≤ j) : ((r : Int), j) ∈ ms ↔ j ≤ fs r ∨ ((r : Int), j) ∈ zs := by
  rw [h.memZ]
  show _ ↔ _ ∨ _ ∧ fs ((r : Int)).toNat < j
  rw [Int.toNat_natCast]
  constructor
  · intro hm
    by_cases hj : j ≤ fs r
    · exact .inl hj
    · exact .inr ⟨hm, by omega⟩
  · rintro (hj | ⟨hm, _⟩)
    · exact h.low r hr j h1 hj
    · exact hm
theorem Marks.isFl {ms : List Idn} {fs : Nat → Int} {zs : List Idn} (h : Marks ms fs zs) (hg : Gap ms fs) {r : Nat} (hr : r < 8) : IsFl ms (r : Int) (fs r).toNat := by
  have := h.nn r hr
  refine ⟨fun j h1 h2 => h.low r hr j h1 (by omega), ?_⟩
  rw [Int.toNat_of_nonneg this]; exact hg r hr
theorem Marks.flr {ms : List Idn} {fs : Nat → Int} {zs : List Idn} (h : Marks ms fs zs) (hg : Gap ms fs) {r : Nat} (hr : r < 8) : fs r = (Go.Proofs.Ytjkjbpfpmghlaaa.flr ms (r : Int) : Int) := by
  rw [flr_eq (h.isFl hg hr), Int.toNat_of_nonneg (h.nn r hr)]
theorem Marks.abv {ms : List Idn} {fs : Nat → Int} {zs : List Idn} (h : Marks ms fs zs) (hg : Gap ms fs) : zs = Go.Proofs.Ytjkjbpfpmghlaaa.abv ms := by
  rw [h.eqz]
  unfold Go.Proofs.Ytjkjbpfpmghlaaa.abv
  refine List.filter_congr fun x hx => ?_
  have := (right_iff x).1 (h.right x hx)
  have e := h.flr hg (r := x.1.toNat) (by omega)
  rw [Int.toNat_of_nonneg this.1] at e
  rw [e]
/-- The floor goes up by one. -/
theorem Marks.up {ms : List Idn} {fs : Nat → Int} {zs : List Idn} (h : Marks ms fs zs) {r : Nat} (hr : r < 8) (hm : ((r : Int), fs r + 1) ∈ zs) : Marks ms (upd fs r (fs r + 1)) (del zs ((r : Int), fs r + 1)) := by
  have hms := ((h.memZ _).1 hm).1
  have h0 := h.nn r hr
  refine ⟨h.rise, h.right, fun k hk => ?_, fun k hk j h1 h2 => ?_, ?_, ?_⟩
  · unfold upd; split
    · omega
    · exact h.nn k hk
  · unfold upd at h2
    split at h2
    · rename_i e; subst e
      by_cases hj : j ≤ fs k
      · exact h.low k hk j h1 hj
      · rw [show j = fs k + 1 by omega]; exact hms
    · exact h.low k hk j h1 h2
  · refine rise_eq (del_rise h.riseZ _) (h.rise.filter _) fun x => ?_
    rw [del_mem, h.memZ, List.mem_filter, decide_eq_true_eq]
    unfold upd
    constructor
    · rintro ⟨⟨h1, h2⟩, h3⟩
      refine ⟨h1, ?_⟩
      split
      · rename_i e
        have h4 := (right_iff x).1 (h.right x h1)
        rw [e] at h2
        by_cases hx : x.2 = fs r + 1
        · exact absurd (Prod.ext (show x.1 = (r : Int) by omega) hx) h3
        · omega
      · exact h2
    · rintro ⟨h1, h2⟩
      split at h2
      · rename_i e
        refine ⟨⟨h1, by rw [e]; omega⟩, fun e2 => ?_⟩
        rw [e2] at h2
        exact absurd h2 (Int.lt_irrefl _)
      · rename_i e
        exact ⟨⟨h1, h2⟩, fun e2 => e (by rw [e2]; exact Int.toNat_natCast r)⟩
  · have h1 := del_len (x := ((r : Int), fs r + 1)) (rise_nodup h.riseZ)
    rw [if_pos hm] at h1
    rw [sum8_upd fs r hr]
    have := h.cnt
    omega
/-- One more is marked. -/
theorem Marks.more {ms : List Idn} {fs : Nat → Int} {zs : List Idn} (h : Marks ms fs zs) {x : Idn} (hx : idRight x = true) (hm : x ∉ ms) : Marks (put ms x) fs (put zs x) := by
  have h4 := (right_iff x).1 hx
  have hz : x ∉ zs := fun hz => hm ((h.memZ x).1 hz).1
  have hf : fs x.1.toNat < x.2 := by
    rcases Int.lt_or_le (fs x.1.toNat) x.2 with h5 | h5
    · exact h5
    · have := h.low x.1.toNat (by omega) x.2 h4.2.2.1 h5
      rw [Int.toNat_of_nonneg h4.1] at this
      exact absurd this hm
  refine ⟨put_rise h.rise, fun y hy => ?_, h.nn, fun k hk j h1 h2 => (put_mem ms x _).2 (.inr (h.low k hk j h1 h2)), ?_, ?_⟩
  · rcases (put_mem ms x y).1 hy with rfl | hy
    · exact hx
    · exact h.right y hy
  · refine rise_eq (put_rise h.riseZ) ((put_rise h.rise).filter _) fun y => ?_
    rw [put_mem, List.mem_filter, put_mem, h.memZ, decide_eq_true_eq]
    constructor
    · rintro (rfl | ⟨h1, h2⟩)
      · exact ⟨.inl rfl, hf⟩
      · exact ⟨.inr h1, h2⟩
    · rintro ⟨rfl | h1, h2⟩
      · exact .inl rfl
      · exact .inr ⟨h1, h2⟩
  · rw [put_len hm, put_len hz]
    have := h.cnt
    omega
theorem Gap.more {ms : List Idn} {fs fs' : Nat → Int} {x : Idn} (h : Gap ms fs) (hx : idRight x = true) (he : ∀ k, k ≠ x.1.toNat → fs' k = fs k) (hn : (x.1, fs' x.1.toNat + 1) ∉ put ms x) : Gap (put ms x) fs' := fun r hr hm => by
  have h4 := (right_iff x).1 hx
  by_cases e : r = x.1.toNat
  · subst e
    rw [Int.toNat_of_nonneg h4.1] at hm
    exact hn hm
  · rw [he r e] at hm
    rcases (put_mem ms x _).1 hm with e2 | hm
    · exact e (by rw [← e2]; exact (Int.toNat_natCast r).symm)
    · exact h r hr hm

/-! ### In memory -/
structure FrontI (w : World) (g s m : Nat) (fs : Nat → Int) (zs : List Idn) : Prop where
  flr : ∀ r, r < 8 → w.cell? ⟨g, r, none⟩ = some (.int .i64 (fs r))
  fre : ∀ r, r < 8 → w.frozen? ⟨g, r, none⟩ = false
  ptr : w.cell? ⟨g, 8, none⟩ = some (.pointer (some ⟨s, 0, none⟩))
  set : SetP w s m zs
theorem FrontI.lt {w : World} {g s m : Nat} {fs : Nat → Int} {zs : List Idn} (h : FrontI w g s m fs zs) : g < w.heap.size := World.block_lt_of_cell? _ _ h.ptr
theorem FrontI.ne_m {w : World} {g s m : Nat} {fs : Nat → Int} {zs : List Idn} (h : FrontI w g s m fs zs) : g ≠ m := by
  obtain ⟨es, c, hb⟩ := h.set.set.isMap
  exact cell_not_map h.ptr hb
theorem FrontI.ne_s {w : World} {g s m : Nat} {fs : Nat → Int} {zs : List Idn} (h : FrontI w g s m fs zs) : g ≠ s := fun e => by
  have h1 := h.flr 0 (by decide)
  have h2 := h.set.cell
  rw [← e, h1] at h2
  cases h2
/-- The three blocks of a front as they were. -/
theorem FrontI.blocks {w w' : World} {g s m : Nat} {fs : Nat → Int} {zs : List Idn} (h : FrontI w g s m fs zs) (hs : w.heap.size ≤ w'.heap.size) (e1 : w'.heap[g]? = w.heap[g]?) (e2 : w'.heap[s]? = w.heap[s]?) (e3 : w'.heap[m]? = w.heap[m]?) : FrontI w' g s m fs zs :=
  ⟨fun r hr => (World.cell?_of_block (w := w) (a := ⟨g, r, none⟩) e1).trans (h.flr r hr), fun r hr => (World.frozen?_of_block (w := w) (a := ⟨g, r, none⟩) e1).trans (h.fre r hr), (World.cell?_of_block (w := w) (a := ⟨g, 8, none⟩) e1).trans h.ptr,
   ⟨(World.cell?_of_block (w := w) (a := ⟨s, 0, none⟩) e2).trans h.set.cell, Nat.lt_of_lt_of_le h.set.lt hs, h.set.set.block e3⟩⟩
theorem FrontI.on {w w' : World} {g s m : Nat} {fs : Nat → Int} {zs : List Idn} (h : FrontI w g s m fs zs) (hb : Below w.heap.size w w') : FrontI w' g s m fs zs :=
  h.blocks hb.size (hb.block g h.lt) (hb.block s h.set.lt) (hb.block m h.set.set.lt)
/-- Behind a call that has turned the set. -/
theorem FrontI.turn {w w' : World} {g s m : Nat} {fs : Nat → Int} {zs ys : List Idn} (h : FrontI w g s m fs zs) (ht : Turns s m ys w w') : FrontI w' g s m fs ys := by
  have e1 := ht.grown.block g h.lt (fun e => h.ne_m (by injection e))
  exact ⟨fun r hr => (World.cell?_of_block (w := w) (a := ⟨g, r, none⟩) e1).trans (h.flr r hr), fun r hr => (World.frozen?_of_block (w := w) (a := ⟨g, r, none⟩) e1).trans (h.fre r hr), (World.cell?_of_block (w := w) (a := ⟨g, 8, none⟩) e1).trans h.ptr, ht.set⟩
/-- Behind a store of a floor. -/
theorem FrontI.store {w : World} {g s m : Nat} {fs : Nat → Int} {zs : List Idn} (h : FrontI w g s m fs zs) (r : Nat) (hr : r < 8) (v : Int) : FrontI (w.setCell ⟨g, r, none⟩ (.int .i64 v)) g s m (upd fs r v) zs := by
  have e2 := Below.heap_setCell w ⟨g, r, none⟩ (.int .i64 v) s (fun e => h.ne_s e.symm)
  have e3 := Below.heap_setCell w ⟨g, r, none⟩ (.int .i64 v) m (fun e => h.ne_m e.symm)
  refine ⟨fun k hk => ?_, fun k hk => by rw [World.frozen?_setCell]; exact h.fre k hk, ?_, ⟨(World.cell?_of_block (w := w) (a := ⟨s, 0, none⟩) e2).trans h.set.cell, by simpa [World.setCell] using h.set.lt, h.set.set.block e3⟩⟩
  · unfold upd
    by_cases e : k = r
    · subst e; rw [if_pos rfl]; exact World.cell?_setCell_same _ _ _ (h.flr k hk)
    · rw [if_neg e, World.cell?_setCell_other _ _ _ _ (by intro e2; injection e2 with _ e2 _; omega)]; exact h.flr k hk
  · rw [World.cell?_setCell_other _ _ _ _ (by intro e2; injection e2 with _ e2 _; omega)]; exact h.ptr

/-- Nothing that was there has turned but two blocks. -/
structure Save (g m : Nat) (w w' : World) : Prop where
  os : w'.os = w.os
  tape : w'.tape = w.tape
  output : w'.output = w.output
  size : w.heap.size ≤ w'.heap.size
  block : ∀ k, k < w.heap.size → k ≠ g → k ≠ m → w'.heap[k]? = w.heap[k]?
theorem Save.refl (g m : Nat) (w : World) : Save g m w w := ⟨rfl, rfl, rfl, Nat.le_refl _, fun _ _ _ _ => rfl⟩
theorem Save.trans {g m : Nat} {a b c : World} (h : Save g m a b) (k : Save g m b c) : Save g m a c :=
  ⟨k.os.trans h.os, k.tape.trans h.tape, k.output.trans h.output, Nat.le_trans h.size k.size, fun i h1 h2 h3 => (k.block i (Nat.lt_of_lt_of_le h1 h.size) h2 h3).trans (h.block i h1 h2 h3)⟩
theorem Save.of {g m : Nat} {w w' : World} (h : Below w.heap.size w w') : Save g m w w' := ⟨h.os, h.tape, h.output, h.size, fun k hk _ _ => h.block k hk⟩
theorem Save.grown {g m : Nat} {w w' : World} (h : w.grownBy w' (some m)) : Save g m w w' := ⟨h.os, h.tape, h.output, h.size, fun k h1 _ h3 => h.block k h1 (fun e => h3 (by injection e))⟩
theorem Save.store (g m : Nat) (w : World) (o : Nat) (u : Value) : Save g m w (w.setCell ⟨g, o, none⟩ u) := ⟨rfl, rfl, rfl, by simp [World.setCell], fun k _ h2 _ => Below.heap_setCell _ _ _ _ h2⟩
theorem Save.below {g m base : Nat} {w w' : World} (h : Save g m w w') (h1 : base ≤ g) (h2 : base ≤ m) (h3 : base ≤ w.heap.size) : Below base w w' := ⟨h.os, h.tape, h.output, h.size, fun k hk => h.block k (by omega) (by omega) (by omega)⟩
theorem Save.front {g m g' s' m' : Nat} {w w' : World} {fs : Nat → Int} {zs : List Idn} (h : Save g m w w') (k : FrontI w g' s' m' fs zs) {s : Nat} {fs2 : Nat → Int} {ys : List Idn} (l : FrontI w g s m fs2 ys) (h1 : g' ≠ g) (h2 : m' ≠ m) : FrontI w' g' s' m' fs zs := by
  obtain ⟨es, c, hb⟩ := k.set.set.isMap
  obtain ⟨es2, c2, hb2⟩ := l.set.set.isMap
  have n1 : g' ≠ m := cell_not_map k.ptr hb2
  have n2 : s' ≠ m := cell_not_map k.set.cell hb2
  have n3 : g ≠ m' := cell_not_map l.ptr hb
  have n4 : s' ≠ g := fun e => by
    have a1 := l.flr 0 (by decide)
    have a2 := k.set.cell
    rw [e, a1] at a2; cases a2
  exact k.blocks h.size (h.block g' k.lt h1 n1) (h.block s' k.set.lt n4 n2) (h.block m' k.set.set.lt n3.symm h2)
/-- A row's cells lie in another block than g. -/
def Away (v : Value) (zs : List Idn) (g : Nat) : Prop := zs ≠ [] → ∀ k, v.ownBlock = some k → k ≠ g
theorem Save.row {g s m : Nat} {w w' : World} {v : Value} {zs ys : List Idn} {fs : Nat → Int} (h : Save g m w w') (hr : RowAt w v zs) (ha : Away v zs g) (l : FrontI w g s m fs ys) : RowAt w' v zs := by
  obtain ⟨es, c, hm⟩ := l.set.set.isMap
  obtain ⟨p, cap, rfl, h1, h2, h0, h3⟩ := hr
  refine ⟨p, cap, rfl, h1, h2, h0, fun hz => ?_⟩
  obtain ⟨B, off, rfl, hlt, hc⟩ := h3 hz
  have hpos : 0 < zs.length := List.length_pos_iff.2 hz
  have hne := cell_not_map (hc 0 hpos).1 hm
  have hB := h.block B hlt (ha hz B rfl) hne
  exact ⟨B, off, rfl, Nat.lt_of_lt_of_le hlt h.size, fun j hj => ⟨(World.cell?_of_block (w := w) (a := ⟨B, _, none⟩) hB).trans (hc j hj).1, (World.cell?_of_block (w := w) (a := ⟨B, _, none⟩) hB).trans (hc j hj).2⟩⟩

/-- A front with just these ids marked. -/
def FrontP (w : World) (g s m : Nat) (ms : List Idn) : Prop := ∃ fs zs, FrontI w g s m fs zs ∧ Marks ms fs zs ∧ Gap ms fs
theorem FrontP.on {w w' : World} {g s m : Nat} {ms : List Idn} (h : FrontP w g s m ms) (hb : Below w.heap.size w w') : FrontP w' g s m ms := by
  obtain ⟨fs, zs, h1, h2⟩ := h; exact ⟨fs, zs, h1.on hb, h2⟩
theorem FrontP.lt {w : World} {g s m : Nat} {ms : List Idn} (h : FrontP w g s m ms) : g < w.heap.size ∧ m < w.heap.size := by
  obtain ⟨fs, zs, h1, h2⟩ := h; exact ⟨h1.lt, h1.set.set.lt⟩
theorem FrontP.rise {w : World} {g s m : Nat} {ms : List Idn} (h : FrontP w g s m ms) : Rise ms := by obtain ⟨fs, zs, h1, h2, _⟩ := h; exact h2.rise
theorem FrontP.right {w : World} {g s m : Nat} {ms : List Idn} (h : FrontP w g s m ms) : ∀ x ∈ ms, idRight x = true := by obtain ⟨fs, zs, h1, h2, _⟩ := h; exact h2.right
theorem FrontP.save {w w' : World} {g s m g' s' m' : Nat} {ms ys : List Idn} (k : FrontP w g' s' m' ms) (h : Save g m w w') (l : FrontP w g s m ys) (h1 : g' ≠ g) (h2 : m' ≠ m) : FrontP w' g' s' m' ms := by
  obtain ⟨fs, zs, k1, k2⟩ := k
  obtain ⟨fs2, zs2, l1, l2⟩ := l
  exact ⟨fs, zs, h.front k1 l1 h1 h2, k2⟩
theorem FrontP.saveRow {w w' : World} {g s m : Nat} {ms zs : List Idn} {v : Value} (l : FrontP w g s m ms) (h : Save g m w w') (hr : RowAt w v zs) (ha : Away v zs g) : RowAt w' v zs := by
  obtain ⟨fs2, zs2, l1, l2⟩ := l
  exact h.row hr ha l1
end Go.Proofs.Ytjkjbpfpmghlaaa
