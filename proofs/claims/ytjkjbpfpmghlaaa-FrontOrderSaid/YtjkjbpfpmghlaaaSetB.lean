/- What the program's sets of ids give (layer 4, idset): Has, Len, Add, Remove, New. Condition: the set lies in memory as its cells and its map say; ids fit into their kind. -/
import Derived.Test.YtjkjbpfpmghlaaaIdD
import Derived.Test.YtjkjbpfpmghlaaaSetA
namespace Go.Proofs.Ytjkjbpfpmghlaaa
open Go.RowKit Go.Maps
set_option linter.unusedVariables false

/-! ### A set in memory -/
structure SetP (w : World) (g b : Nat) (zs : List Idn) : Prop where
  cell : w.cell? ⟨g, 0, none⟩ = some (.map (some b))
  lt : g < w.heap.size
  set : IsSet w b zs
def setPtr (g : Nat) : Value := .pointer (some ⟨g, 0, none⟩)
/-- A pointer that reads as a set: nil has none. -/
def SetAt (w : World) (v : Value) (zs : List Idn) : Prop := (v = .pointer none ∧ zs = []) ∨ ∃ g b, v = setPtr g ∧ SetP w g b zs
theorem SetP.on {w w' : World} {g b : Nat} {zs : List Idn} (h : SetP w g b zs) (hb : Below w.heap.size w w') : SetP w' g b zs :=
  ⟨(hb.cell (p := ⟨g, 0, none⟩) h.lt).trans h.cell, Nat.lt_of_lt_of_le h.lt hb.size, h.set.block (hb.block b h.set.lt)⟩
theorem SetAt.on {w w' : World} {v : Value} {zs : List Idn} (h : SetAt w v zs) (hb : Below w.heap.size w w') : SetAt w' v zs := by
  rcases h with h | ⟨g, b, rfl, h⟩
  · exact .inl h
  · exact .inr ⟨g, b, rfl, h.on hb⟩
theorem cell_not_map {w : World} {g o b : Nat} {v : Value} {es : Array MapEntry} {c : Nat} (h : w.cell? ⟨g, o, none⟩ = some v) (hb : w.heap[b]? = some (.map es c)) : g ≠ b := fun e => by
  subst e; simp [World.cell?, hb] at h
theorem SetP.ne {w : World} {g b : Nat} {zs : List Idn} (h : SetP w g b zs) : g ≠ b := by
  obtain ⟨es, c, hb⟩ := h.set.isMap
  exact cell_not_map h.cell hb
theorem turned_cell {w w' : World} {b : Nat} (h : w.mapTurned w' b) {g o : Nat} {v : Value} (hc : w.cell? ⟨g, o, none⟩ = some v) : w'.cell? ⟨g, o, none⟩ = some v := by
  have hg := h.grown
  obtain ⟨es, c, es', c', hb, rfl⟩ := h
  have hne := cell_not_map hc hb
  have hlt := World.block_lt_of_cell? _ _ hc
  exact (World.cell?_of_block (w := w) (a := ⟨g, o, none⟩) (hg.block g hlt (by simpa using hne))).trans hc
theorem SetP.turn {w w' : World} {g b : Nat} {zs ys : List Idn} (h : SetP w g b zs) (ht : w.mapTurned w' b) (hs : IsSet w' b ys) : SetP w' g b ys :=
  ⟨turned_cell ht h.cell, Nat.lt_of_lt_of_le h.lt ht.grown.size, hs⟩
theorem RowAt.turn {w w' : World} {b : Nat} {v : Value} {zs : List Idn} (h : RowAt w v zs) (ht : w.mapTurned w' b) : RowAt w' v zs := by
  obtain ⟨p, cap, rfl, h1, h2, h0, h3⟩ := h
  refine ⟨p, cap, rfl, h1, h2, h0, fun hz => ?_⟩
  obtain ⟨B, off, rfl, hlt, hc⟩ := h3 hz
  exact ⟨B, off, rfl, Nat.lt_of_lt_of_le hlt ht.grown.size, fun j hj => ⟨turned_cell ht (hc j hj).1, turned_cell ht (hc j hj).2⟩⟩

/-! ### Has -/
theorem box_cells (w : World) (a b : Int) : (w.alloc (.cells #[.int .i64 a, .int .i64 b] 24)).cell? ⟨w.heap.size, 0, none⟩ = some (.int .i64 a) ∧ (w.alloc (.cells #[.int .i64 a, .int .i64 b] 24)).cell? ⟨w.heap.size, 1, none⟩ = some (.int .i64 b) :=
  ⟨(Boxed.start w a b).fst, (Boxed.start w a b).snd⟩
set_option maxHeartbeats 1000000 in
theorem has_p (g m : Nat) (zs : List Idn) (a b : Int) (w : World) (h : SetP w g m zs) (hx : wfId (a, b)) : Calls Try.prog 25 #[.pointer (some ⟨g, 0, none⟩), .agg #[.int .i64 a, .int .i64 b]] w fun e w' => e = .returned (.bool (decide ((a, b) ∈ zs))) ∧ Below w.heap.size w w' := by
  have h1 := h.on (below_one w (cells a b))
  have c0 : (w.alloc (.cells #[.int .i64 a, .int .i64 b] 24)).cell? ⟨g, 0, none⟩ = some (.map (some m)) := h1.cell
  have c1 := (box_cells w a b).1
  have c2 := (box_cells w a b).2
  have hl : ∀ n, (Instr.lookup 48 (.map (some m)) (.agg #[.int .i64 a, .int .i64 b]) false).run Try.prog ((w.alloc (.cells #[.int .i64 a, .int .i64 b] 24)).drewN n) = .ok (.bool (decide ((a, b) ∈ zs))) ((w.alloc (.cells #[.int .i64 a, .int .i64 b] 24)).drewN n) :=
    fun n => IsSet.look (w := (w.alloc (.cells #[.int .i64 a, .int .i64 b] 24)).drewN n) h1.set hx
  generalize decide ((a, b) ∈ zs) = r at hl ⊢
  clear h1 h hx
  go_enter Try.func25, Try.ntmps25
  go_wp2
  go_quiet (fail)
  go_wp2
  go_ret
  exact ⟨rfl, below_drN (below_one _ _) _⟩
theorem has_nil (a b : Int) (w : World) : Calls Try.prog 25 #[.pointer none, .agg #[.int .i64 a, .int .i64 b]] w fun e w' => e = .returned (.bool false) ∧ Below w.heap.size w w' := by
  go_enter Try.func25, Try.ntmps25
  go_wp2
  go_quiet (fail)
  go_wp2
  go_ret
  exact ⟨rfl, below_drN (below_one _ _) _⟩
theorem sethas_any (v : Value) (zs : List Idn) (a b : Int) (w : World) (h : SetAt w v zs) (hx : wfId (a, b)) : Calls Try.prog 25 #[v, .agg #[.int .i64 a, .int .i64 b]] w fun e w' => e = .returned (.bool (decide ((a, b) ∈ zs))) ∧ Below w.heap.size w w' := by
  rcases h with ⟨rfl, rfl⟩ | ⟨g, m, rfl, h⟩
  · exact (has_nil a b w).mono fun e w' ⟨he, hb⟩ => ⟨by rw [he]; simp, hb⟩
  · exact has_p g m zs a b w h hx

/-! ### Len -/
theorem len_any (v : Value) (zs : List Idn) (w : World) (h : SetAt w v zs) : Calls Try.prog 24 #[v] w fun e w' => e = .returned (.int .i64 zs.length) ∧ w = w' := by
  rcases h with ⟨rfl, rfl⟩ | ⟨g, m, rfl, h⟩
  · go_enter Try.func24, Try.ntmps24
    go_wp2
    go_ret
    exact ⟨rfl, rfl⟩
  · unfold setPtr
    have c0 := h.cell
    have hl := fun ty => h.set.len ty
    clear h
    go_enter Try.func24, Try.ntmps24
    go_wp2
    go_ret
    exact ⟨rfl, rfl⟩

/-! ### Add -/
theorem grown_drN {w w' : World} {row : Option Nat} (h : w.grownBy w' row) (n : Nat) : w.grownBy (w'.drewN n) row := ⟨h.os, h.tape, h.output, h.size, h.block⟩
theorem choose_world {p : Nat → World → Prop} (h : ∀ n, ∃ w, p n w) : ∃ f : Nat → World, ∀ n, p n (f n) := ⟨fun n => Classical.choose (h n), fun n => Classical.choose_spec (h n)⟩
theorem add_nil (a b : Int) (w : World) : Calls Try.prog 21 #[.pointer none, .agg #[.int .i64 a, .int .i64 b]] w fun e w' => e = .returned (.bool false) ∧ Below w.heap.size w w' := by
  go_enter Try.func21, Try.ntmps21
  go_wp2
  go_quiet (fail)
  go_wp2
  go_ret
  exact ⟨rfl, below_drN (below_one _ _) _⟩
/-- What a call that may write the map leaves: the set is the new one; nothing else that was there has turned. -/
structure Turns (g m : Nat) (ys : List Idn) (w w' : World) : Prop where
  set : SetP w' g m ys
  grown : w.grownBy w' (some m)
set_option maxHeartbeats 1000000 in
theorem add_p (g m : Nat) (zs : List Idn) (a b : Int) (w : World) (h : SetP w g m zs) (hx : wfId (a, b)) (hl : zs.length ≤ 1000000) : Calls Try.prog 21 #[.pointer (some ⟨g, 0, none⟩), .agg #[.int .i64 a, .int .i64 b]] w fun e w' => e = .returned (.bool (!decide ((a, b) ∈ zs))) ∧ Turns g m (put zs (a, b)) w w' := by
  have h1 := h.on (below_one w (cells a b))
  have c0 : (w.alloc (.cells #[.int .i64 a, .int .i64 b] 24)).cell? ⟨g, 0, none⟩ = some (.map (some m)) := h1.cell
  have c1 := (box_cells w a b).1
  have c2 := (box_cells w a b).2
  have hlk : ∀ n, (Instr.lookup 48 (.map (some m)) (.agg #[.int .i64 a, .int .i64 b]) false).run Try.prog ((w.alloc (.cells #[.int .i64 a, .int .i64 b] 24)).drewN n) = .ok (.bool (decide ((a, b) ∈ zs))) ((w.alloc (.cells #[.int .i64 a, .int .i64 b] 24)).drewN n) :=
    fun n => IsSet.look (w := (w.alloc (.cells #[.int .i64 a, .int .i64 b] 24)).drewN n) h1.set hx
  have hg0 : ∀ n, w.grownBy ((w.alloc (.cells #[.int .i64 a, .int .i64 b] 24)).drewN n) (some m) := fun n => grown_drN (World.grownBy_alloc w _ _) n
  by_cases hm : (a, b) ∈ zs
  · have hp : put zs (a, b) = zs := put_of_mem hm
    rw [hp]
    rw [decide_eq_true hm] at hlk ⊢
    have H1 := Lib.hid h1
    have HG := Lib.hid hg0
    clear h1 h hx hp hm hg0
    go_enter Try.func21, Try.ntmps21
    go_wp2
    go_quiet (fail)
    go_wp2
    go_ret
    exact ⟨rfl, ⟨H1.out.on (below_draws _ _), HG.out _⟩⟩
  · rw [decide_eq_false hm] at hlk ⊢
    obtain ⟨f, hf⟩ := choose_world fun n => IsSet.store (w := (w.alloc (.cells #[.int .i64 a, .int .i64 b] 24)).drewN n) h1.set hx (by unfold maxLen; omega)
    have hst := fun n => (hf n).1
    have HF := Lib.hid hf
    have H1 := Lib.hid h1
    have HG := Lib.hid hg0
    unfold idv at hst
    clear h1 h hx hm hg0 hf
    go_enter Try.func21, Try.ntmps21
    go_wp2
    go_quiet (fail)
    go_wp2
    go_region
    go_wp2
    go_ret
    exact ⟨rfl, ⟨SetP.turn (H1.out.on (below_draws _ (nq + 1))) (HF.out (nq + 1)).2.2 (HF.out (nq + 1)).2.1, (HG.out (nq + 1)).andThen (HF.out (nq + 1)).2.2.grown (fun j hj => .inr hj)⟩⟩

/-! ### Remove -/
set_option maxHeartbeats 1000000 in
theorem remove_p (g m : Nat) (zs : List Idn) (a b : Int) (w : World) (h : SetP w g m zs) (hx : wfId (a, b)) : Calls Try.prog 28 #[.pointer (some ⟨g, 0, none⟩), .agg #[.int .i64 a, .int .i64 b]] w fun e w' => e = .returned (.bool (decide ((a, b) ∈ zs))) ∧ Turns g m (del zs (a, b)) w w' := by
  have hb := Boxed.start w a b
  have HH : Hid (Calls Try.prog 25 #[.pointer (some ⟨g, 0, none⟩), .agg #[.int .i64 a, .int .i64 b]] (w.alloc (.cells #[.int .i64 a, .int .i64 b] 24)) fun e w' => e = .returned (.bool (decide ((a, b) ∈ zs))) ∧ Below (w.heap.size + 1) (w.alloc (.cells #[.int .i64 a, .int .i64 b] 24)) w') :=
    Lib.hid ((has_p g m zs a b _ (h.on (below_one w (cells a b))) hx).mono fun e w' ⟨he, hw⟩ => ⟨he, hw.mono (by simp [cells])⟩)
  have c1 := (box_cells w a b).1
  have c2 := (box_cells w a b).2
  have HB := Lib.hid hb
  have H0 := Lib.hid (h.on (below_one w (cells a b)))
  by_cases hm : (a, b) ∈ zs
  · rw [decide_eq_true hm] at HH ⊢
    have HX := Lib.hid hx
    clear hm h hx hb
    go_enter Try.func28, Try.ntmps28
    go_wp2_with (first
      | (go_at_call 25; ((with_reducible refine HH.out.mono ?_); rintro e w1 ⟨rfl, hb⟩; have HB1 := Lib.hid hb; clear hb; refine Hid.out ?_)))
    have hb1 : Below (w.alloc (cells a b)).heap.size (w.alloc (cells a b)) w1 := HB1.out.mono (by simp)
    have h1 := H0.out.on hb1
    have c0 := h1.cell
    have d0 := (HB.out.on hb1).fst
    have d1 := (HB.out.on hb1).snd
    obtain ⟨w2, hst, hf⟩ := IsSet.drop (w := w1.drew) h1.set HX.out 0
    have HF := Lib.hid hf
    have H1 := Lib.hid h1
    have HG : Hid (w.grownBy w1 (some m)) := Lib.hid ((World.grownBy_alloc w (cells a b) (some m)).andThen (b' := w.alloc (cells a b)) (row' := none) ⟨hb1.os, hb1.tape, hb1.output, hb1.size, fun k hk _ => hb1.block k hk⟩ (fun j hj => by cases hj))
    unfold idv at hst
    clear h1 hb1 hf HB H0 c1 c2
    refine Lib.hid ?_
    go_wp2
    go_region
    go_wp2
    go_ret
    exact ⟨rfl, ⟨SetP.turn (H1.out.on (Below.refl _ _).drew) HF.out.2 HF.out.1, (grown_drN HG.out 1).andThen (b' := w1.drew) HF.out.2.grown (fun j hj => .inr hj)⟩⟩
  · have hp : del zs (a, b) = zs := List.filter_eq_self.2 fun y hy => by rw [decide_eq_true_eq]; exact fun e => hm (e ▸ hy)
    rw [hp]
    rw [decide_eq_false hm] at HH ⊢
    clear hm h hx hb hp
    go_enter Try.func28, Try.ntmps28
    go_wp2_with (first
      | (go_at_call 25; ((with_reducible refine HH.out.mono ?_); rintro e w1 ⟨rfl, hb⟩; have HB1 := Lib.hid hb; clear hb)))
    go_ret
    have hb1 : Below (w.alloc (cells a b)).heap.size (w.alloc (cells a b)) w1 := HB1.out.mono (by simp)
    exact ⟨rfl, ⟨H0.out.on hb1, (World.grownBy_alloc w (cells a b) (some m)).andThen (b' := w.alloc (cells a b)) (row' := none) ⟨hb1.os, hb1.tape, hb1.output, hb1.size, fun k hk _ => hb1.block k hk⟩ (fun j hj => by cases hj)⟩⟩
end Go.Proofs.Ytjkjbpfpmghlaaa
