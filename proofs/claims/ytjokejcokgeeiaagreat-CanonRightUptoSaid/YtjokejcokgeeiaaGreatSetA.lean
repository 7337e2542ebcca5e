/- Maps keyed by ids (layer 4, idset): what a key reads as; a map of ids to true as the list of ids that it has: made, asked, put into, taken out of, counted, emptied. Conditions: those in each statement. -/
import Derived.Test.YtjokejcokgeeiaaGreatIdA
import Derived.Test.YtjokejcokgeeiaaGreatMapG
import Derived.Maps.OwnSet
import Derived.Maps.RangeWalk
import Derived.DeepKeys4
import Derived.Test.YtjokejcokgeeiaaGreatIdF
namespace Go.Proofs.YtjokejcokgeeiaaGreat.Ids
open Go.RowKit Go.Maps Go.WideElems Go.ChangeMaps
set_option linter.unusedVariables false

/-! ### Lists that rise, with one id less -/
def del (zs : List Idn) (x : Idn) : List Idn := zs.filter fun y => decide (y ≠ x)
theorem del_mem (zs : List Idn) (x z : Idn) : z ∈ del zs x ↔ z ∈ zs ∧ z ≠ x := by unfold del; rw [List.mem_filter, decide_eq_true_eq]
theorem del_rise {zs : List Idn} (h : Rise zs) (x : Idn) : Rise (del zs x) := h.filter _
theorem rise_nodup {zs : List Idn} (h : Rise zs) : zs.Nodup := h.imp fun {a b} hab e => by rw [e, lt_irr] at hab; cases hab
theorem put_len {zs : List Idn} {x : Idn} (h : x ∉ zs) : (put zs x).length = zs.length + 1 := by unfold put; rw [if_neg h, ins_length]
theorem put_of_mem {zs : List Idn} {x : Idn} (h : x ∈ zs) : put zs x = zs := by unfold put; rw [if_pos h]
theorem del_len {zs : List Idn} {x : Idn} (h : zs.Nodup) : (del zs x).length + (if x ∈ zs then 1 else 0) = zs.length := by
  induction zs with
  | nil => rfl
  | cons y t ih =>
    obtain ⟨h1, h2⟩ := List.nodup_cons.1 h
    have ih := ih h2
    unfold del at *
    by_cases e : y = x
    · subst e
      rw [if_neg h1] at ih
      simp at ih ⊢
      exact ih
    · have e' : ¬ x = y := fun h => e h.symm
      simp only [List.filter_cons, List.mem_cons, e', false_or, List.length_cons]
      rw [if_pos (by simpa using e)]
      simp only [List.length_cons]
      omega

/-! ### The map -/
/-- The map holds true at just these ids. -/
structure Told (D : DataW Unit) (zs : List Idn) : Prop where
  wf : ∀ x ∈ zs, wfId x
  rise : Rise zs
  has : ∀ k, Maps.has D k = true ↔ ∃ x ∈ zs, litId x = k
  val : ∀ k, Maps.has D k = true → ∀ z, D.atKey k z = .lit (.bool true)
  size : Maps.size D = zs.length
noncomputable abbrev boolElem : Value → Option (DataW Unit × List MemPlace) := plainElem (H := Unit) Tryz.prog 4
abbrev MapIs (w : World) (b n : Nat) (D : DataW Unit) : Prop := w.ownsMap Tryz.prog 43 boolElem b n D
/-- Block b is a map that holds true at just the ids of a rising list. -/
def IsSet (w : World) (b : Nat) (zs : List Idn) : Prop := ∃ D : DataW Unit, MapIs w b zs.length D ∧ Told D zs
theorem Told.mem {D : DataW Unit} {zs : List Idn} (h : Told D zs) {x : Idn} (hx : wfId x) : Maps.has D (litId x) = decide (x ∈ zs) := by
  rw [Bool.eq_iff_iff, h.has, decide_eq_true_eq]
  constructor
  · rintro ⟨y, hy, e⟩; rw [← litId_inj (h.wf y hy) hx e]; exact hy
  · intro hm; exact ⟨x, hm, rfl⟩
theorem Told.nil : Told (.map []) [] := ⟨fun x h => (by cases h), .nil, fun k => ⟨fun h => (by cases h), fun ⟨x, h, _⟩ => (by cases h)⟩, fun k h => (by cases h), rfl⟩
theorem tight {P : Program} {k : TypeId} {R : Value → Option (DataW Unit × List MemPlace)} {w : World} {b n : Nat} {D : DataW Unit} (h : w.ownsMap P k R b n D) : w.ownsMap P k R b (Maps.size D) D := by
  obtain ⟨es, clock, hb, F, hs, rfl⟩ := h
  exact ⟨es, clock, hb, F, by simp [Maps.size, length_sorted], rfl⟩
theorem Told.put {D : DataW Unit} {zs : List Idn} (h : Told D zs) (hT : Tidy D) {x : Idn} (hx : wfId x) : Told (D.put (litId x) (.lit (.bool true))) (Go.Proofs.YtjokejcokgeeiaaGreat.Ids.put zs x) := by
  refine ⟨fun y hy => ?_, put_rise h.rise, fun k => ?_, fun k hk z => ?_, ?_⟩
  · rcases (put_mem zs x y).1 hy with rfl | hy
    · exact hx
    · exact h.wf y hy
  · by_cases e : k = litId x
    · subst e
      exact ⟨fun _ => ⟨x, (put_mem zs x x).2 (.inl rfl), rfl⟩, fun _ => has_put_same hT.isMap (lit_key x) _⟩
    · rw [has_put_other e, h.has]
      constructor
      · rintro ⟨y, hy, e⟩; exact ⟨y, (put_mem zs x y).2 (.inr hy), e⟩
      · rintro ⟨y, hy, e2⟩
        rcases (put_mem zs x y).1 hy with rfl | hy
        · exact absurd e2.symm e
        · exact ⟨y, hy, e2⟩
  · by_cases e : k = litId x
    · subst e; exact atKey_put_same hT.isMap (lit_key x) _ z
    · rw [has_put_other e] at hk
      rw [atKey_put_other e]; exact h.val k hk z
  · rw [size_put hT, h.mem hx, h.size]
    by_cases e : x ∈ zs
    · rw [put_of_mem e]; simp [e]
    · rw [put_len e]; simp [e]
theorem Told.del {D : DataW Unit} {zs : List Idn} (h : Told D zs) (hT : Tidy D) {x : Idn} (hx : wfId x) : Told (D.del (litId x)) (Go.Proofs.YtjokejcokgeeiaaGreat.Ids.del zs x) := by
  refine ⟨fun y hy => h.wf y ((del_mem zs x y).1 hy).1, del_rise h.rise x, fun k => ?_, fun k hk z => ?_, ?_⟩
  · by_cases e : k = litId x
    · subst e
      rw [has_del_same]
      refine ⟨fun h => (by cases h), fun ⟨y, hy, e⟩ => ?_⟩
      obtain ⟨h1, h2⟩ := (del_mem zs x y).1 hy
      exact absurd (litId_inj (h.wf y h1) hx e) h2
    · rw [has_del_other e, h.has]
      constructor
      · rintro ⟨y, hy, e2⟩
        exact ⟨y, (del_mem zs x y).2 ⟨hy, fun e3 => e (by rw [← e2, e3])⟩, e2⟩
      · rintro ⟨y, hy, e2⟩; exact ⟨y, ((del_mem zs x y).1 hy).1, e2⟩
  · by_cases e : k = litId x
    · subst e; rw [has_del_same] at hk; cases hk
    · rw [has_del_other e] at hk
      rw [atKey_del_other e]; exact h.val k hk z
  · have h1 := size_del (k := litId x) hT
    rw [h.mem hx, h.size] at h1
    have h2 := del_len (x := x) (rise_nodup h.rise)
    by_cases e : x ∈ zs
    · simp [e] at h1 h2; omega
    · simp [e] at h1 h2; omega

theorem IsSet.made (w : World) : IsSet (w.alloc (.map #[] 0)) w.heap.size [] := ⟨.map [], World.ownsMap_made w _ _ _, Told.nil⟩
theorem IsSet.lt {w : World} {b : Nat} {zs : List Idn} (h : IsSet w b zs) : b < w.heap.size := by obtain ⟨D, h, _⟩ := h; exact h.lt
theorem IsSet.isMap {w : World} {b : Nat} {zs : List Idn} (h : IsSet w b zs) : ∃ es c, w.heap[b]? = some (.map es c) := by obtain ⟨D, ⟨es, c, h, _⟩, _⟩ := h; exact ⟨es, c, h⟩
theorem IsSet.block {w w' : World} {b : Nat} {zs : List Idn} (h : IsSet w b zs) (e : w'.heap[b]? = w.heap[b]?) : IsSet w' b zs := by
  obtain ⟨D, ⟨es, c, hb, r⟩, t⟩ := h
  exact ⟨D, ⟨es, c, e.trans hb, r⟩, t⟩
theorem IsSet.wf {w : World} {b : Nat} {zs : List Idn} (h : IsSet w b zs) : ∀ x ∈ zs, wfId x := by obtain ⟨D, _, t⟩ := h; exact t.wf
theorem IsSet.rise {w : World} {b : Nat} {zs : List Idn} (h : IsSet w b zs) : Rise zs := by obtain ⟨D, _, t⟩ := h; exact t.rise
theorem und_map : Tryz.prog.underlying 73 = some (.map 43 4) := Tryz.underlying73
theorem zero_bool (w : World) : (zeroValue 4).run Tryz.prog w = .ok (.bool false) w := by kernel_rfl
set_option maxRecDepth 100000 in
theorem bool_inv {v : Value} {z : DataW Unit × List MemPlace} (h : boolElem v = some z) : ∃ x, v = .bool x ∧ z = (.lit (.bool x), []) := by
  unfold boolElem plainElem at h
  rw [Tryz.underlying4] at h
  cases v <;> simp at h
  exact ⟨_, rfl, h.symm⟩
set_option maxRecDepth 100000 in
theorem IsSet.look {w : World} {b : Nat} {zs : List Idn} (h : IsSet w b zs) {x : Idn} (hx : wfId x) : (Instr.lookup 73 (.map (some b)) (idv x) false).run Tryz.prog w = .ok (.bool (decide (x ∈ zs))) w := by
  obtain ⟨D, hD, t⟩ := h
  obtain ⟨v, ps, hrun, hv⟩ := hD.lookup law_id und_map (zero_bool w) (plainElem_bool Tryz.underlying4 false) (key_id hx)
  obtain ⟨y, rfl, e⟩ := bool_inv hv
  rw [hrun]
  have hm := t.mem hx
  cases hh : Maps.has D (litId x) with
  | true =>
    rw [t.val _ hh] at e
    rw [hh] at hm
    cases e
    rw [← hm]
  | false =>
    rw [atKey_of_not_has hh] at e
    rw [hh] at hm
    cases e
    rw [← hm]
theorem IsSet.store {w : World} {b : Nat} {zs : List Idn} (h : IsSet w b zs) {x : Idn} (hx : wfId x) (hl : zs.length < maxLen) : ∃ w', (Instr.mapUpdate 73 (.map (some b)) (idv x) (.bool true)).run Tryz.prog w = .ok () w' ∧ IsSet w' b (put zs x) ∧ w.mapTurned w' b := by
  obtain ⟨D, hD, t⟩ := h
  obtain ⟨w', hrun, h1, h2⟩ := hD.store law_id und_map hl (key_id hx) (plainElem_bool Tryz.underlying4 true)
  have ht := t.put (hD.tidy law_id) hx
  have h3 := tight h1
  rw [ht.size] at h3
  exact ⟨w', hrun, ⟨_, h3, ht⟩, h2⟩
theorem IsSet.drop {w : World} {b : Nat} {zs : List Idn} (h : IsSet w b zs) {x : Idn} (hx : wfId x) (ty : TypeId) : ∃ w', (Builtin.delete_ #[73, 43] ty #[.map (some b), idv x]).run Tryz.prog w = .ok (.tuple #[]) w' ∧ IsSet w' b (del zs x) ∧ w.mapTurned w' b := by
  obtain ⟨D, hD, t⟩ := h
  obtain ⟨w', hrun, h1, h2⟩ := hD.drop law_id und_map (key_id hx) ty
  have ht := t.del (hD.tidy law_id) hx
  have h3 := tight h1
  rw [ht.size] at h3
  exact ⟨w', hrun, ⟨_, h3, ht⟩, h2⟩
theorem IsSet.len {w : World} {b : Nat} {zs : List Idn} (h : IsSet w b zs) (ty : TypeId) : (Builtin.len_ #[73] ty #[.map (some b)]).run Tryz.prog w = .ok (.int .i64 zs.length) w := by
  obtain ⟨D, hD, t⟩ := h
  rw [hD.len und_map ty, t.size]
theorem IsSet.clear {w : World} {b : Nat} {zs : List Idn} (h : IsSet w b zs) (ty : TypeId) : ∃ w', (Builtin.clear_ #[73] ty #[.map (some b)]).run Tryz.prog w = .ok (.tuple #[]) w' ∧ IsSet w' b [] ∧ w.mapTurned w' b := by
  obtain ⟨es, c, hb⟩ := h.isMap
  refine ⟨setBlock w b (.map #[] c), ?_, ⟨.map [], ⟨#[], c, heap_setBlock_same hb _, ⟨by simp, Go.MapKept.stamped_empty c, by simp⟩, Nat.le_refl _, rfl⟩, Told.nil⟩, ⟨es, c, #[], c, hb, rfl⟩⟩
  simp [Builtin.clear_, run_underlying und_map, Go.MapKept.run_getObj_map hb, Go.MapKept.run_setObj_map _ hb, Result.andThen, setBlock]

/-! ### Gone over -/
abbrev Going (w : World) (m r n : Nat) (D : DataW Unit) (left : Lit → Bool) (cnt : Nat) : Prop := w.ranges Tryz.prog 43 boolElem m r n D left cnt
/-- A round's step: nothing is left, or one of the ids has come. (Both goals are hidden, for the walk to stand.) -/
theorem wp_next_ids {w : World} {ops : Array Oper} {rest : List Oper} {o : Oper} {a : Act} {Q : Exit → Act → World → Prop} (hg : o.guard = none) (it : Operand) (hop : o.op = Op.next it false) (m r n : Nat) (D : DataW Unit) (zs : List Idn) (t : Told D zs) (left : Lit → Bool) (cnt : Nat)
    (hit : a.eval it = .pointer (some ⟨r, 0, none⟩)) (h : Going w m r n D left cnt)
    (hDone : Hid ((∀ kl, left kl = false) → wpList Tryz.prog ops Q rest (a.put o.dst (.tuple #[.bool false])) w))
    (hMore : Hid (∀ (x y : Int) (w' : World) (cnt' : Nat), (x, y) ∈ zs → left (litId (x, y)) = true → Going w' m r n D (fun z => left z && !z.sameKey (litId (x, y))) cnt' → cnt' < cnt → w.grownBy w' (some r) → w'.heap.size = w.heap.size →
      (Instr.entry (.pointer (some ⟨r, 0, none⟩))).run Tryz.prog w' = .ok (.tuple #[.agg #[.int .i64 x, .int .i64 y], .bool true]) w' → wpList Tryz.prog ops Q rest (a.put o.dst (.tuple #[.bool true, .agg #[.int .i64 x, .int .i64 y], .bool true])) w')) :
    wpList Tryz.prog ops Q (o :: rest) a w := by
  refine wpList_next_ranges w hg it hop 43 law_id boolElem idv Value.bool (fun key kl hk => by obtain ⟨x, _, hx, _⟩ := key_inv hk; exact ⟨x, hx⟩) (fun v y hv => by obtain ⟨c, rfl, _⟩ := bool_inv hv; exact ⟨c, rfl⟩) m r n D left cnt hit h (fun _ => hDone.out) ?_
  rintro ⟨x, y⟩ c kl yv w' cnt' hkey hlk hv hat hrg hlt hgr hsz hen
  obtain ⟨x', hx', e, rfl⟩ := key_inv hkey
  have e2 : (x, y) = x' := by unfold idv at e; simp at e; exact Prod.ext e.1 e.2
  subst e2
  have hh := has_true_of_atKey hat
  obtain ⟨z, hz, e3⟩ := (t.has _).1 hh
  have e4 := litId_inj (t.wf z hz) hx' e3
  subst e4
  obtain ⟨c', e5, rfl⟩ := bool_inv hv
  have hc := (hat (.lit (.bool false))).symm.trans (t.val _ hh _)
  cases e5
  cases hc
  exact hMore.out x y w' cnt' hz hlk hrg hlt hgr hsz hen
end Go.Proofs.YtjokejcokgeeiaaGreat.Ids

/- What the program's sets of ids give (layer 4, idset): Has, Len, Add, Remove, New. Condition: the set lies in memory as its cells and its map say; ids fit into their kind. -/
namespace Go.Proofs.YtjokejcokgeeiaaGreat.Ids
open Go.RowKit Go.Maps
set_option linter.unusedVariables false

/-! ### A set in memory -/
structure SetP (w : World) (g b : Nat) (zs : List Idn) : Prop where
  cell : w.cell? ⟨g, 0, none⟩ = some (.map (some b))
  lt : g < w.heap.size
  set : IsSet w b zs
def setPtr (g : Nat) : Value := .pointer (some ⟨g, 0, none⟩)
/-- A pointer that reads as a set: nil has none. -/
def SetAt (w : World) (v : Value) (zs : List Idn) : Prop := (v = .pointer none ∧ zs = []) ∨ ∃ g b, v = setPtr g ∧ SetP w g b zs
theorem SetP.on {w w' : World} {g b : Nat} {zs : List Idn} (h : SetP w g b zs) (hb : Below w.heap.size w w') : SetP w' g b zs :=
  ⟨(hb.cell (p := ⟨g, 0, none⟩) h.lt).trans h.cell, Nat.lt_of_lt_of_le h.lt hb.size, h.set.block (hb.block b h.set.lt)⟩
theorem SetAt.on {w w' : World} {v : Value} {zs : List Idn} (h : SetAt w v zs) (hb : Below w.heap.size w w') : SetAt w' v zs := by
  rcases h with h | ⟨g, b, rfl, h⟩
  · exact .inl h
  · exact .inr ⟨g, b, rfl, h.on hb⟩
theorem cell_not_map {w : World} {g o b : Nat} {v : Value} {es : Array MapEntry} {c : Nat} (h : w.cell? ⟨g, o, none⟩ = some v) (hb : w.heap[b]? = some (.map es c)) : g ≠ b := fun e => by
  subst e; simp [World.cell?, hb] at h
theorem SetP.ne {w : World} {g b : Nat} {zs : List Idn} (h : SetP w g b zs) : g ≠ b := by
  obtain ⟨es, c, hb⟩ := h.set.isMap
  exact cell_not_map h.cell hb
theorem turned_cell {w w' : World} {b : Nat} (h : w.mapTurned w' b) {g o : Nat} {v : Value} (hc : w.cell? ⟨g, o, none⟩ = some v) : w'.cell? ⟨g, o, none⟩ = some v := by
  have hg := h.grown
  obtain ⟨es, c, es', c', hb, rfl⟩ := h
  have hne := cell_not_map hc hb
  have hlt := World.block_lt_of_cell? _ _ hc
  exact (World.cell?_of_block (w := w) (a := ⟨g, o, none⟩) (hg.block g hlt (by simpa using hne))).trans hc
theorem SetP.turn {w w' : World} {g b : Nat} {zs ys : List Idn} (h : SetP w g b zs) (ht : w.mapTurned w' b) (hs : IsSet w' b ys) : SetP w' g b ys :=
  ⟨turned_cell ht h.cell, Nat.lt_of_lt_of_le h.lt ht.grown.size, hs⟩
theorem RowAt.turn {w w' : World} {b : Nat} {v : Value} {zs : List Idn} (h : RowAt w v zs) (ht : w.mapTurned w' b) : RowAt w' v zs := by
  obtain ⟨p, cap, rfl, h1, h2, h0, h3⟩ := h
  refine ⟨p, cap, rfl, h1, h2, h0, fun hz => ?_⟩
  obtain ⟨B, off, rfl, hlt, hc⟩ := h3 hz
  exact ⟨B, off, rfl, Nat.lt_of_lt_of_le hlt ht.grown.size, fun j hj => ⟨turned_cell ht (hc j hj).1, turned_cell ht (hc j hj).2⟩⟩

/-! ### Has -/
theorem box_cells (w : World) (a b : Int) : (w.alloc (.cells #[.int .i64 a, .int .i64 b] 43)).cell? ⟨w.heap.size, 0, none⟩ = some (.int .i64 a) ∧ (w.alloc (.cells #[.int .i64 a, .int .i64 b] 43)).cell? ⟨w.heap.size, 1, none⟩ = some (.int .i64 b) :=
  ⟨(Boxed.start w a b).fst, (Boxed.start w a b).snd⟩
set_option maxHeartbeats 1000000 in
set_option maxRecDepth 100000 in
theorem has_p (g m : Nat) (zs : List Idn) (a b : Int) (w : World) (h : SetP w g m zs) (hx : wfId (a, b)) : Calls Tryz.prog 109 #[.pointer (some ⟨g, 0, none⟩), .agg #[.int .i64 a, .int .i64 b]] w fun e w' => e = .returned (.bool (decide ((a, b) ∈ zs))) ∧ Below w.heap.size w w' := by
  have h1 := h.on (below_one w (cells a b))
  have c0 : (w.alloc (.cells #[.int .i64 a, .int .i64 b] 43)).cell? ⟨g, 0, none⟩ = some (.map (some m)) := h1.cell
  have c1 := (box_cells w a b).1
  have c2 := (box_cells w a b).2
  have hl : ∀ n, (Instr.lookup 73 (.map (some m)) (.agg #[.int .i64 a, .int .i64 b]) false).run Tryz.prog ((w.alloc (.cells #[.int .i64 a, .int .i64 b] 43)).drewN n) = .ok (.bool (decide ((a, b) ∈ zs))) ((w.alloc (.cells #[.int .i64 a, .int .i64 b] 43)).drewN n) :=
    fun n => IsSet.look (w := (w.alloc (.cells #[.int .i64 a, .int .i64 b] 43)).drewN n) h1.set hx
  generalize decide ((a, b) ∈ zs) = r at hl ⊢
  clear h1 h hx
  go_enter Tryz.func109, Tryz.ntmps109
  go_wp2
  go_quiet (fail)
  go_wp2
  go_ret
  exact ⟨rfl, below_drN (below_one _ _) _⟩
set_option maxRecDepth 100000 in
theorem has_nil (a b : Int) (w : World) : Calls Tryz.prog 109 #[.pointer none, .agg #[.int .i64 a, .int .i64 b]] w fun e w' => e = .returned (.bool false) ∧ Below w.heap.size w w' := by
  go_enter Tryz.func109, Tryz.ntmps109
  go_wp2
  go_quiet (fail)
  go_wp2
  go_ret
  exact ⟨rfl, below_drN (below_one _ _) _⟩
theorem sethas_any (v : Value) (zs : List Idn) (a b : Int) (w : World) (h : SetAt w v zs) (hx : wfId (a, b)) : Calls Tryz.prog 109 #[v, .agg #[.int .i64 a, .int .i64 b]] w fun e w' => e = .returned (.bool (decide ((a, b) ∈ zs))) ∧ Below w.heap.size w w' := by
  rcases h with ⟨rfl, rfl⟩ | ⟨g, m, rfl, h⟩
  · exact (has_nil a b w).mono fun e w' ⟨he, hb⟩ => ⟨by rw [he]; simp, hb⟩
  · exact has_p g m zs a b w h hx

/-! ### Len -/

/-! ### Add -/
theorem grown_drN {w w' : World} {row : Option Nat} (h : w.grownBy w' row) (n : Nat) : w.grownBy (w'.drewN n) row := ⟨h.os, h.tape, h.output, h.size, h.block⟩
theorem choose_world {p : Nat → World → Prop} (h : ∀ n, ∃ w, p n w) : ∃ f : Nat → World, ∀ n, p n (f n) := ⟨fun n => Classical.choose (h n), fun n => Classical.choose_spec (h n)⟩
/-- What a call that may write the map leaves: the set is the new one; nothing else that was there has turned. -/
structure Turns (g m : Nat) (ys : List Idn) (w w' : World) : Prop where
  set : SetP w' g m ys
  grown : w.grownBy w' (some m)
set_option maxHeartbeats 1000000 in
set_option maxRecDepth 100000 in
theorem add_p (g m : Nat) (zs : List Idn) (a b : Int) (w : World) (h : SetP w g m zs) (hx : wfId (a, b)) (hl : zs.length ≤ 1000000) : Calls Tryz.prog 108 #[.pointer (some ⟨g, 0, none⟩), .agg #[.int .i64 a, .int .i64 b]] w fun e w' => e = .returned (.bool (!decide ((a, b) ∈ zs))) ∧ Turns g m (put zs (a, b)) w w' := by
  have h1 := h.on (below_one w (cells a b))
  have c0 : (w.alloc (.cells #[.int .i64 a, .int .i64 b] 43)).cell? ⟨g, 0, none⟩ = some (.map (some m)) := h1.cell
  have c1 := (box_cells w a b).1
  have c2 := (box_cells w a b).2
  have hlk : ∀ n, (Instr.lookup 73 (.map (some m)) (.agg #[.int .i64 a, .int .i64 b]) false).run Tryz.prog ((w.alloc (.cells #[.int .i64 a, .int .i64 b] 43)).drewN n) = .ok (.bool (decide ((a, b) ∈ zs))) ((w.alloc (.cells #[.int .i64 a, .int .i64 b] 43)).drewN n) :=
    fun n => IsSet.look (w := (w.alloc (.cells #[.int .i64 a, .int .i64 b] 43)).drewN n) h1.set hx
  have hg0 : ∀ n, w.grownBy ((w.alloc (.cells #[.int .i64 a, .int .i64 b] 43)).drewN n) (some m) := fun n => grown_drN (World.grownBy_alloc w _ _) n
  by_cases hm : (a, b) ∈ zs
  · have hp : put zs (a, b) = zs := put_of_mem hm
    rw [hp]
    rw [decide_eq_true hm] at hlk ⊢
    have H1 := Lib.hid h1
    have HG := Lib.hid hg0
    clear h1 h hx hp hm hg0
    go_enter Tryz.func108, Tryz.ntmps108
    go_wp2
    go_quiet (fail)
    go_wp2
    go_ret
    exact ⟨rfl, ⟨H1.out.on (below_draws _ _), HG.out _⟩⟩
  · rw [decide_eq_false hm] at hlk ⊢
    obtain ⟨f, hf⟩ := choose_world fun n => IsSet.store (w := (w.alloc (.cells #[.int .i64 a, .int .i64 b] 43)).drewN n) h1.set hx (by unfold maxLen; omega)
    have hst := fun n => (hf n).1
    have HF := Lib.hid hf
    have H1 := Lib.hid h1
    have HG := Lib.hid hg0
    unfold idv at hst
    clear h1 h hx hm hg0 hf
    go_enter Tryz.func108, Tryz.ntmps108
    go_wp2
    go_quiet (fail)
    go_wp2
    go_region
    go_wp2
    go_ret
    exact ⟨rfl, ⟨SetP.turn (H1.out.on (below_draws _ (nq + 1))) (HF.out (nq + 1)).2.2 (HF.out (nq + 1)).2.1, (HG.out (nq + 1)).andThen (HF.out (nq + 1)).2.2.grown (fun j hj => .inr hj)⟩⟩

/-! ### Remove -/
set_option maxHeartbeats 1000000 in
set_option maxRecDepth 100000 in
theorem remove_p (g m : Nat) (zs : List Idn) (a b : Int) (w : World) (h : SetP w g m zs) (hx : wfId (a, b)) : Calls Tryz.prog 81 #[.pointer (some ⟨g, 0, none⟩), .agg #[.int .i64 a, .int .i64 b]] w fun e w' => e = .returned (.bool (decide ((a, b) ∈ zs))) ∧ Turns g m (del zs (a, b)) w w' := by
  have hb := Boxed.start w a b
  have HH : Hid (Calls Tryz.prog 109 #[.pointer (some ⟨g, 0, none⟩), .agg #[.int .i64 a, .int .i64 b]] (w.alloc (.cells #[.int .i64 a, .int .i64 b] 43)) fun e w' => e = .returned (.bool (decide ((a, b) ∈ zs))) ∧ Below (w.heap.size + 1) (w.alloc (.cells #[.int .i64 a, .int .i64 b] 43)) w') :=
    Lib.hid ((has_p g m zs a b _ (h.on (below_one w (cells a b))) hx).mono fun e w' ⟨he, hw⟩ => ⟨he, hw.mono (by simp [cells])⟩)
  have c1 := (box_cells w a b).1
  have c2 := (box_cells w a b).2
  have HB := Lib.hid hb
  have H0 := Lib.hid (h.on (below_one w (cells a b)))
  by_cases hm : (a, b) ∈ zs
  · rw [decide_eq_true hm] at HH ⊢
    have HX := Lib.hid hx
    clear hm h hx hb
    go_enter Tryz.func81, Tryz.ntmps81
    go_wp2_with (first
      | (go_at_call 109; ((with_reducible refine HH.out.mono ?_); rintro e w1 ⟨rfl, hb⟩; have HB1 := Lib.hid hb; clear hb; refine Hid.out ?_)))
    have hb1 : Below (w.alloc (cells a b)).heap.size (w.alloc (cells a b)) w1 := HB1.out.mono (by simp)
    have h1 := H0.out.on hb1
    have c0 := h1.cell
    have d0 := (HB.out.on hb1).fst
    have d1 := (HB.out.on hb1).snd
    obtain ⟨w2, hst, hf⟩ := IsSet.drop (w := w1.drew) h1.set HX.out 0
    have HF := Lib.hid hf
    have H1 := Lib.hid h1
    have HG : Hid (w.grownBy w1 (some m)) := Lib.hid ((World.grownBy_alloc w (cells a b) (some m)).andThen (b' := w.alloc (cells a b)) (row' := none) ⟨hb1.os, hb1.tape, hb1.output, hb1.size, fun k hk _ => hb1.block k hk⟩ (fun j hj => by cases hj))
    unfold idv at hst
    clear h1 hb1 hf HB H0 c1 c2
    refine Lib.hid ?_
    go_wp2
    go_region
    go_wp2
    go_ret
    exact ⟨rfl, ⟨SetP.turn (H1.out.on (Below.refl _ _).drew) HF.out.2 HF.out.1, (grown_drN HG.out 1).andThen (b' := w1.drew) HF.out.2.grown (fun j hj => .inr hj)⟩⟩
  · have hp : del zs (a, b) = zs := List.filter_eq_self.2 fun y hy => by rw [decide_eq_true_eq]; exact fun e => hm (e ▸ hy)
    rw [hp]
    rw [decide_eq_false hm] at HH ⊢
    clear hm h hx hb hp
    go_enter Tryz.func81, Tryz.ntmps81
    go_wp2_with (first
      | (go_at_call 109; ((with_reducible refine HH.out.mono ?_); rintro e w1 ⟨rfl, hb⟩; have HB1 := Lib.hid hb; clear hb)))
    go_ret
    have hb1 : Below (w.alloc (cells a b)).heap.size (w.alloc (cells a b)) w1 := HB1.out.mono (by simp)
    exact ⟨rfl, ⟨H0.out.on hb1, (World.grownBy_alloc w (cells a b) (some m)).andThen (b' := w.alloc (cells a b)) (row' := none) ⟨hb1.os, hb1.tape, hb1.output, hb1.size, fun k hk _ => hb1.block k hk⟩ (fun j hj => by cases hj)⟩⟩
end Go.Proofs.YtjokejcokgeeiaaGreat.Ids

/- What the program's New gives (layer 4, idset): a set of the list's ids, in new memory. Condition: the list lies in memory as its cells say; its ids fit into their kind. -/
namespace Go.Proofs.YtjokejcokgeeiaaGreat.Ids
open Go.RowKit Go.Maps
set_option linter.unusedVariables false

theorem RowAt.grown {w w' : World} {m : Nat} {v : Value} {zs : List Idn} (h : RowAt w v zs) (hg : w.grownBy w' (some m)) (hm : ∃ es c, w.heap[m]? = some (.map es c)) : RowAt w' v zs := by
  obtain ⟨p, cap, rfl, h1, h2, h0, h3⟩ := h
  obtain ⟨es, c, hm⟩ := hm
  refine ⟨p, cap, rfl, h1, h2, h0, fun hz => ?_⟩
  obtain ⟨B, off, rfl, hlt, hc⟩ := h3 hz
  have hpos : 0 < zs.length := List.length_pos_iff.2 hz
  have hne := cell_not_map (hc 0 hpos).1 hm
  have hB := hg.block B hlt (by simpa using hne)
  exact ⟨B, off, rfl, Nat.lt_of_lt_of_le hlt hg.size, fun j hj => ⟨(World.cell?_of_block (w := w) (a := ⟨B, _, none⟩) hB).trans (hc j hj).1, (World.cell?_of_block (w := w) (a := ⟨B, _, none⟩) hB).trans (hc j hj).2⟩⟩
theorem RowAt.row2 {w : World} {p : Option Addr} {n cap : Nat} {zs : List Idn} (h : RowAt w (.slice p n cap) zs) (hz : 0 < zs.length) : ∃ B off, p = some ⟨B, off, none⟩ ∧ Row2 w B off zs := by
  obtain ⟨p', cap', e, h1, h2, h0, h3⟩ := h
  cases e
  obtain ⟨B, off, rfl, hlt, hc⟩ := h3 (List.length_pos_iff.1 hz)
  exact ⟨B, off, rfl, ⟨hlt, fun j hj => (hc j hj).1, fun j hj => (hc j hj).2⟩⟩
theorem RowAt.shape {w : World} {v : Value} {zs : List Idn} (h : RowAt w v zs) : ∃ p cap, v = .slice p zs.length cap ∧ zs.length ≤ cap ∧ cap ≤ 9223372036854775807 := by
  obtain ⟨p, cap, rfl, h1, h2, -, -⟩ := h
  exact ⟨p, cap, rfl, h1, h2⟩

theorem grown_cell {W W' : World} {m : Nat} (hg : W.grownBy W' (some m)) (hm : ∃ es c, W.heap[m]? = some (.map es c)) {h o : Nat} {v : Value} (hc : W.cell? ⟨h, o, none⟩ = some v) : W'.cell? ⟨h, o, none⟩ = some v := by
  obtain ⟨es, c, hm⟩ := hm
  have hne := cell_not_map hc hm
  exact (World.cell?_of_block (w := W) (a := ⟨h, o, none⟩) (hg.block h (World.block_lt_of_cell? _ _ hc) (by simpa using hne))).trans hc

set_option maxHeartbeats 1000000 in
theorem renew_p (g m : Nat) (zs : List Idn) (v : Value) (ys : List Idn) (w : World) (h : SetP w g m zs) (hr : RowAt w v ys) (hwf : ∀ y ∈ ys, wfId y) (hl : ys.length ≤ 100000) : Calls Tryz.prog 106 #[.pointer (some ⟨g, 0, none⟩), v] w fun e w' => e = .returned (.tuple #[]) ∧ Turns g m (srt ys) w w' := by
  obtain ⟨p, cap, rfl, h1, h2⟩ := hr.shape
  have c0 := h.cell
  obtain ⟨w1, hcl, hs1, ht1⟩ := h.set.clear 0
  have hp1 := h.turn ht1 hs1
  have HM := Lib.hid h.set.isMap
  obtain ⟨n, hn⟩ : ∃ n, n = ys.length := ⟨_, rfl⟩
  have HZ := Lib.hid hn
  rw [← hn] at hr h1 hl ⊢
  have HR := Lib.hid hr
  have HW := Lib.hid hwf
  have HP1 := Lib.hid hp1
  have HG1 := Lib.hid ht1.grown
  clear hr hwf hs1 ht1 hp1 h hn
  go_enter Tryz.func106, Tryz.ntmps106
  go_wp2
  go_loopw [12] (fun i wr => ∃ k : Nat, k ≤ n ∧ i = .int .i64 k ∧ Hid (SetP wr g m (srt (ys.take k))) ∧ Hid (w.grownBy wr (some m))) (fun i _ => n - (intOf i).toNat)
  case atStart => exact ⟨0, Nat.zero_le _, rfl, HP1, HG1⟩
  case round =>
    obtain ⟨k, hk, rfl, hset, hgr⟩ := hrel
    by_cases hkn : k < n
    · have hrow := HR.out.grown hgr.out HM.out
      obtain ⟨B, off, rfl, hrow2⟩ := hrow.row2 (by rw [← HZ.out]; omega)
      have c1 := hrow2.fst k (by rw [← HZ.out]; exact hkn)
      have c2 := hrow2.snd k (by rw [← HZ.out]; exact hkn)
      have k0 : (0 : Int) ≤ k := by omega
      have kn : (k : Int) < n := by omega
      obtain ⟨x, y, hxy⟩ : ∃ x y, nth ys k = (x, y) := ⟨_, _, rfl⟩
      rw [hxy] at c1 c2
      have hwx : wfId (x, y) := HW.out _ (by rw [← hxy]; exact mem_nth.2 ⟨k, by rw [← HZ.out]; exact hkn, rfl⟩)
      have HS : Hid (srt (ys.take (k + 1)) = put (srt (ys.take k)) (x, y)) := Lib.hid (by rw [srt_take ys k (by rw [← HZ.out]; exact hkn), hxy])
      have HA : Hid (∀ W, SetP W g m (srt (ys.take k)) → Calls Tryz.prog 108 #[.pointer (some ⟨g, 0, none⟩), .agg #[.int .i64 x, .int .i64 y]] W fun e w' => ∃ r, e = .returned (.bool r) ∧ Turns g m (srt (ys.take (k + 1))) W w') := Lib.hid fun W hW =>
        (add_p g m _ x y W hW hwx (by have := srt_length (ys.take k); rw [List.length_take] at this; omega)).mono fun e w' ⟨he, ht⟩ => ⟨_, he, by rw [HS.out]; exact ht⟩
      clear hrow hrow2 hxy hwx
      have HP : Hid (SetP (wr.alloc (.cells #[.int .i64 x, .int .i64 y] 43)) g m (srt (ys.take k))) := Lib.hid (hset.out.on (below_one wr (cells x y)))
      have HG : Hid (w.grownBy (wr.alloc (.cells #[.int .i64 x, .int .i64 y] 43)) (some m)) := Lib.hid (hgr.out.andThen (World.grownBy_alloc wr (cells x y) none) (fun j hj => by cases hj))
      go_wp2_with (go_at_call 108; ((with_reducible refine (HA.out _ HP.out).mono ?_); rintro e w2 ⟨r, rfl, ht⟩; have HT := Lib.hid ht; clear ht))
      go_roundw
      case rel => exact ⟨k + 1, by omega, by go_num, Lib.hid HT.out.set, Lib.hid (HG.out.andThen HT.out.grown fun j hj => .inr hj)⟩
      case measure => simp [intOf]; omega
    · have kn : ¬ (k : Int) < n := by omega
      have HE : Hid (ys.take k = ys) := Lib.hid (List.take_of_length_le (by rw [← HZ.out]; omega))
      rw [HE.out] at hset
      go_wp2
      go_end0
      exact ⟨rfl, hset.out, hgr.out⟩

/-! ### New -/
def GivesSet (zs : List Idn) (w : World) (e : Ending) (w' : World) : Prop := ∃ g m, e = .returned (setPtr g) ∧ w.heap.size ≤ g ∧ w.heap.size ≤ m ∧ SetP w' g m zs ∧ Below w.heap.size w w'
theorem new_any (v : Value) (ys : List Idn) (w : World) (hr : RowAt w v ys) (hwf : ∀ y ∈ ys, wfId y) (hl : ys.length ≤ 100000) : Calls Tryz.prog 77 #[v] w (GivesSet (srt ys) w) := by
  have hb1 : Below w.heap.size w (w.alloc (.map #[] 0)) := below_one _ _
  have hb2 : Below w.heap.size w ((w.alloc (.map #[] 0)).alloc (.cells #[.map (some w.heap.size)] 137)) := hb1.trans ((below_one _ _).mono hb1.size)
  have hs : IsSet ((w.alloc (.map #[] 0)).alloc (.cells #[.map (some w.heap.size)] 137)) w.heap.size [] := (IsSet.made w).block (Below.heap_alloc _ _ _ (by simp))
  have hp : SetP ((w.alloc (.map #[] 0)).alloc (.cells #[.map (some w.heap.size)] 137)) (w.heap.size + 1) w.heap.size [] := ⟨by simp, by simp, hs⟩
  have HC := Lib.hid ((renew_p _ _ [] v ys _ hp (hr.on hb2) hwf hl).mono fun e w' ⟨he, ht⟩ => And.intro he (And.intro ht.set (Below.grown hb2 ht.grown hb2.size (fun k hk => by cases hk; exact Nat.le_refl _))))
  have hmm := @run_makeMap Tryz.prog
  clear hb1 hb2 hs hp hr hwf
  go_enter Tryz.func77, Tryz.ntmps77
  go_wp2_with (go_at_call 106; ((with_reducible refine HC.out.mono ?_); rintro e w2 ⟨rfl, ht⟩; have HT := Lib.hid ht; clear ht))
  go_ret
  exact ⟨_, _, rfl, by omega, Nat.le_refl _, HT.out.1, HT.out.2⟩
end Go.Proofs.YtjokejcokgeeiaaGreat.Ids

/- What the program's Minus, List and Same give (layer 4, idset), in whatever order the map is gone over. Condition: the sets lie in memory as their cells and their maps say. -/
namespace Go.Proofs.YtjokejcokgeeiaaGreat.Ids
open Go.RowKit Go.Maps
set_option linter.unusedVariables false

/-! ### What has been collected -/
def minus (zs ys : List Idn) : List Idn := zs.filter fun x => decide (x ∉ ys)
theorem minus_mem (zs ys : List Idn) (x : Idn) : x ∈ minus zs ys ↔ x ∈ zs ∧ x ∉ ys := by unfold minus; rw [List.mem_filter, decide_eq_true_eq]
theorem minus_nil (zs : List Idn) : minus zs [] = zs := by unfold minus; simp
/-- Of those that are no longer to come just those are collected that the other set has not. -/
structure Coll (zs ys : List Idn) (left : Lit → Bool) (cnt : Nat) (out : List Idn) : Prop where
  nodup : out.Nodup
  mem : ∀ x, x ∈ out ↔ x ∈ zs ∧ left (litId x) = false ∧ x ∉ ys
  len : out.length + cnt ≤ zs.length
theorem Coll.start {D : DataW Unit} {zs : List Idn} (t : Told D zs) (ys : List Idn) : Coll zs ys (Maps.has D) (Maps.size D) [] :=
  ⟨List.nodup_nil, fun x => ⟨fun h => (by cases h), fun ⟨h1, h2, _⟩ => (by rw [(t.has _).2 ⟨x, h1, rfl⟩] at h2; cases h2)⟩, by rw [t.size]; simp⟩
theorem same_lit {zs : List Idn} (hw : ∀ x ∈ zs, wfId x) {x y : Idn} (hx : x ∈ zs) (hy : y ∈ zs) : (litId y).sameKey (litId x) = decide (y = x) := by
  by_cases e : y = x
  · subst e; rw [WideAt.sameKey_self (lit_key y)]; simp
  · rw [sameKey_ne fun h => e (litId_inj (hw y hy) (hw x hx) h)]; simp [e]
theorem Coll.step {D : DataW Unit} {zs ys out : List Idn} {left : Lit → Bool} {cnt cnt1 : Nat} (t : Told D zs) (h : Coll zs ys left cnt out) {x : Idn} (hx : x ∈ zs) (hl : left (litId x) = true) (hc : cnt1 < cnt) :
    (x ∈ ys → Coll zs ys (fun z => left z && !z.sameKey (litId x)) cnt1 out) ∧ (x ∉ ys → Coll zs ys (fun z => left z && !z.sameKey (litId x)) cnt1 (out ++ [x])) := by
  have key : ∀ y ∈ zs, (left (litId y) && !(litId y).sameKey (litId x)) = false ↔ left (litId y) = false ∨ y = x := fun y hy => by
    rw [same_lit t.wf hx hy]
    by_cases e : y = x <;> simp [e]
  have hno : x ∉ out := fun hm => by have := ((h.mem x).1 hm).2.1; rw [hl] at this; cases this
  refine ⟨fun hy => ⟨h.nodup, fun y => ?_, by have := h.len; omega⟩, fun hy => ⟨?_, fun y => ?_, by have := h.len; simp; omega⟩⟩
  · rw [h.mem]
    constructor
    · rintro ⟨h1, h2, h3⟩; exact ⟨h1, (key y h1).2 (.inl h2), h3⟩
    · rintro ⟨h1, h2, h3⟩
      rcases (key y h1).1 h2 with h2 | rfl
      · exact ⟨h1, h2, h3⟩
      · exact absurd hy h3
  · rw [List.nodup_append]
    refine ⟨h.nodup, by simp, fun a ha b hb e => ?_⟩
    simp at hb
    exact hno (hb ▸ e ▸ ha)
  · rw [List.mem_append, h.mem, List.mem_singleton]
    constructor
    · rintro (⟨h1, h2, h3⟩ | rfl)
      · exact ⟨h1, (key y h1).2 (.inl h2), h3⟩
      · exact ⟨hx, (key y hx).2 (.inr rfl), hy⟩
    · rintro ⟨h1, h2, h3⟩
      rcases (key y h1).1 h2 with h2 | rfl
      · exact .inl ⟨h1, h2, h3⟩
      · exact .inr rfl
theorem flat_rise {l : List Idn} (h : Flat l) (hd : l.Nodup) : Rise l := by
  have := List.Pairwise.and h hd
  exact this.imp fun {a b} ⟨h1, h2⟩ => by
    cases hk : idLt a b with
    | true => rfl
    | false => exact absurd (lt_tot hk h1) h2
theorem Coll.done {zs ys out d : List Idn} {left : Lit → Bool} {cnt : Nat} (hr : Rise zs) (h : Coll zs ys left cnt out) (hl : ∀ k, left k = false) (hf : Flat d) (hp : d.Perm out) : d = minus zs ys := by
  refine rise_eq (flat_rise hf (hp.nodup_iff.2 h.nodup)) (hr.filter _) fun x => ?_
  rw [hp.mem_iff, h.mem, minus_mem]
  exact ⟨fun ⟨h1, _, h3⟩ => ⟨h1, h3⟩, fun ⟨h1, h3⟩ => ⟨h1, hl _, h3⟩⟩

theorem Owns.on {w w' : World} {base : Nat} {v : Value} {zs : List Idn} (h : Owns w base v zs) (hb : Below w.heap.size w w') : Owns w' base v zs :=
  World.ownsRow.kept h (row := none) ⟨hb.os, hb.tape, hb.output, hb.size, fun k hk _ => hb.block k hk⟩ (by cases hv : v.ownBlock <;> simp)
theorem Owns.low {w : World} {base : Nat} {v : Value} {zs : List Idn} (h : Owns w base v zs) {j : Nat} (hj : j < base) : some j ≠ v.ownBlock := fun e => by
  have := (World.ownsRow.lt h j e.symm).1; omega
theorem below_grown {w w' : World} (hb : Below w.heap.size w w') : w.grownBy w' none := ⟨hb.os, hb.tape, hb.output, hb.size, fun k hk _ => hb.block k hk⟩

set_option maxHeartbeats 2000000 in
set_option maxRecDepth 100000 in
theorem minus_p (g m : Nat) (zs : List Idn) (u : Value) (ys : List Idn) (w : World) (h : SetP w g m zs) (hu : SetAt w u ys) (hl : zs.length ≤ 100000) : Calls Tryz.prog 110 #[.pointer (some ⟨g, 0, none⟩), u] w (GivesRow (minus zs ys) w) := by
  obtain ⟨i0, hi, hz0, hz1, hz2⟩ := info_parts info_id
  have c0 := h.cell
  have HW := Lib.hid h.set.wf
  obtain ⟨D, hown, ht⟩ := h.set
  have HT := Lib.hid ht
  have HM := Lib.hid hown.lt
  obtain ⟨N, hN⟩ : ∃ N, zs.length = N := ⟨_, rfl⟩
  rw [hN] at hown hl
  have HN := Lib.hid hN
  have HU := Lib.hid hu
  have HH : Hid (∀ W x y, Below w.heap.size w W → wfId (x, y) → Calls Tryz.prog 109 #[u, .agg #[.int .i64 x, .int .i64 y]] W fun e w' => e = .returned (.bool (decide ((x, y) ∈ ys))) ∧ Below W.heap.size W w') := Lib.hid fun W x y hb hx => sethas_any u ys x y W (HU.out.on hb) hx
  clear ht h hu hN
  go_enter Tryz.func110, Tryz.ntmps110
  go_wp2_with (first
    | (at_range; refine wpList_range_own _ rfl _ 73 rfl 43 4 law_id und_map boolElem m N D rfl hown ?_; intro w0 hrg0 hg0 hs0; have HRG := Lib.hid hrg0; have HG0 := Lib.hid hg0; have HS0 := Lib.hid hs0; clear hrg0 hg0 hs0)
    | fail)
  go_frame
  go_loopw [5] (fun o wr => ∃ (left : Lit → Bool) (cnt : Nat) (out : List Idn), Hid (Going wr m w.heap.size N D left cnt) ∧ Hid (Owns wr (w.heap.size + 1) o out) ∧ Hid (Below w.heap.size w wr) ∧ Hid (w.heap.size + 1 ≤ wr.heap.size) ∧ Hid (Coll zs ys left cnt out)) (fun _ wr => wr.rangeLeft m w.heap.size)
  case atStart =>
    exact ⟨_, _, [], HRG, Lib.hid (World.ownsRow_nil _ _ _ _), Lib.hid (Below.grown (Below.refl _ _) HG0.out (Nat.le_refl _) (fun k hk => by cases hk)), Lib.hid (by rw [HS0.out]; exact Nat.le_refl _), Lib.hid (Coll.start HT.out ys)⟩
  case round =>
    obtain ⟨left, cnt, out, hrg, hrow, hbw, hsz, hC⟩ := hrel
    go_wp2_with (first
      | (at_next; refine wp_next_ids rfl _ rfl m w.heap.size N D zs HT.out left cnt rfl hrg.out ?_ ?_)
      | fail)
    · refine Lib.hid fun hl0 => ?_
      have HL := Lib.hid hl0
      have HS := Lib.hid (sort_own (w.heap.size + 1) u5 out wr hrow.out (by have := hC.out.len; rw [HN.out] at this; omega))
      clear hl0
      go_wp2_with (go_at_call 51; ((with_reducible refine HS.out.mono ?_); rintro e w3 ⟨rfl, d, hd1, hd2, hd3, hd4⟩; have HD := Lib.hid (And.intro hd1 (And.intro hd2 (And.intro hd3 hd4))); clear hd1 hd2 hd3 hd4))
      go_ret
      obtain ⟨hd1, hd2, hd3, hd4⟩ := HD.out
      have hd := hC.out.done HT.out.rise HL.out hd1 hd2
      subst hd
      exact ⟨_, rfl, hd3, hbw.out.trans (hd4.mono (by omega))⟩
    · refine Lib.hid ?_
      intro x y w2 cnt2 hmem hlk hrg2 hlt hg2 hs2 hen
      have hsz2 : w.heap.size + 1 ≤ w2.heap.size := by rw [hs2]; exact hsz.out
      have hb2 : Below w.heap.size w w2 := Below.grown hbw.out hg2 hbw.out.size (fun k hk => by cases hk; exact Nat.le_refl _)
      have HB2 : Hid (Below w.heap.size w (w2.alloc (.cells #[.int .i64 x, .int .i64 y] 43))) := Lib.hid (hb2.alloc (by omega) _)
      have HHx := Lib.hid (HH.out _ x y HB2.out (HW.out _ hmem))
      have HX := Lib.hid (Boxed.start w2 x y)
      have HO2 : Hid (Owns (w2.alloc (.cells #[.int .i64 x, .int .i64 y] 43)) (w.heap.size + 1) u5 out) := Lib.hid (World.ownsRow.alloc (World.ownsRow.kept hrow.out hg2 (.inr (Owns.low hrow.out (by omega)).symm)) _)
      have HG2 : Hid (Going (w2.alloc (.cells #[.int .i64 x, .int .i64 y] 43)) m w.heap.size N D (fun z => left z && !z.sameKey (litId (x, y))) cnt2) := Lib.hid (hrg2.alloc _)
      have HC2 := Lib.hid (hC.out.step HT.out hmem hlk hlt)
      have HSZ : Hid (w.heap.size + 1 ≤ w2.heap.size) := Lib.hid hsz2
      have HLT := Lib.hid hlt
      have HLE : Hid (out.length + cnt ≤ N) := Lib.hid (by rw [← HN.out]; exact hC.out.len)
      clear hrg2 hlt hg2 hs2 hsz2 hb2 hmem hlk
      by_cases hy : (x, y) ∈ ys
      · have HC3 := Lib.hid (HC2.out.1 hy)
        rw [decide_eq_true hy] at HHx
        clear hy HC2
        go_wp2_with (go_at_call 109; ((with_reducible refine HHx.out.mono ?_); rintro e w3 ⟨rfl, hb⟩; have HB3 := Lib.hid hb; clear hb))
        go_roundw
        case rel => exact ⟨_, cnt2, out, Lib.hid (HG2.out.kept (below_grown HB3.out) (by simp) (by simp)), Lib.hid (Owns.on HO2.out HB3.out), Lib.hid (HB2.out.trans (HB3.out.mono HB2.out.size)), Lib.hid (by have := HB3.out.size; have := HSZ.out; simp at this ⊢; simp at *; omega), HC3⟩
        case measure => rw [(HG2.out.kept (below_grown HB3.out) (by simp) (by simp)).left_eq, hrg.out.left_eq]; exact HLT.out
      · have HC3 := Lib.hid (HC2.out.2 hy)
        rw [decide_eq_false hy] at HHx
        have hol : out.length ≤ 100000 := by have := HLE.out; omega
        clear hy HC2
        go_wp2_with (first
          | (go_at_call 109; ((with_reducible refine HHx.out.mono ?_); rintro e w3 ⟨rfl, hb⟩; have HB3 := Lib.hid hb; have hx3 := HX.out.on hb; have d0 := hx3.fst; have d1 := hx3.snd; have HO3 := Lib.hid (Owns.on HO2.out hb); have HSZ3 : Hid (w.heap.size + 1 ≤ w3.heap.size) := Lib.hid (by have h1 := hb.size; have h2 := HSZ.out; simp at h1; omega); clear hb hx3))
          | (at_builtin; refine wpList_append_own _ rfl _ _ 38 rfl (w.heap.size + 1) 43 i0 (.agg #[.int .i64 0, .int .i64 0]) 2 16 Tryz.underlying38 hi hz0 hz1 hz2 rfl (by decide) _ _ _ rfl (World.ownsRow.alloc HO3.out _) ⟨w3.heap.size, 0, none⟩ 1 1 [.int .i64 x, .int .i64 y] rfl rfl (cell_two_new _ _ _ _) (fun u hu => by simp at hu; rcases hu with rfl | rfl <;> rfl) (by unfold maxLen; omega) (by omega) (by have := HSZ3.out; simp; omega) ?_; intro v1 w4 hown1 hgrow1 hnil1; have HO4 := Lib.hid (Owns.snoc hown1); have HGR := Lib.hid hgrow1; clear hown1 hgrow1 hnil1))
        have hg3 : Going w3 m w.heap.size N D (fun z => left z && !z.sameKey (litId (x, y))) cnt2 := HG2.out.kept (below_grown HB3.out) (by simp) (by simp)
        have hg4 := (hg3.alloc (cells x y)).kept HGR.out (Owns.low HO3.out (Nat.lt_succ_of_lt HM.out)) (Owns.low HO3.out (Nat.lt_succ_self _))
        have HG4 := Lib.hid hg4
        clear hg3 hg4
        go_roundw
        case rel => exact ⟨_, cnt2, out ++ [(x, y)], HG4, HO4, Lib.hid (Below.grown ((HB2.out.trans (HB3.out.mono HB2.out.size)).alloc (by have := HSZ3.out; omega) _) HGR.out (by have := HSZ3.out; simp; omega) (fun k hk => by have := (World.ownsRow.lt HO3.out k hk).1; omega)), Lib.hid (by have h1 := HGR.out.size; have h2 := HSZ3.out; simp at h1; omega), HC3⟩
        case measure => rw [HG4.out.left_eq, hrg.out.left_eq]; exact HLT.out

theorem minus_any (v u : Value) (zs ys : List Idn) (w : World) (h : SetAt w v zs) (hu : SetAt w u ys) (hl : zs.length ≤ 100000) : Calls Tryz.prog 110 #[v, u] w (GivesRow (minus zs ys) w) := by
  rcases h with ⟨rfl, rfl⟩ | ⟨g, m, rfl, h⟩
  · go_enter Tryz.func110, Tryz.ntmps110
    go_wp2
    go_ret
    exact ⟨_, rfl, row_nil _, Below.refl _ _⟩
  · exact minus_p g m zs u ys w h hu hl
theorem setlist_any (v : Value) (zs : List Idn) (w : World) (h : SetAt w v zs) (hl : zs.length ≤ 100000) : Calls Tryz.prog 82 #[v] w (GivesRow zs w) := by
  have HM := Lib.hid (minus_any v (.pointer none) zs [] w h (.inl ⟨rfl, rfl⟩) hl)
  rw [minus_nil] at HM
  clear h
  go_enter Tryz.func82, Tryz.ntmps82
  go_wp2_with (go_at_call 110; ((with_reducible refine HM.out.mono ?_); rintro e w1 ⟨r, rfl, hr, hb⟩; have HR := Lib.hid (And.intro hr hb); clear hr hb))
  go_ret
  exact ⟨_, rfl, HR.out⟩

/-! ### Same -/
theorem sub_len : ∀ (a b : List Idn), a.Nodup → b.Nodup → (∀ x ∈ a, x ∈ b) → a.length ≤ b.length
  | [], b, _, _, _ => Nat.zero_le _
  | x :: t, b, ha, hb, h => by
    obtain ⟨h1, h2⟩ := List.nodup_cons.1 ha
    have hx := h x (by simp)
    have hd := del_len (x := x) hb
    rw [if_pos hx] at hd
    have := sub_len t (del b x) h2 (hb.filter _) fun y hy => (del_mem b x y).2 ⟨h y (by simp [hy]), fun e => h1 (e ▸ hy)⟩
    rw [List.length_cons]; omega
theorem SetAt.rise {w : World} {v : Value} {zs : List Idn} (h : SetAt w v zs) : Rise zs := by
  rcases h with ⟨-, rfl⟩ | ⟨g, b, -, h⟩
  · exact .nil
  · exact h.set.rise
end Go.Proofs.YtjokejcokgeeiaaGreat.Ids
