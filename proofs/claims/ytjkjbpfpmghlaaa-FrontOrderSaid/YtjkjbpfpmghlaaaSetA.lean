/- Maps keyed by ids (layer 4, idset): what a key reads as; a map of ids to true as the list of ids that it has: made, asked, put into, taken out of, counted, emptied. Conditions: those in each statement. -/
import Derived.Test.YtjkjbpfpmghlaaaIdP
import Derived.Maps.OwnSet
import Derived.Maps.RangeWalk
import Derived.DeepKeys4
namespace Go.Proofs.Ytjkjbpfpmghlaaa
open Go.RowKit Go.Maps Go.WideElems Go.ChangeMaps
set_option linter.unusedVariables false

/-! ### Keys -/
def idv (x : Idn) : Value := .agg #[.int .i64 x.1, .int .i64 x.2]
def litId (x : Idn) : Lit := .string (keyBytes [.int .i64 x.1, .int .i64 x.2])
theorem wide_id : (match Try.prog.underlying 24 with | some (.array _ _) | some (.struct _) => true | _ => false) = true := by rw [Try.underlying24]
theorem law_id : Keyed Try.prog 24 :=
  Keyed.of_law (deep_law_laid (by kernel_rfl) (m := 3) (by omega) (of_decide_eq_true (by kernel_rfl)) (by kernel_rfl) wide_id)
theorem keyType_id : Try.prog.keyType 24 = true := by kernel_rfl
theorem cells_id : Try.prog.cellsOf 24 = 2 := by kernel_rfl
theorem cells_int : Try.prog.cellsOf 3 = 1 := by kernel_rfl
theorem size_types : ∃ n, Try.prog.types.size + 1 = n + 2 := ⟨Try.prog.types.size - 1, by have : 1 ≤ Try.prog.types.size := of_decide_eq_true (by kernel_rfl); omega⟩
theorem key_id {x : Idn} (h : wfId x) : keyOf Try.prog 24 (idv x) = some (litId x) := by
  obtain ⟨n, hn⟩ := size_types
  have w1 := wf_i64.2 h.1
  have w2 := wf_i64.2 h.2
  unfold keyOf
  rw [Try.underlying24, hn]
  simp [keyType_id, idv, Value.formed, Try.underlying24, cells_id, cells_int, Value.cells, Program.keyLits, Try.underlying3, w1, w2, litId]
theorem lits_int {d : Nat} {c : Value} {ls : List Lit} (h : Try.prog.keyLits (d + 1) 3 [c] = some ls) : ∃ n, c = .int .i64 n ∧ wfI n ∧ ls = [.int .i64 n] := by
  cases c <;> simp [Program.keyLits, Try.underlying3] at h
  obtain ⟨⟨rfl, hw⟩, rfl⟩ := h
  exact ⟨_, rfl, wf_i64.1 hw, rfl⟩
theorem lits_id (n : Nat) (c0 c1 : Value) : Try.prog.keyLits (n + 2) 24 [c0, c1] = (Try.prog.keyLits (n + 1) 3 [c0]).bind fun a => (Try.prog.keyLits (n + 1) 3 [c1]).bind fun b => some (a ++ b) := by
  conv => lhs; unfold Program.keyLits
  simp [Try.underlying24, cells_id, cells_int]
  cases Try.prog.keyLits (n + 1) 3 [c0] <;> cases Try.prog.keyLits (n + 1) 3 [c1] <;> simp
theorem key_inv {v : Value} {l : Lit} (h : keyOf Try.prog 24 v = some l) : ∃ x, wfId x ∧ v = idv x ∧ l = litId x := by
  obtain ⟨n, hn⟩ := size_types
  unfold keyOf at h
  rw [Try.underlying24, hn] at h
  simp only [keyType_id, Bool.true_and] at h
  split at h
  · rename_i hf
    rw [Option.map_eq_some_iff] at h
    obtain ⟨ls, h1, rfl⟩ := h
    cases v <;> simp [Value.formed, Try.underlying24, cells_id] at hf
    rename_i cs
    obtain ⟨l⟩ := cs
    match l, hf with
    | [c0, c1], _ =>
      have h2 : Try.prog.keyLits (n + 2) 24 [c0, c1] = some ls := h1
      rw [lits_id, Option.bind_eq_some_iff] at h2
      obtain ⟨la, ha, h2⟩ := h2
      rw [Option.bind_eq_some_iff] at h2
      obtain ⟨lb, hb, h2⟩ := h2
      obtain ⟨x, rfl, hx, rfl⟩ := lits_int ha
      obtain ⟨y, rfl, hy, rfl⟩ := lits_int hb
      cases h2
      exact ⟨(x, y), ⟨hx, hy⟩, rfl, rfl⟩
  · cases h
theorem litId_inj {x y : Idn} (hx : wfId x) (hy : wfId y) (h : litId x = litId y) : x = y := by
  have := law_id.inj (key_id hx) (h ▸ key_id hy)
  unfold idv at this
  simp at this
  exact Prod.ext this.1 this.2
theorem lit_key (x : Idn) : WideAt.IsKeyLit (litId x) := trivial

/-! ### Lists that rise, with one id less -/
def del (zs : List Idn) (x : Idn) : List Idn := zs.filter fun y => decide (y ≠ x)
theorem del_mem (zs : List Idn) (x z : Idn) : z ∈ del zs x ↔ z ∈ zs ∧ z ≠ x := by unfold del; rw [List.mem_filter, decide_eq_true_eq]
theorem del_length (zs : List Idn) (x : Idn) : (del zs x).length ≤ zs.length := List.length_filter_le _ _
theorem del_rise {zs : List Idn} (h : Rise zs) (x : Idn) : Rise (del zs x) := h.filter _
theorem rise_nodup {zs : List Idn} (h : Rise zs) : zs.Nodup := h.imp fun {a b} hab e => by rw [e, lt_irr] at hab; cases hab
theorem put_len {zs : List Idn} {x : Idn} (h : x ∉ zs) : (put zs x).length = zs.length + 1 := by unfold put; rw [if_neg h, ins_length]
theorem put_of_mem {zs : List Idn} {x : Idn} (h : x ∈ zs) : put zs x = zs := by unfold put; rw [if_pos h]
theorem del_len {zs : List Idn} {x : Idn} (h : zs.Nodup) : (del zs x).length + (if x ∈ zs then 1 else 0) = zs.length := by
  induction zs with
  | nil => rfl
  | cons y t ih =>
    obtain ⟨h1, h2⟩ := List.nodup_cons.1 h
    have ih := ih h2
    unfold del at *
    by_cases e : y = x
    · subst e
      rw [if_neg h1] at ih
      simp at ih ⊢
      exact ih
    · have e' : ¬ x = y := fun h => e h.symm
      simp only [List.filter_cons, List.mem_cons, e', false_or, List.length_cons]
      rw [if_pos (by simpa using e)]
      simp only [List.length_cons]
      omega

/-! ### The map -/
/-- The map holds true at just these ids. -/
structure Told (D : DataW Unit) (zs : List Idn) : Prop where
  wf : ∀ x ∈ zs, wfId x
  rise : Rise zs
  has : ∀ k, Maps.has D k = true ↔ ∃ x ∈ zs, litId x = k
  val : ∀ k, Maps.has D k = true → ∀ z, D.atKey k z = .lit (.bool true)
  size : Maps.size D = zs.length
noncomputable abbrev boolElem : Value → Option (DataW Unit × List MemPlace) := plainElem (H := Unit) Try.prog 4
abbrev MapIs (w : World) (b n : Nat) (D : DataW Unit) : Prop := w.ownsMap Try.prog 24 boolElem b n D
/-- Block b is a map that holds true at just the ids of a rising list. -/
def IsSet (w : World) (b : Nat) (zs : List Idn) : Prop := ∃ D : DataW Unit, MapIs w b zs.length D ∧ Told D zs
theorem Told.mem {D : DataW Unit} {zs : List Idn} (h : Told D zs) {x : Idn} (hx : wfId x) : Maps.has D (litId x) = decide (x ∈ zs) := by
  rw [Bool.eq_iff_iff, h.has, decide_eq_true_eq]
  constructor
  · rintro ⟨y, hy, e⟩; rw [← litId_inj (h.wf y hy) hx e]; exact hy
  · intro hm; exact ⟨x, hm, rfl⟩
theorem Told.nil : Told (.map []) [] := ⟨fun x h => (by cases h), .nil, fun k => ⟨fun h => (by cases h), fun ⟨x, h, _⟩ => (by cases h)⟩, fun k h => (by cases h), rfl⟩
theorem tight {P : Program} {k : TypeId} {R : Value → Option (DataW Unit × List MemPlace)} {w : World} {b n : Nat} {D : DataW Unit} (h : w.ownsMap P k R b n D) : w.ownsMap P k R b (Maps.size D) D := by
  obtain ⟨es, clock, hb, F, hs, rfl⟩ := h
  exact ⟨es, clock, hb, F, by simp [Maps.size, length_sorted], rfl⟩
theorem Told.put {D : DataW Unit} {zs : List Idn} (h : Told D zs) (hT : Tidy D) {x : Idn} (hx : wfId x) : Told (D.put (litId x) (.lit (.bool true))) (Go.Proofs.Ytjkjbpfpmghlaaa.put zs x) := by
  refine ⟨fun y hy => ?_, put_rise h.rise, fun k => ?_, fun k hk z => ?_, ?_⟩
  · rcases (put_mem zs x y).1 hy with rfl | hy
    · exact hx
    · exact h.wf y hy
  · by_cases e : k = litId x
    · subst e
      exact ⟨fun _ => ⟨x, (put_mem zs x x).2 (.inl rfl), rfl⟩, fun _ => has_put_same hT.isMap (lit_key x) _⟩
    · rw [has_put_other e, h.has]
      constructor
      · rintro ⟨y, hy, e⟩; exact ⟨y, (put_mem zs x y).2 (.inr hy), e⟩
      · rintro ⟨y, hy, e2⟩
        rcases (put_mem zs x y).1 hy with rfl | hy
        · exact absurd e2.symm e
        · exact ⟨y, hy, e2⟩
  · by_cases e : k = litId x
    · subst e; exact atKey_put_same hT.isMap (lit_key x) _ z
    · rw [has_put_other e] at hk
      rw [atKey_put_other e]; exact h.val k hk z
  · rw [size_put hT, h.mem hx, h.size]
    by_cases e : x ∈ zs
    · rw [put_of_mem e]; simp [e]
    · rw [put_len e]; simp [e]
theorem Told.del {D : DataW Unit} {zs : List Idn} (h : Told D zs) (hT : Tidy D) {x : Idn} (hx : wfId x) : Told (D.del (litId x)) (Go.Proofs.Ytjkjbpfpmghlaaa.del zs x) := by
  refine ⟨fun y hy => h.wf y ((del_mem zs x y).1 hy).1, del_rise h.rise x, fun k => ?_, fun k hk z => ?_, ?_⟩
  · by_cases e : k = litId x
    · subst e
      rw [has_del_same]
      refine ⟨fun h => (by cases h), fun ⟨y, hy, e⟩ => ?_⟩
      obtain ⟨h1, h2⟩ := (del_mem zs x y).1 hy
      exact absurd (litId_inj (h.wf y h1) hx e) h2
    · rw [has_del_other e, h.has]
      constructor
      · rintro ⟨y, hy, e2⟩
        exact ⟨y, (del_mem zs x y).2 ⟨hy, fun e3 => e (by rw [← e2, e3])⟩, e2⟩
      · rintro ⟨y, hy, e2⟩; exact ⟨y, ((del_mem zs x y).1 hy).1, e2⟩
  · by_cases e : k = litId x
    · subst e; rw [has_del_same] at hk; cases hk
    · rw [has_del_other e] at hk
      rw [atKey_del_other e]; exact h.val k hk z
  · have h1 := size_del (k := litId x) hT
    rw [h.mem hx, h.size] at h1
    have h2 := del_len (x := x) (rise_nodup h.rise)
    by_cases e : x ∈ zs
    · simp [e] at h1 h2; omega
    · simp [e] at h1 h2; omega

theorem IsSet.made (w : World) : IsSet (w.alloc (.map #[] 0)) w.heap.size [] := ⟨.map [], World.ownsMap_made w _ _ _, Told.nil⟩
theorem IsSet.lt {w : World} {b : Nat} {zs : List Idn} (h : IsSet w b zs) : b < w.heap.size := by obtain ⟨D, h, _⟩ := h; exact h.lt
theorem IsSet.isMap {w : World} {b : Nat} {zs : List Idn} (h : IsSet w b zs) : ∃ es c, w.heap[b]? = some (.map es c) := by obtain ⟨D, ⟨es, c, h, _⟩, _⟩ := h; exact ⟨es, c, h⟩
theorem IsSet.block {w w' : World} {b : Nat} {zs : List Idn} (h : IsSet w b zs) (e : w'.heap[b]? = w.heap[b]?) : IsSet w' b zs := by
  obtain ⟨D, ⟨es, c, hb, r⟩, t⟩ := h
  exact ⟨D, ⟨es, c, e.trans hb, r⟩, t⟩
theorem IsSet.wf {w : World} {b : Nat} {zs : List Idn} (h : IsSet w b zs) : ∀ x ∈ zs, wfId x := by obtain ⟨D, _, t⟩ := h; exact t.wf
theorem IsSet.rise {w : World} {b : Nat} {zs : List Idn} (h : IsSet w b zs) : Rise zs := by obtain ⟨D, _, t⟩ := h; exact t.rise
theorem und_map : Try.prog.underlying 48 = some (.map 24 4) := Try.underlying48
theorem zero_bool (w : World) : (zeroValue 4).run Try.prog w = .ok (.bool false) w := by kernel_rfl
theorem bool_inv {v : Value} {z : DataW Unit × List MemPlace} (h : boolElem v = some z) : ∃ x, v = .bool x ∧ z = (.lit (.bool x), []) := by
  unfold boolElem plainElem at h
  rw [Try.underlying4] at h
  cases v <;> simp at h
  exact ⟨_, rfl, h.symm⟩
theorem IsSet.look {w : World} {b : Nat} {zs : List Idn} (h : IsSet w b zs) {x : Idn} (hx : wfId x) : (Instr.lookup 48 (.map (some b)) (idv x) false).run Try.prog w = .ok (.bool (decide (x ∈ zs))) w := by
  obtain ⟨D, hD, t⟩ := h
  obtain ⟨v, ps, hrun, hv⟩ := hD.lookup law_id und_map (zero_bool w) (plainElem_bool Try.underlying4 false) (key_id hx)
  obtain ⟨y, rfl, e⟩ := bool_inv hv
  rw [hrun]
  have hm := t.mem hx
  cases hh : Maps.has D (litId x) with
  | true =>
    rw [t.val _ hh] at e
    rw [hh] at hm
    cases e
    rw [← hm]
  | false =>
    rw [atKey_of_not_has hh] at e
    rw [hh] at hm
    cases e
    rw [← hm]
theorem IsSet.store {w : World} {b : Nat} {zs : List Idn} (h : IsSet w b zs) {x : Idn} (hx : wfId x) (hl : zs.length < maxLen) : ∃ w', (Instr.mapUpdate 48 (.map (some b)) (idv x) (.bool true)).run Try.prog w = .ok () w' ∧ IsSet w' b (put zs x) ∧ w.mapTurned w' b := by
  obtain ⟨D, hD, t⟩ := h
  obtain ⟨w', hrun, h1, h2⟩ := hD.store law_id und_map hl (key_id hx) (plainElem_bool Try.underlying4 true)
  have ht := t.put (hD.tidy law_id) hx
  have h3 := tight h1
  rw [ht.size] at h3
  exact ⟨w', hrun, ⟨_, h3, ht⟩, h2⟩
theorem IsSet.drop {w : World} {b : Nat} {zs : List Idn} (h : IsSet w b zs) {x : Idn} (hx : wfId x) (ty : TypeId) : ∃ w', (Builtin.delete_ #[48, 24] ty #[.map (some b), idv x]).run Try.prog w = .ok (.tuple #[]) w' ∧ IsSet w' b (del zs x) ∧ w.mapTurned w' b := by
  obtain ⟨D, hD, t⟩ := h
  obtain ⟨w', hrun, h1, h2⟩ := hD.drop law_id und_map (key_id hx) ty
  have ht := t.del (hD.tidy law_id) hx
  have h3 := tight h1
  rw [ht.size] at h3
  exact ⟨w', hrun, ⟨_, h3, ht⟩, h2⟩
theorem IsSet.len {w : World} {b : Nat} {zs : List Idn} (h : IsSet w b zs) (ty : TypeId) : (Builtin.len_ #[48] ty #[.map (some b)]).run Try.prog w = .ok (.int .i64 zs.length) w := by
  obtain ⟨D, hD, t⟩ := h
  rw [hD.len und_map ty, t.size]
theorem IsSet.clear {w : World} {b : Nat} {zs : List Idn} (h : IsSet w b zs) (ty : TypeId) : ∃ w', (Builtin.clear_ #[48] ty #[.map (some b)]).run Try.prog w = .ok (.tuple #[]) w' ∧ IsSet w' b [] ∧ w.mapTurned w' b := by
  obtain ⟨es, c, hb⟩ := h.isMap
  refine ⟨setBlock w b (.map #[] c), ?_, ⟨.map [], ⟨#[], c, heap_setBlock_same hb _, ⟨by simp, Go.MapKept.stamped_empty c, by simp⟩, Nat.le_refl _, rfl⟩, Told.nil⟩, ⟨es, c, #[], c, hb, rfl⟩⟩
  simp [Builtin.clear_, run_underlying und_map, Go.MapKept.run_getObj_map hb, Go.MapKept.run_setObj_map _ hb, Result.andThen, setBlock]

/-! ### Gone over -/
abbrev Going (w : World) (m r n : Nat) (D : DataW Unit) (left : Lit → Bool) (cnt : Nat) : Prop := w.ranges Try.prog 24 boolElem m r n D left cnt
/-- A round's step: nothing is left, or one of the ids has come. (Both goals are hidden, for the walk to stand.) -/
theorem wp_next_ids {w : World} {ops : Array Oper} {rest : List Oper} {o : Oper} {a : Act} {Q : Exit → Act → World → Prop} (hg : o.guard = none) (it : Operand) (hop : o.op = Op.next it false) (m r n : Nat) (D : DataW Unit) (zs : List Idn) (t : Told D zs) (left : Lit → Bool) (cnt : Nat)
    (hit : a.eval it = .pointer (some ⟨r, 0, none⟩)) (h : Going w m r n D left cnt)
    (hDone : Hid ((∀ kl, left kl = false) → wpList Try.prog ops Q rest (a.put o.dst (.tuple #[.bool false])) w))
    (hMore : Hid (∀ (x y : Int) (w' : World) (cnt' : Nat), (x, y) ∈ zs → left (litId (x, y)) = true → Going w' m r n D (fun z => left z && !z.sameKey (litId (x, y))) cnt' → cnt' < cnt → w.grownBy w' (some r) → w'.heap.size = w.heap.size →
      (Instr.entry (.pointer (some ⟨r, 0, none⟩))).run Try.prog w' = .ok (.tuple #[.agg #[.int .i64 x, .int .i64 y], .bool true]) w' → wpList Try.prog ops Q rest (a.put o.dst (.tuple #[.bool true, .agg #[.int .i64 x, .int .i64 y], .bool true])) w')) :
    wpList Try.prog ops Q (o :: rest) a w := by
  refine wpList_next_ranges w hg it hop 24 law_id boolElem idv Value.bool (fun key kl hk => by obtain ⟨x, _, hx, _⟩ := key_inv hk; exact ⟨x, hx⟩) (fun v y hv => by obtain ⟨c, rfl, _⟩ := bool_inv hv; exact ⟨c, rfl⟩) m r n D left cnt hit h (fun _ => hDone.out) ?_
  rintro ⟨x, y⟩ c kl yv w' cnt' hkey hlk hv hat hrg hlt hgr hsz hen
  obtain ⟨x', hx', e, rfl⟩ := key_inv hkey
  have e2 : (x, y) = x' := by unfold idv at e; simp at e; exact Prod.ext e.1 e.2
  subst e2
  have hh := has_true_of_atKey hat
  obtain ⟨z, hz, e3⟩ := (t.has _).1 hh
  have e4 := litId_inj (t.wf z hz) hx' e3
  subst e4
  obtain ⟨c', e5, rfl⟩ := bool_inv hv
  have hc := (hat (.lit (.bool false))).symm.trans (t.val _ hh _)
  cases e5
  cases hc
  exact hMore.out x y w' cnt' hz hlk hrg hlt hgr hsz hen
end Go.Proofs.Ytjkjbpfpmghlaaa
