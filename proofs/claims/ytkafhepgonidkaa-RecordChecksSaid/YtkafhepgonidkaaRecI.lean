/- append of a list to an empty slice of the call's own (layer 8, record): a row in new memory, whatever the order in which the statement's parts come up. Conditions: the list lies in memory as its cells say, and is not longer than 100000. -/
import Derived.Test.YtkafhepgonidkaaRecG
import Derived.Deep.RegionLawGrows
namespace Go.Proofs.Ytkafhepgonidkaa.Rec
open Go.RowKit Cmd Bat Ids
set_option linter.unusedVariables false

/-- A row of n elements in a block of its own, new since 'base'. -/
structure Fresh (e : TypeId) (size : Nat) (fl : List Value) (n base g cap : Nat) (W : World) : Prop where
  le : n ≤ cap
  max : cap ≤ maxLen
  row : n = 0 ∨ (base ≤ g ∧ g < W.heap.size ∧ ∃ cur, W.heap[g]? = some (.cells cur e (0, 0)) ∧ n * size ≤ cur.size ∧ cur.toList.take (n * size) = fl)
theorem Fresh.on {e : TypeId} {size : Nat} {fl : List Value} {n base g cap : Nat} {W W' : World} (h : Fresh e size fl n base g cap W) (hb : Below W.heap.size W W') : Fresh e size fl n base g cap W' :=
  ⟨h.le, h.max, h.row.imp id fun ⟨h1, h2, cur, h3, h4⟩ => ⟨h1, Nat.lt_of_lt_of_le h2 hb.size, cur, (hb.block g h2).trans h3, h4⟩⟩
theorem Fresh.from {e : TypeId} {size : Nat} {fl : List Value} {n base base' g cap : Nat} {W : World} (h : Fresh e size fl n base g cap W) (hb : base' ≤ base) : Fresh e size fl n base' g cap W :=
  ⟨h.le, h.max, h.row.imp id fun ⟨h1, h2⟩ => ⟨Nat.le_trans hb h1, h2⟩⟩
theorem Fresh.far {e : TypeId} {size : Nat} {fl : List Value} {n base g cap : Nat} {W W' : World} (h : Fresh e size fl n base g cap W) (hs : W'.heap.size = W.heap.size) (hg : n = 0 ∨ W'.heap[g]? = W.heap[g]?) : Fresh e size fl n base g cap W' := by
  refine ⟨h.le, h.max, ?_⟩
  rcases h.row with h0 | ⟨h1, h2, cur, h3, h4⟩
  · exact .inl h0
  · rcases hg with h0 | hg
    · exact .inl h0
    · exact .inr ⟨h1, by rw [hs]; exact h2, cur, hg.trans h3, h4⟩

section
variable {P : Program}
theorem run_append_new (w : World) (t ty e : TypeId) (i : TypeInfo) (z : Value) (size bytes : Nat) (h1 : P.underlying t = some (.slice e)) (h2 : P.info? e = some i) (h3 : i.zero = some z) (h4 : i.size = size) (h5 : i.bytes = bytes) (h6 : z.cells.size = size) (h7 : 0 < size)
    (g : Nat) (p : Option Addr) (m c : Nat) (news : List Value) (hn : news.length = m * size) (hp : m = 0 ∨ ∃ ad, p = some ad ∧ ∀ j u, news[j]? = some u → w.cell? (ad.add j) = some u) (b1 : m ≤ maxLen) (b2 : m * bytes ≤ 140737488355328) :
    ∃ g' k w', (Builtin.append_ #[t, t] ty #[.slice (some ⟨g, 0, none⟩) 0 0, .slice p m c]).run P w = .ok (.slice (some ⟨g', 0, none⟩) m k) w' ∧ Fresh e size news m w.heap.size g' k w' ∧ Below w.heap.size w w' := by
  by_cases hm : m = 0
  · subst hm
    refine ⟨g, 0, w, ?_, ⟨Nat.le_refl _, Nat.zero_le _, .inl rfl⟩, Below.refl _ _⟩
    cases p with
    | none => simp [Builtin.append_, run_underlying h1, sizeOf, typeInfo, h2, Builtin.lenOf, Builtin.firstCells, storeCells]
    | some ad =>
      have hl : (loadCells ad 0).run P w = .ok #[] w := by simpa using run_loadCells_list (P := P) w ad [] (by simp)
      simp [Builtin.append_, run_underlying h1, sizeOf, typeInfo, h2, Builtin.lenOf, Builtin.firstCells, storeCells, hl]
  · obtain ⟨ad, rfl, hc⟩ := hp.resolve_left hm
    obtain ⟨v', w', hrun, r1, r2⟩ := run_append_arg_grows (P := P) w t ty e i z size bytes h1 h2 h3 h4 h5 h6 h7 ⟨g, 0, none⟩ 0 0 [] (by simp) (fun j u hu => by simp at hu) ad m c news hn hc (by omega) (by omega) (by simpa using b2)
    rw [Nat.zero_add, List.nil_append] at r1
    rcases r1.2 with ⟨-, h0⟩ | ⟨g', k, cur, rfl, hb, hg, hk, hm', hcs, htk⟩
    · exact absurd h0 hm
    · exact ⟨g', k, w', hrun, ⟨hk, hm', .inr ⟨hb, (Array.getElem?_eq_some_iff.1 hg).1, cur, hg, by rw [hcs]; exact Nat.mul_le_mul_right _ hk, htk⟩⟩, Below.grown (Below.refl _ _) r2 (Nat.le_refl _) (fun k hk => by cases hk)⟩

theorem step_append_new {ops : Array Oper} {o : Oper} {a : Act} {w : World} {K : Act → World → Prop} {Q : Exit → Act → World → Prop} {E : Prop}
    (hgd : o.guard = none) (s x : Operand) (t : TypeId) (hop : o.op = Op.call { callee := Callee.builtin Builtin.append, args := #[s, x], argTypes := #[t, t] })
    (e : TypeId) (i : TypeInfo) (z : Value) (size bytes : Nat) (h1 : P.underlying t = some (.slice e)) (h2 : P.info? e = some i) (h3 : i.zero = some z) (h4 : i.size = size) (h5 : i.bytes = bytes) (h6 : z.cells.size = size) (h7 : 0 < size)
    (g : Nat) (hs : a.eval s = .slice (some ⟨g, 0, none⟩) 0 0) (p : Option Addr) (m c : Nat) (hx : a.eval x = .slice p m c) (news : List Value) (hn : news.length = m * size) (hp : m = 0 ∨ ∃ ad, p = some ad ∧ ∀ j u, news[j]? = some u → w.cell? (ad.add j) = some u) (b1 : m ≤ maxLen) (b2 : m * bytes ≤ 140737488355328)
    (hK : ∀ g' k w', Hid (Fresh e size news m w.heap.size g' k w') → Hid (Below w.heap.size w w') → K (a.put o.dst (.slice (some ⟨g', 0, none⟩) m k)) w') :
    if Region.wanted o (yielded ops a.tmps) = true then Oper.wp P o a w K Q else E := by
  have hw : Region.wanted o (yielded ops a.tmps) = true := by simp [Region.wanted, hgd]
  rw [if_pos hw]
  obtain ⟨g', k, w', hrun, r1, r2⟩ := run_append_new (P := P) w t o.type e i z size bytes h1 h2 h3 h4 h5 h6 h7 g p m c news hn hp b1 b2
  unfold Oper.wp
  simp [execOp, hop, resolve, invoke, builtin, hs, hx, hrun, Result.andThen]
  exact hK g' k w' (Lib.hid r1) (Lib.hid r2)
end

/-! ### At ids, at commands -/
theorem stepI {ops : Array Oper} {o : Oper} {a : Act} {w : World} {K : Act → World → Prop} {Q : Exit → Act → World → Prop} {E : Prop}
    (hgd : o.guard = none) (s x : Operand) (hop : o.op = Op.call { callee := Callee.builtin Builtin.append, args := #[s, x], argTypes := #[24, 24] })
    (g : Nat) (hs : a.eval s = .slice (some ⟨g, 0, none⟩) 0 0) (p : Option Addr) (m c : Nat) (hx : a.eval x = .slice p m c) (zs : List Idn) (hm : m = zs.length) (hr : RowAt w (.slice p m c) zs) (hl : m ≤ 100000)
    (hK : ∀ g' k w', Hid (Fresh 23 2 (flat zs) m w.heap.size g' k w') → Hid (Below w.heap.size w w') → K (a.put o.dst (.slice (some ⟨g', 0, none⟩) m k)) w') :
    if Region.wanted o (yielded ops a.tmps) = true then Oper.wp Try.prog o a w K Q else E := by
  obtain ⟨i0, hi, hz0, hz1, hz2⟩ := info_parts info_id
  subst hm
  refine step_append_new (P := Try.prog) hgd s x 24 hop 23 i0 _ 2 16 Try.underlying24 hi hz0 hz1 hz2 rfl (by decide) g hs p zs.length c hx (flat zs) (flat_len zs) ?_ (by unfold maxLen; omega) (by omega) hK
  obtain ⟨p', cap, e, h1, h2, -, h3⟩ := hr
  by_cases hz : zs = []
  · left; rw [hz]; rfl
  · right
    obtain ⟨B, off, rfl, hlt, hc⟩ := h3 hz
    injection e with e1 _ _
    exact ⟨_, e1, srcI ⟨hlt, fun j hj => (hc j hj).1, fun j hj => (hc j hj).2⟩⟩
theorem stepC {ops : Array Oper} {o : Oper} {a : Act} {w : World} {K : Act → World → Prop} {Q : Exit → Act → World → Prop} {E : Prop}
    (hgd : o.guard = none) (s x : Operand) (hop : o.op = Op.call { callee := Callee.builtin Builtin.append, args := #[s, x], argTypes := #[25, 25] })
    (g : Nat) (hs : a.eval s = .slice (some ⟨g, 0, none⟩) 0 0) (p : Option Addr) (m c : Nat) (hx : a.eval x = .slice p m c) (zs : List Cmdn) (hm : m = zs.length) (hr : layC.Row w (.slice p m c) zs) (hl : m ≤ 100000)
    (hK : ∀ g' k w', Hid (Fresh 36 3 (flatC zs) m w.heap.size g' k w') → Hid (Below w.heap.size w w') → K (a.put o.dst (.slice (some ⟨g', 0, none⟩) m k)) w') :
    if Region.wanted o (yielded ops a.tmps) = true then Oper.wp Try.prog o a w K Q else E := by
  obtain ⟨i0, hi, hz0, hz1, hz2⟩ := info_parts info_cmd
  subst hm
  refine step_append_new (P := Try.prog) hgd s x 25 hop 36 i0 _ 3 32 Try.underlying25 hi hz0 hz1 hz2 rfl (by decide) g hs p zs.length c hx (flatC zs) (flatC_len zs) ?_ (by unfold maxLen; omega) (by omega) hK
  obtain ⟨p', cap, e, h1, h2, h3⟩ := hr
  by_cases hz : zs = []
  · left; rw [hz]; rfl
  · right
    obtain ⟨B, off, rfl, hc⟩ := h3 hz
    injection e with e1 _ _
    exact ⟨_, e1, srcC hc⟩
end Go.Proofs.Ytkafhepgonidkaa.Rec
