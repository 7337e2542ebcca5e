/- append of one element to a row of the call's own, telling where the row lies. Conditions: those in each statement. -/
import Derived.Test.YtomidcbpnaajeaaGreatWid
import Derived.Test.YtomidcbpnaajeaaGreatRecD
import Derived.Laws.OwnMore
namespace Go.Proofs.YtomidcbpnaajeaaGreat.Cps
open Go.RowKit Cmd Bat Ids Rec Wid
set_option linter.unusedVariables false
set_option linter.unusedSimpArgs false

/-! ### append of one element, telling where the row lies -/
theorem grow_wd {α : Type} {D : Wd α} {t e : TypeId} {z : Value} {bytes : Nat} (T : Wt D t e z bytes) (w : World) (ty : TypeId) (base : Nat) (v : Value) (zs : List α) (hv : D.Own e w base v zs) (hb : base ≤ w.heap.size) (eb : Nat) (x : α) (cs : Array Value) (hcs : cs.toList = D.enc x) (he : w.heap[eb]? = some (.cells cs e (0, 0))) (hl : zs.length + 1 ≤ 1000000) :
    ∃ v' w', (Builtin.append_ #[t, t] ty #[v, .slice (some ⟨eb, 0, none⟩) 1 1]).run Tryz.prog w = .ok v' w' ∧ (D.Own e w' base v' (zs ++ [x]) ∧ w.grownBy w' v.ownBlock ∧ (v'.ownBlock = v.ownBlock ∨ v'.ownBlock = some w.heap.size)) := by
  obtain ⟨i0, hi, hz0, hz1, hz2⟩ := info_parts T.inf
  have hc : ∀ j u, (D.enc x)[j]? = some u → w.cell? ((⟨eb, 0, none⟩ : Addr).add j) = some u := fun j u hu => by
    rw [Bat.add_lit]
    unfold World.cell?
    rw [he]
    show cs[j]? = some u
    rw [← Array.getElem?_toList, hcs]; exact hu
  have hby : (zs.length + 1) * bytes ≤ 1000000 * 1000 := Nat.mul_le_mul hl T.few
  obtain ⟨v', w', hr, r1, r2, -, r3⟩ := run_append_own_at (P := Tryz.prog) (w := w) base t ty e i0 z D.c bytes T.und hi hz0 hz1 hz2 T.zc D.cpos v zs.length (D.flat zs) hv ⟨eb, 0, none⟩ 1 1 (D.enc x) (by rw [D.len, Nat.one_mul]) hc (fun u hu => D.one x u hu) (by unfold maxLen; omega) (by omega) hb
  refine ⟨v', w', hr, ?_, r2, r3⟩
  unfold Wd.Own
  rw [List.length_append, List.length_singleton, Wd.flat_app]
  have e1 : D.flat [x] = D.enc x := by unfold Wd.flat; simp
  rw [e1]; exact r1
theorem wp_app {ops : Array Oper} {rest : List Oper} {o : Oper} {a : Act} {Q : Exit → Act → World → Prop} {w : World} (hgd : o.guard = none) (s x : Operand) (t : TypeId)
    (ho : o.op = .call { callee := .builtin .append, args := #[s, x], argTypes := #[t, t] }) (v u : Value) (hs : a.eval s = v) (hx : a.eval x = u) {P : Value → World → Prop} (hr : ∃ v' w', (Builtin.append_ #[t, t] o.type #[v, u]).run Tryz.prog w = .ok v' w' ∧ P v' w')
    (hK : ∀ v' w', Hid (P v' w') → wpList Tryz.prog ops Q rest (a.put o.dst v') w') : wpList Tryz.prog ops Q (o :: rest) a w := by
  obtain ⟨v', w', hr, r1⟩ := hr
  refine wpList_plain hgd fun K hK' => ?_
  unfold Oper.wp execOp
  simp only [ho, resolve, invoke, builtin, Sem.run_bind, Sem.run_pure, Result.andThen_ok, List.map_toArray, List.map_cons, List.map_nil, hs, hx]
  rw [hr]
  exact hK' _ _ (hK v' w' (Lib.hid r1))
theorem step_app {ops : Array Oper} {o : Oper} {a : Act} {w : World} {K : Act → World → Prop} {Q : Exit → Act → World → Prop} {E : Prop}
    (hw : Region.wanted o (yielded ops a.tmps) = true) (s x : Operand) (t : TypeId) (ho : o.op = .call { callee := .builtin .append, args := #[s, x], argTypes := #[t, t] })
    (v u : Value) (hs : a.eval s = v) (hx : a.eval x = u) {P : Value → World → Prop} (hr : ∃ v' w', (Builtin.append_ #[t, t] o.type #[v, u]).run Tryz.prog w = .ok v' w' ∧ P v' w')
    (hK : ∀ v' w', Hid (P v' w') → K (a.put o.dst v') w') : if Region.wanted o (yielded ops a.tmps) = true then Oper.wp Tryz.prog o a w K Q else E := by
  rw [if_pos hw]
  obtain ⟨v', w', hr, r1⟩ := hr
  unfold Oper.wp
  simp [execOp, ho, resolve, invoke, builtin, hs, hx, hr, Result.andThen]
  exact hK v' w' (Lib.hid r1)
/-! ### Rows of numbers, of whether places are taken -/
def layN : Lay Nat := ⟨0, fun o j => o + j, fun w b o x => w.cell? ⟨b, o, none⟩ = some (.int .i64 (x : Int)), fun {w w' b o x} hb h h0 => (h.cell (p := ⟨b, o, none⟩) hb).trans h0⟩
def wdN : Wd Nat where
  L := layN
  enc x := [.int .i64 (x : Int)]
  c := 1
  cpos := by decide
  pos o j := by show o + j = _; omega
  len _ := rfl
  one x u hu := by rw [List.mem_singleton] at hu; subst hu; rfl
  lies h := h 0 _ rfl
  cells h := fun i u hu => by
    cases i with
    | zero => injection hu with hu; subst hu; exact h
    | succ i => simp at hu
theorem wtN : Wt wdN 75 3 (.int .i64 0) 8 := ⟨Tryz.underlying75, by kernel_rfl, by kernel_rfl, by kernel_rfl, by decide⟩
/-- Which places are taken, as cells. -/
def U (n : Nat) (ps : List Nat) : List Value := (List.range n).map fun k => Value.bool (decide (k ∈ ps))
theorem u_len (n : Nat) (ps : List Nat) : (U n ps).length = n := by unfold U; rw [List.length_map, List.length_range]
theorem u_at {n k : Nat} (ps : List Nat) (h : k < n) : (U n ps)[k]? = some (.bool (decide (k ∈ ps))) := by unfold U; rw [List.getElem?_map, List.getElem?_range h]; rfl
theorem u_set {n k : Nat} (ps : List Nat) (h : k < n) : (U n ps).set k (.bool true) = U n (ps ++ [k]) := by
  refine List.ext_getElem? fun j => ?_
  by_cases hj : j < n
  · rw [List.getElem?_set, u_len, u_at _ hj, u_at _ hj]
    by_cases e : k = j
    · subst e
      rw [if_pos rfl, if_pos h, decide_eq_true (List.mem_append_right _ (List.mem_singleton.2 rfl))]
    · rw [if_neg e]
      have : decide (j ∈ ps ++ [k]) = decide (j ∈ ps) := decide_eq_decide.2 (by rw [List.mem_append, List.mem_singleton]; exact ⟨fun h => h.resolve_right (fun e' => e e'.symm), .inl⟩)
      rw [this]
  · rw [List.getElem?_eq_none (by rw [List.length_set, u_len]; omega), List.getElem?_eq_none (by rw [u_len]; omega)]
/-- The row of what is taken. -/
abbrev OwnB (w : World) (base ub n : Nat) (ps : List Nat) : Prop := w.ownsRow base 4 1 (.slice (some ⟨ub, 0, none⟩) n n) n (U n ps)
theorem two_rows {w : World} {base base' s s' n m : Nat} {u v : Value} {e e' : TypeId} {xs ys : List Value} (he : e ≠ e') (h : w.ownsRow base e s u n xs) (k : w.ownsRow base' e' s' v m ys) : u.ownBlock = none ∨ u.ownBlock ≠ v.ownBlock := by
  rcases h.2 with ⟨rfl, -⟩ | ⟨g, cap, cur, rfl, -, hg, -⟩
  · exact .inl rfl
  · rcases k.2 with ⟨rfl, -⟩ | ⟨g', cap', cur', rfl, -, hg', -⟩
    · exact .inr (by intro e; cases e)
    · refine .inr fun e => ?_
      injection e with e
      subst e
      rw [hg] at hg'
      injection hg' with e
      injection e with e1 e2
      exact he e2
theorem ob_cell {w : World} {base ub n k : Nat} {ps : List Nat} (h : OwnB w base ub n ps) (hk : k < n) : w.cell? ⟨ub, k, none⟩ = some (.bool (decide (k ∈ ps))) := by
  have := World.ownsRow.cells h (g := ub) rfl k _ (u_at ps hk)
  rw [Bat.add_lit] at this
  exact this
theorem ob_free {w : World} {base ub n k : Nat} {ps : List Nat} (h : OwnB w base ub n ps) : w.frozen? ⟨ub, k, none⟩ = false := by
  rcases h.2 with ⟨e, -⟩ | ⟨g, cap, cur, e, -, hg, -⟩
  · cases e
  · injection e with e1 e2 e3
    injection e1 with e1
    injection e1 with e1 e4
    subst e1
    exact free_row hg
end Go.Proofs.YtomidcbpnaajeaaGreat.Cps
