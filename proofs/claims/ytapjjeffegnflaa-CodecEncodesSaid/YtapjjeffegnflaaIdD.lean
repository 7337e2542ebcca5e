/- What the document's Put and Sorted give (layer 3, ident): the list with one more id in its place; the list in order, each id once. Conditions: the list lies in memory as its cells say, and is not longer than 100000. -/
import Derived.Test.YtapjjeffegnflaaIdP
import Derived.WalkSmall
namespace Go.Proofs.Ytapjjeffegnflaa.Ids
open Go.RowKit
set_option linter.unusedVariables false

/-! ### Rows of the call's own -/
def flat (zs : List Idn) : List Value := zs.flatMap ids
theorem flat_len : ∀ zs : List Idn, (flat zs).length = zs.length * 2
  | [] => rfl
  | x :: t => by
    have := flat_len t
    unfold flat at *
    rw [List.flatMap_cons, List.length_append, this, List.length_cons]
    show 2 + _ = _
    omega
theorem flat_app (a b : List Idn) : flat (a ++ b) = flat a ++ flat b := by unfold flat; rw [List.flatMap_append]
theorem flat_at : ∀ (zs : List Idn) (j : Nat), j < zs.length → (flat zs)[j * 2]? = some (.int .i64 (nth zs j).1) ∧ (flat zs)[j * 2 + 1]? = some (.int .i64 (nth zs j).2)
  | x :: t, 0, _ => ⟨rfl, rfl⟩
  | x :: t, j + 1, h => by
    have ih := flat_at t j (by simpa using h)
    have e : flat (x :: t) = .int .i64 x.1 :: .int .i64 x.2 :: flat t := rfl
    rw [e, nth_cons_succ, show (j + 1) * 2 = j * 2 + 2 by omega, show j * 2 + 2 + 1 = j * 2 + 1 + 2 by omega]
    exact ih
abbrev Owns (w : World) (base : Nat) (v : Value) (zs : List Idn) : Prop := w.ownsRow base 23 2 v zs.length (flat zs)
theorem add_lit (g j : Nat) : ((⟨g, 0, none⟩ : Addr).add j) = ⟨g, j, none⟩ := by unfold Addr.add; split <;> simp_all
theorem Owns.row {w : World} {base : Nat} {v : Value} {zs : List Idn} (h : Owns w base v zs) : RowAt w v zs := by
  have hc := fun g hg => World.ownsRow.cells h (g := g) hg
  have hlt := World.ownsRow.lt h
  rcases h.2 with ⟨rfl, h0⟩ | ⟨g, cap, cur, rfl, hb, hg, hn, hm, -, -⟩
  · have e : zs = [] := List.eq_nil_of_length_eq_zero h0
    subst e
    exact ⟨none, 0, rfl, Nat.le_refl _, by omega, fun _ => rfl, fun h => absurd rfl h⟩
  · refine ⟨some ⟨g, 0, none⟩, cap, rfl, hn, by unfold maxLen at hm; omega, (fun h => by cases h), fun _ => ⟨g, 0, rfl, (hlt g rfl).2, fun j hj => ?_⟩⟩
    have h1 := flat_at zs j hj
    have e1 := hc g rfl _ _ h1.1
    have e2 := hc g rfl _ _ h1.2
    rw [add_lit] at e1 e2
    rw [Nat.zero_add]
    exact ⟨e1, e2⟩
theorem Owns.snoc {w : World} {base : Nat} {v : Value} {zs : List Idn} {x y : Int} (h : w.ownsRow base 23 2 v (zs.length + 1) (flat zs ++ [.int .i64 x, .int .i64 y])) : Owns w base v (zs ++ [(x, y)]) := by
  have e : flat zs ++ [.int .i64 x, .int .i64 y] = flat (zs ++ [(x, y)]) := by rw [flat_app]; rfl
  unfold Owns
  rw [← e, List.length_append]; exact h

/-- What lies under the box of a call, and the box. -/
theorem Boxed.of {w wr : World} {a b : Int} (h : Below (w.heap.size + 1) (w.alloc (cells a b)) wr) : Boxed w a b wr := by
  have h0 := Boxed.start w a b
  refine h0.on (h.mono ?_)
  simp
theorem put_far {w wr w1 : World} {a b : Int} {v : Value} {zs : List Idn} (h : Below (w.heap.size + 1) (w.alloc (cells a b)) wr) (hown : Owns wr (w.heap.size + 1) v zs) (o : Obj) (hg : (wr.alloc o).grownBy w1 v.ownBlock) : Below (w.heap.size + 1) (w.alloc (cells a b)) w1 := by
  have hs : w.heap.size + 1 ≤ wr.heap.size := by have := h.size; simpa using this
  exact Below.grown (h.alloc hs _) hg (by simp; omega) (fun k hk => (World.ownsRow.lt hown k hk).1)

theorem info_id : (Try.prog.info? 23).map (fun i => (i.zero, i.size, i.bytes)) = some (some (.agg #[.int .i64 0, .int .i64 0]), 2, 16) := by kernel_rfl
/-- The invariant of Put's loop. -/
def PutAt (x : Idn) (zs out : List Idn) (k : Nat) (d : Bool) : Prop := ins x zs = out ++ (if d then zs.drop k else ins x (zs.drop k)) ∧ out.length = k + d.toNat
theorem PutAt.start (x : Idn) (zs : List Idn) : PutAt x zs [] 0 false := ⟨rfl, rfl⟩
theorem drop_nth {zs : List Idn} {k : Nat} (h : k < zs.length) : zs.drop k = nth zs k :: zs.drop (k + 1) := by
  unfold nth
  rw [List.drop_eq_getElem_cons h, List.getD_eq_getElem?_getD, List.getElem?_eq_getElem h]; rfl
theorem PutAt.past {x : Idn} {zs out : List Idn} {k : Nat} (h : PutAt x zs out k true) (hk : k < zs.length) : PutAt x zs (out ++ [nth zs k]) (k + 1) true := by
  refine ⟨?_, by rw [List.length_append, h.2]; show k + 1 + 1 = k + 1 + 1; rfl⟩
  rw [h.1, if_pos rfl, if_pos rfl, drop_nth hk]; simp
theorem PutAt.go {x : Idn} {zs out : List Idn} {k : Nat} (h : PutAt x zs out k false) (hk : k < zs.length) (hx : idLt x (nth zs k) = false) : PutAt x zs (out ++ [nth zs k]) (k + 1) false := by
  refine ⟨?_, by rw [List.length_append, h.2]; simp⟩
  rw [h.1, drop_nth hk]
  simp [ins, hx]
theorem PutAt.hit {x : Idn} {zs out : List Idn} {k : Nat} (h : PutAt x zs out k false) (hk : k < zs.length) (hx : idLt x (nth zs k) = true) : PutAt x zs (out ++ [x] ++ [nth zs k]) (k + 1) true := by
  refine ⟨?_, by rw [List.length_append, List.length_append, h.2]; simp⟩
  rw [h.1, drop_nth hk]
  simp [ins, hx]
theorem PutAt.endT {x : Idn} {zs out : List Idn} (h : PutAt x zs out zs.length true) : ins x zs = out := by
  have := h.1
  simpa using this
theorem PutAt.endF {x : Idn} {zs out : List Idn} (h : PutAt x zs out zs.length false) : ins x zs = out ++ [x] := by
  have := h.1
  simpa [ins] using this

/-- A row in new memory. -/
def GivesNew (zs : List Idn) (w : World) (e : Ending) (w' : World) : Prop := ∃ v, e = .returned v ∧ RowAt w' v zs ∧ Below w.heap.size w w' ∧ ∀ k, v.ownBlock = some k → w.heap.size ≤ k
def GivesRow (zs : List Idn) (w : World) (e : Ending) (w' : World) : Prop := ∃ v, e = .returned v ∧ RowAt w' v zs ∧ Below w.heap.size w w'


/-! ### The document's Sorted -/
end Go.Proofs.Ytapjjeffegnflaa.Ids
