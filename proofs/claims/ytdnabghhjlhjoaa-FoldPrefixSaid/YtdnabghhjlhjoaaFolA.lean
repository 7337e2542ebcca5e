/- What just some commands make of a key, plain; of all writers it is the key's cell (layer 14, fold). Conditions: those in each statement. -/
import Derived.Test.YtdnabghhjlhjoaaVauC
import Derived.Test.YtdnabghhjlhjoaaBatC
namespace Go.Proofs.Ytdnabghhjlhjoaa.Fol
open Go.RowKit F64 Cmd Bat Cel Wid Vau
set_option linter.unusedVariables false

/-! ### Plain -/
/-- Those that may be. -/
def okOf (xs : List Itm) : List Itm := xs.filter fun x => decide (bErr x.2 = 0)
theorem okOf_nil : okOf [] = [] := rfl
theorem okOf_snoc_ok {xs : List Itm} {x : Itm} (h : bErr x.2 = 0) : okOf (xs ++ [x]) = okOf xs ++ [x] := by
  unfold okOf; rw [List.filter_append]; simp [h]
theorem okOf_snoc_no {xs : List Itm} {x : Itm} (h : bErr x.2 ≠ 0) : okOf (xs ++ [x]) = okOf xs := by
  unfold okOf; rw [List.filter_append]; simp [h]
theorem okOf_len (xs : List Itm) : (okOf xs).length ≤ xs.length := List.length_filter_le _ _
theorem okOf_mem {xs : List Itm} {x : Itm} (h : x ∈ okOf xs) : x ∈ xs ∧ bErr x.2 = 0 := ⟨(List.mem_filter.1 h).1, of_decide_eq_true (List.mem_filter.1 h).2⟩
theorem berr_parts {cs : List Cmdn} (h : bErr cs = 0) : cs.length ≤ 8 ∧ ∀ x ∈ cs, right x = true := by
  unfold bErr at h
  split at h
  · omega
  · split at h
    · omega
    · rename_i h1 h2
      refine ⟨by omega, fun x hx => ?_⟩
      cases hr : right x with
      | true => rfl
      | false => exact absurd (List.any_eq_true.2 ⟨x, hx, by rw [hr]; rfl⟩) h2
theorem okOf_cmds (xs : List Itm) : (cmdsOf (okOf xs)).length ≤ xs.length * 8 := by
  have h1 := cmdsOf_len (m := 8) (xs := okOf xs) fun x hx => (berr_parts (okOf_mem hx).2).1
  have h2 := okOf_len xs
  have h3 : (okOf xs).length * 8 ≤ xs.length * 8 := Nat.mul_le_mul_right 8 h2
  omega
/-- A command of just some is done. -/
def stepO (s : List UInt8) (ws : List Wr) (id : Int × Int) (k : Nat) (c : Cell2) (x : Cmdn) : Cell2 := if decide ((id, (k : Int)) ∈ ws) = true ∧ x.2.1 = s then (doC c x.1 x.2.1 x.2.2).1 else c
def onlyB (s : List UInt8) (ws : List Wr) (id : Int × Int) : Nat → Cell2 → List Cmdn → Cell2
  | _, c, [] => c
  | k, c, x :: cs => onlyB s ws id (k + 1) (stepO s ws id k c x) cs
def onlyL (s : List UInt8) (ws : List Wr) (c : Cell2) (xs : List Itm) : Cell2 := xs.foldl (fun c x => onlyB s ws x.1 0 c x.2) c
/-- What just some commands make of a key. -/
def onlyOf (xs : List Itm) (s : List UInt8) (ws : List Wr) : Cell2 := onlyL s ws (false, 0) xs
theorem onlyB_snoc (s : List UInt8) (ws : List Wr) (id : Int × Int) : ∀ (cs : List Cmdn) (k : Nat) (c : Cell2) (x : Cmdn), onlyB s ws id k c (cs ++ [x]) = stepO s ws id (k + cs.length) (onlyB s ws id k c cs) x
  | [], k, c, x => rfl
  | y :: cs, k, c, x => by
    show onlyB s ws id (k + 1) (stepO s ws id k c y) (cs ++ [x]) = stepO s ws id (k + (cs.length + 1)) (onlyB s ws id (k + 1) (stepO s ws id k c y) cs) x
    rw [onlyB_snoc s ws id cs (k + 1) _ x, show k + 1 + cs.length = k + (cs.length + 1) by omega]
theorem onlyB_step {s : List UInt8} {ws : List Wr} {id : Int × Int} {c : Cell2} {cs : List Cmdn} {k : Nat} (h : k < cs.length) : onlyB s ws id 0 c (cs.take (k + 1)) = stepO s ws id k (onlyB s ws id 0 c (cs.take k)) (layC.at cs k) := by
  rw [layC.take h, onlyB_snoc, List.length_take, Nat.min_eq_left (by omega), Nat.zero_add]
theorem onlyL_snoc (s : List UInt8) (ws : List Wr) (c : Cell2) (xs : List Itm) (x : Itm) : onlyL s ws c (xs ++ [x]) = onlyB s ws x.1 0 (onlyL s ws c xs) x.2 := by unfold onlyL; rw [List.foldl_append]; rfl
theorem onlyOf_snoc (s : List UInt8) (ws : List Wr) (xs : List Itm) (x : Itm) : onlyOf (xs ++ [x]) s ws = onlyB s ws x.1 0 (onlyOf xs s ws) x.2 := onlyL_snoc s ws _ xs x
theorem pl_do (c : Cell2) (k : Int) (s : List UInt8) (x : Nat) : Pl (doC c k s x).1 := by
  have h := fz_pl c
  unfold doC
  split
  · exact h
  · split
    · intro e; cases e
    · split
      · intro _; rfl
      · split
        · intro e; cases e
        · exact h
theorem do_get {c : Cell2} (hp : Pl c) (s : List UInt8) (x : Nat) : (doC c 1 s x).1 = c := by
  have hz : fz c = c := by
    unfold fz
    cases hc : c.1 with
    | true => rfl
    | false => rw [if_neg (by decide)]; exact Prod.ext hc.symm (hp hc).symm
  unfold doC
  split
  · exact hz
  · rw [if_neg (by decide), if_neg (by decide), if_neg (by decide)]; exact hz
theorem onlyB_all {s : List UInt8} {ws : List Wr} {id : Int × Int} : ∀ (cs : List Cmdn) (k : Nat) (c : Cell2), Pl c → (∀ x ∈ cs, right x = true) → (∀ e ∈ logB s id k cs, e ∈ ws) → onlyB s ws id k c cs = cellB s c cs ∧ Pl (cellB s c cs)
  | [], _, _, hp, _, _ => ⟨rfl, hp⟩
  | x :: cs, k, c, hp, hr, hw => by
    have key : stepO s ws id k c x = stepK s c x ∧ Pl (stepK s c x) := by
      unfold stepO stepK
      by_cases hs : x.2.1 = s
      · rw [if_pos hs]
        refine ⟨?_, pl_do _ _ _ _⟩
        by_cases hm : (id, (k : Int)) ∈ ws
        · rw [if_pos ⟨decide_eq_true hm, hs⟩]
        · rw [if_neg (fun h => hm (of_decide_eq_true h.1))]
          have h1 : x.1 = 1 := by
            refine Classical.byContradiction fun hn => hm (hw _ ?_)
            show _ ∈ (if wrote s x then [(id, (k : Int))] else []) ++ _
            have ht : wrote s x = true := by
              unfold wrote
              rw [decide_eq_true hs, hr _ List.mem_cons_self, decide_eq_true hn]; rfl
            rw [if_pos ht]; exact List.mem_append_left _ (List.mem_singleton.2 rfl)
          obtain ⟨a, b, d⟩ := x
          simp only [] at h1
          subst h1
          exact (do_get hp _ _).symm
      · rw [if_neg hs, if_neg (fun h => hs h.2)]
        exact ⟨rfl, hp⟩
    show onlyB s ws id (k + 1) (stepO s ws id k c x) cs = cellB s (stepK s c x) cs ∧ Pl (cellB s (stepK s c x) cs)
    rw [key.1]
    exact onlyB_all cs (k + 1) _ key.2 (fun y hy => hr y (List.mem_cons_of_mem _ hy)) (fun e he => hw e (by
      show e ∈ (if wrote s x then [(id, (k : Int))] else []) ++ logB s id (k + 1) cs
      exact List.mem_append_right _ he))
theorem onlyL_all {s : List UInt8} {ws : List Wr} : ∀ (xs : List Itm) (c : Cell2), Pl c → (∀ x ∈ xs, bErr x.2 = 0) → (∀ e ∈ logOf xs s, e ∈ ws) → onlyL s ws c xs = cellL s c xs
  | [], _, _, _, _ => rfl
  | x :: xs, c, hp, hr, hw => by
    have h1 := onlyB_all (s := s) (ws := ws) (id := x.1) x.2 0 c hp (berr_parts (hr x List.mem_cons_self)).2 (fun e he => hw e (by
      show e ∈ logB s x.1 0 x.2 ++ logOf xs s
      exact List.mem_append_left _ he))
    show onlyL s ws (onlyB s ws x.1 0 c x.2) xs = cellL s (cellB s c x.2) xs
    rw [h1.1]
    exact onlyL_all xs _ h1.2 (fun y hy => hr y (List.mem_cons_of_mem _ hy)) (fun e he => hw e (by
      show e ∈ logB s x.1 0 x.2 ++ logOf xs s
      exact List.mem_append_right _ he))
/-- P14.4. -/
theorem only_all (xs : List Itm) (s : List UInt8) : onlyOf (okOf xs) s (logOf (okOf xs) s) = cellOf (okOf xs) s :=
  onlyL_all _ _ (fun _ => rfl) (fun x hx => (okOf_mem hx).2) (fun e he => he)
/-- Are a's the first ones of b? -/
def firstOf (xs ys : List Wr) : Bool := decide (xs.length ≤ ys.length) && decide (xs = ys.take (min xs.length ys.length))
theorem firstOf_long {xs ys : List Wr} (h : ys.length < xs.length) : firstOf xs ys = false := by unfold firstOf; rw [decide_eq_false (by omega)]; rfl
theorem at_take {xs : List Wr} {n j : Nat} (hj : j < n) (hn : n ≤ xs.length) : layW.at (xs.take n) j = layW.at xs j := by
  rw [layW.at_get (by rw [List.length_take]; omega), layW.at_get (by omega)]; simp
theorem firstOf_yes {xs ys : List Wr} (h : xs.length ≤ ys.length) (e : ∀ j, j < xs.length → layW.at xs j = layW.at ys j) : firstOf xs ys = true := by
  unfold firstOf
  rw [decide_eq_true h, Nat.min_eq_left h, Bool.true_and]
  refine decide_eq_true (layW.ext (by rw [List.length_take]; omega) fun j hj => ?_)
  rw [at_take hj h]; exact e j hj
theorem firstOf_no {xs ys : List Wr} {j : Nat} (h : xs.length ≤ ys.length) (hj : j < xs.length) (e : layW.at xs j ≠ layW.at ys j) : firstOf xs ys = false := by
  unfold firstOf
  rw [decide_eq_true h, Nat.min_eq_left h, Bool.true_and]
  refine decide_eq_false fun he => e ?_
  have h2 : layW.at (ys.take xs.length) j = layW.at ys j := at_take hj h
  rw [← he] at h2; exact h2
/-- Whether one is among the first ones. -/
theorem mem_take_succ {ws : List Wr} {n : Nat} (hn : n < ws.length) (y : Wr) : (decide (y ∈ ws.take (n + 1))) = (decide (y ∈ ws.take n) || decide (layW.at ws n = y)) := by
  rw [layW.take hn, Bool.eq_iff_iff, Bool.or_eq_true, decide_eq_true_eq, decide_eq_true_eq, decide_eq_true_eq, List.mem_append, List.mem_singleton]
  exact or_congr Iff.rfl eq_comm
end Go.Proofs.Ytdnabghhjlhjoaa.Fol
