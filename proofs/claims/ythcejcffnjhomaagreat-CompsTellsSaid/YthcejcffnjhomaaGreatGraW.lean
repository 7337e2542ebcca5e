/- The small play of layer 15's statement: it returns true, whatever way graphs are kept (under Graphs). No condition. -/
import Derived.Test.YthcejcffnjhomaaGreatGraG
import Derived.Test.YthcejcffnjhomaaGreatRecD
namespace Go.Proofs.YthcejcffnjhomaaGreat.Gra
open Go.RowKit Cmd Bat Ids Rec Wid
set_option linter.unusedVariables false
set_option linter.unusedSimpArgs false

def wrs : List Rcd := [((1, 1), 1, [(0, 1)], [])]
theorem wrs_err : gErr wrs = 0 := by decide
theorem wrs_miss : gMiss wrs = [(0, 1)] := by decide
theorem wrs_deps : (depsG wrs).length = 1 := by decide
theorem wrs_has : decide (((1, 1) : Idn) ∈ idsG wrs) = true := by decide
theorem wrs_hasno : decide (((0, 1) : Idn) ∈ idsG wrs) = false := by decide
theorem wrs_lot : Lot wrs := by
  refine ⟨fun x hx => ?_, by decide, fun x hx => ?_⟩
  · unfold wrs at hx
    rw [List.mem_singleton] at hx
    subst hx
    refine ⟨⟨by decide, by decide⟩, fun d hd => ?_, fun c hc => by cases hc⟩
    have hd : d ∈ [((0, 1) : Idn)] := hd
    rw [List.mem_singleton] at hd
    subst hd; exact ⟨by decide, by decide⟩
  · unfold wrs at hx
    rw [List.mem_singleton] at hx
    subst hx
    exact ⟨by decide, by decide⟩
theorem one_id {W : World} {g : Nat} {x y : Int} (h : W.heap[g]? = some (.cells #[.int .i64 x, .int .i64 y] 41 (0, 0))) : RowAt W (.slice (some ⟨g, 0, none⟩) 1 1) [(x, y)] := by
  refine ⟨_, 1, rfl, Nat.le_refl _, by omega, (fun e => by cases e), fun _ => ⟨g, 0, rfl, (Array.getElem?_eq_some_iff.1 h).1, fun j hj => ?_⟩⟩
  obtain rfl : j = 0 := by simpa using hj
  exact ⟨cell_row h rfl, cell_row h rfl⟩
theorem one_rec {W : World} {g : Nat} {a b q : Int} {v u : Value} {ds : List Idn} {cs : List Cmdn} (h : W.heap[g]? = some (.cells #[.int .i64 a, .int .i64 b, .int .i64 q, v, u] 48 (0, 0))) (hd : RowAt W v ds) (hc : layC.Row W u cs) : layG.Row W (.slice (some ⟨g, 0, none⟩) 1 1) [((a, b), q, ds, cs)] := by
  refine ⟨_, 1, rfl, Nat.le_refl _, by omega, fun _ => ⟨g, 0, rfl, (Array.getElem?_eq_some_iff.1 h).1, fun j hj => ?_⟩⟩
  obtain rfl : j = 0 := by simpa using hj
  exact ⟨cell_row h rfl, cell_row h rfl, cell_row h rfl, ⟨v, cell_row h rfl, hd⟩, u, cell_row h rfl, hc⟩
theorem no_cmds (W : World) : layC.Row W (.slice none 0 0) [] := ⟨none, 0, rfl, Nat.le_refl _, by omega, fun h => absurd rfl h⟩
end Go.Proofs.YthcejcffnjhomaaGreat.Gra
