/- What a graph's calls must give (layer 15, edges), said of any way to keep one: under it the statements' walks go. No condition but those in each statement. -/
import Derived.Test.YtomidcbpnaajeaaGreatGraA
import Derived.Test.YtomidcbpnaajeaaGreatRecD
namespace Go.Proofs.YtomidcbpnaajeaaGreat.Gra
open Go.RowKit Cmd Bat Ids Rec Wid
set_option linter.unusedVariables false
set_option linter.unusedSimpArgs false

abbrev gptr (g : Nat) : Value := .pointer (some ⟨g, 0, none⟩)
abbrev zeroRec : Value := .agg #[.int .i64 0, .int .i64 0, .int .i64 0, .slice none 0 0, .slice none 0 0]
/-- Records that a graph may be made of. -/
structure Lot (rs : List Rcd) : Prop where
  wf : ∀ x ∈ rs, wfG x
  few : rs.length ≤ 1000
  low : ∀ r ∈ rs, r.2.2.1.length ≤ 1000 ∧ r.2.2.2.length ≤ 1000
/-- A graph is made, or what is wrong is told. -/
def GivesG (G : Nat → Nat → List Rcd → World → Prop) (rs : List Rcd) (w : World) (E : Ending) (w' : World) : Prop :=
  Below w.heap.size w w' ∧ ((gErr rs = 0 ∧ ∃ g, E = .returned (.tuple #[gptr g, .int .i64 0]) ∧ G w'.heap.size g rs w') ∨ (gErr rs ≠ 0 ∧ E = .returned (.tuple #[.pointer none, .int .i64 (gErr rs)])))
/-- A record of a graph: its lists are new, its Deps a row of the call's own. -/
def GivesRd (x : Rcd) (w : World) (E : Ending) (w' : World) : Prop :=
  ∃ v u, E = .returned (.tuple #[.agg #[.int .i64 x.1.1, .int .i64 x.1.2, .int .i64 x.2.1, v, u], .bool true]) ∧ Owns w' w.heap.size v x.2.2.1 ∧ layC.Row w' u x.2.2.2 ∧ Below w.heap.size w w'
/-- What the calls of layer 15 give: G N g rs W: at g there is a graph of the records rs; it lies below N. -/
structure Graphs (G : Nat → Nat → List Rcd → World → Prop) : Prop where
  on : ∀ {N g : Nat} {rs : List Rcd} {W W' : World}, G N g rs W → Below N W W' → G N g rs W'
  le : ∀ {N g : Nat} {rs : List Rcd} {W : World}, G N g rs W → N ≤ W.heap.size
  lot : ∀ {N g : Nat} {rs : List Rcd} {W : World}, G N g rs W → Lot rs ∧ gErr rs = 0
  new : ∀ (v : Value) (rs : List Rcd) (w : World), layG.Row w v rs → Lot rs → Calls Tryz.prog 8 #[v] w (GivesG G rs w)
  ids : ∀ {N g : Nat} {rs : List Rcd} {W : World}, G N g rs W → Calls Tryz.prog 23 #[gptr g] W (GivesRow (gIds rs) W)
  recY : ∀ {N g : Nat} {rs : List Rcd} {W : World}, G N g rs W → ∀ a b : Int, wfId (a, b) → ∀ x ∈ rs, x.1 = (a, b) → Calls Tryz.prog 24 #[gptr g, .agg #[.int .i64 a, .int .i64 b]] W (GivesRd x W)
  recN : ∀ {N g : Nat} {rs : List Rcd} {W : World}, G N g rs W → ∀ a b : Int, wfId (a, b) → (a, b) ∉ idsG rs → Calls Tryz.prog 24 #[gptr g, .agg #[.int .i64 a, .int .i64 b]] W (RetBelow (.tuple #[zeroRec, .bool false]) W)
  nids : ∀ W : World, Calls Tryz.prog 23 #[.pointer none] W (GivesRow [] W)
  nrec : ∀ (W : World) (a b : Int), Calls Tryz.prog 24 #[.pointer none, .agg #[.int .i64 a, .int .i64 b]] W (RetBelow (.tuple #[zeroRec, .bool false]) W)
end Go.Proofs.YtomidcbpnaajeaaGreat.Gra

/- The small play of layer 15's statement: it returns true, whatever way graphs are kept (under Graphs). No condition. -/
namespace Go.Proofs.YtomidcbpnaajeaaGreat.Gra
open Go.RowKit Cmd Bat Ids Rec Wid
set_option linter.unusedVariables false
set_option linter.unusedSimpArgs false

def wrs : List Rcd := [((1, 1), 1, [(0, 1)], [])]
theorem wrs_err : gErr wrs = 0 := by decide
theorem wrs_miss : gMiss wrs = [(0, 1)] := by decide
theorem wrs_deps : (depsG wrs).length = 1 := by decide
theorem wrs_has : decide (((1, 1) : Idn) ∈ idsG wrs) = true := by decide
theorem wrs_hasno : decide (((0, 1) : Idn) ∈ idsG wrs) = false := by decide
theorem wrs_lot : Lot wrs := by
  refine ⟨fun x hx => ?_, by decide, fun x hx => ?_⟩
  · unfold wrs at hx
    rw [List.mem_singleton] at hx
    subst hx
    refine ⟨⟨by decide, by decide⟩, fun d hd => ?_, fun c hc => by cases hc⟩
    have hd : d ∈ [((0, 1) : Idn)] := hd
    rw [List.mem_singleton] at hd
    subst hd; exact ⟨by decide, by decide⟩
  · unfold wrs at hx
    rw [List.mem_singleton] at hx
    subst hx
    exact ⟨by decide, by decide⟩
theorem one_id {W : World} {g : Nat} {x y : Int} (h : W.heap[g]? = some (.cells #[.int .i64 x, .int .i64 y] 32 (0, 0))) : RowAt W (.slice (some ⟨g, 0, none⟩) 1 1) [(x, y)] := by
  refine ⟨_, 1, rfl, Nat.le_refl _, by omega, (fun e => by cases e), fun _ => ⟨g, 0, rfl, (Array.getElem?_eq_some_iff.1 h).1, fun j hj => ?_⟩⟩
  obtain rfl : j = 0 := by simpa using hj
  exact ⟨cell_row h rfl, cell_row h rfl⟩
theorem one_rec {W : World} {g : Nat} {a b q : Int} {v u : Value} {ds : List Idn} {cs : List Cmdn} (h : W.heap[g]? = some (.cells #[.int .i64 a, .int .i64 b, .int .i64 q, v, u] 42 (0, 0))) (hd : RowAt W v ds) (hc : layC.Row W u cs) : layG.Row W (.slice (some ⟨g, 0, none⟩) 1 1) [((a, b), q, ds, cs)] := by
  refine ⟨_, 1, rfl, Nat.le_refl _, by omega, fun _ => ⟨g, 0, rfl, (Array.getElem?_eq_some_iff.1 h).1, fun j hj => ?_⟩⟩
  obtain rfl : j = 0 := by simpa using hj
  exact ⟨cell_row h rfl, cell_row h rfl, cell_row h rfl, ⟨v, cell_row h rfl, hd⟩, u, cell_row h rfl, hc⟩
theorem no_cmds (W : World) : layC.Row W (.slice none 0 0) [] := ⟨none, 0, rfl, Nat.le_refl _, by omega, fun h => absurd rfl h⟩
end Go.Proofs.YtomidcbpnaajeaaGreat.Gra
