/- What a graph's calls must give (layer 15, edges), said of any way to keep one: under it the statements' walks go. No condition but those in each statement. -/
import Derived.Test.YtjokejcokgeeiaaGreatGraA
import Derived.Test.YtjokejcokgeeiaaGreatRecD
namespace Go.Proofs.YtjokejcokgeeiaaGreat.Gra
open Go.RowKit Cmd Bat Ids Rec Wid
set_option linter.unusedVariables false
set_option linter.unusedSimpArgs false

abbrev gptr (g : Nat) : Value := .pointer (some ⟨g, 0, none⟩)
abbrev zeroRec : Value := .agg #[.int .i64 0, .int .i64 0, .int .i64 0, .slice none 0 0, .slice none 0 0]
/-- Records that a graph may be made of. -/
structure Lot (rs : List Rcd) : Prop where
  wf : ∀ x ∈ rs, wfG x
  few : rs.length ≤ 1000
  low : ∀ r ∈ rs, r.2.2.1.length ≤ 1000 ∧ r.2.2.2.length ≤ 1000
/-- A graph is made, or what is wrong is told. -/
def GivesG (G : Nat → Nat → List Rcd → World → Prop) (rs : List Rcd) (w : World) (E : Ending) (w' : World) : Prop :=
  Below w.heap.size w w' ∧ ((gErr rs = 0 ∧ ∃ g, E = .returned (.tuple #[gptr g, .int .i64 0]) ∧ G w'.heap.size g rs w') ∨ (gErr rs ≠ 0 ∧ E = .returned (.tuple #[.pointer none, .int .i64 (gErr rs)])))
/-- A record of a graph: its lists are new, its Deps a row of the call's own. -/
def GivesRd (x : Rcd) (w : World) (E : Ending) (w' : World) : Prop :=
  ∃ v u, E = .returned (.tuple #[.agg #[.int .i64 x.1.1, .int .i64 x.1.2, .int .i64 x.2.1, v, u], .bool true]) ∧ Owns w' w.heap.size v x.2.2.1 ∧ layC.Row w' u x.2.2.2 ∧ Below w.heap.size w w'
/-- What the calls of layer 15 give: G N g rs W: at g there is a graph of the records rs; it lies below N. -/
structure Graphs (G : Nat → Nat → List Rcd → World → Prop) : Prop where
  on : ∀ {N g : Nat} {rs : List Rcd} {W W' : World}, G N g rs W → Below N W W' → G N g rs W'
  le : ∀ {N g : Nat} {rs : List Rcd} {W : World}, G N g rs W → N ≤ W.heap.size
  lot : ∀ {N g : Nat} {rs : List Rcd} {W : World}, G N g rs W → Lot rs ∧ gErr rs = 0
  new : ∀ (v : Value) (rs : List Rcd) (w : World), layG.Row w v rs → Lot rs → Calls Tryz.prog 8 #[v] w (GivesG G rs w)
  len : ∀ {N g : Nat} {rs : List Rcd} {W : World}, G N g rs W → Calls Tryz.prog 171 #[gptr g] W (RetBelow (.int .i64 rs.length) W)
  ids : ∀ {N g : Nat} {rs : List Rcd} {W : World}, G N g rs W → Calls Tryz.prog 78 #[gptr g] W (GivesRow (gIds rs) W)
  recY : ∀ {N g : Nat} {rs : List Rcd} {W : World}, G N g rs W → ∀ a b : Int, wfId (a, b) → ∀ x ∈ rs, x.1 = (a, b) → Calls Tryz.prog 62 #[gptr g, .agg #[.int .i64 a, .int .i64 b]] W (GivesRd x W)
  recN : ∀ {N g : Nat} {rs : List Rcd} {W : World}, G N g rs W → ∀ a b : Int, wfId (a, b) → (a, b) ∉ idsG rs → Calls Tryz.prog 62 #[gptr g, .agg #[.int .i64 a, .int .i64 b]] W (RetBelow (.tuple #[zeroRec, .bool false]) W)
  miss : ∀ {N g : Nat} {rs : List Rcd} {W : World}, G N g rs W → Calls Tryz.prog 80 #[gptr g] W (GivesRow (gMiss rs) W)
  users : ∀ {N g : Nat} {rs : List Rcd} {W : World}, G N g rs W → ∀ a b : Int, wfId (a, b) → Calls Tryz.prog 49 #[gptr g, .agg #[.int .i64 a, .int .i64 b]] W (GivesRow (gUsers rs (a, b)) W)
  usersO : ∀ {N g : Nat} {rs : List Rcd} {W : World}, G N g rs W → ∀ a b : Int, wfId (a, b) → Calls Tryz.prog 49 #[gptr g, .agg #[.int .i64 a, .int .i64 b]] W (GivesOwned (gUsers rs (a, b)) W)
  nlen : ∀ W : World, Calls Tryz.prog 171 #[.pointer none] W (RetBelow (.int .i64 0) W)
  nids : ∀ W : World, Calls Tryz.prog 78 #[.pointer none] W (GivesRow [] W)
  nrec : ∀ (W : World) (a b : Int), Calls Tryz.prog 62 #[.pointer none, .agg #[.int .i64 a, .int .i64 b]] W (RetBelow (.tuple #[zeroRec, .bool false]) W)
  nmiss : ∀ W : World, Calls Tryz.prog 80 #[.pointer none] W (GivesRow [] W)
  nusers : ∀ (W : World) (a b : Int), Calls Tryz.prog 49 #[.pointer none, .agg #[.int .i64 a, .int .i64 b]] W (GivesRow [] W)
  nusersO : ∀ (W : World) (a b : Int), Calls Tryz.prog 49 #[.pointer none, .agg #[.int .i64 a, .int .i64 b]] W (GivesOwned [] W)
end Go.Proofs.YtjokejcokgeeiaaGreat.Gra

/- The small play of layer 15's statement: it returns true, whatever way graphs are kept (under Graphs). No condition. -/
namespace Go.Proofs.YtjokejcokgeeiaaGreat.Gra
open Go.RowKit Cmd Bat Ids Rec Wid
set_option linter.unusedVariables false
set_option linter.unusedSimpArgs false

theorem one_id {W : World} {g : Nat} {x y : Int} (h : W.heap[g]? = some (.cells #[.int .i64 x, .int .i64 y] 43 (0, 0))) : RowAt W (.slice (some ⟨g, 0, none⟩) 1 1) [(x, y)] := by
  refine ⟨_, 1, rfl, Nat.le_refl _, by omega, (fun e => by cases e), fun _ => ⟨g, 0, rfl, (Array.getElem?_eq_some_iff.1 h).1, fun j hj => ?_⟩⟩
  obtain rfl : j = 0 := by simpa using hj
  exact ⟨cell_row h rfl, cell_row h rfl⟩
theorem no_cmds (W : World) : layC.Row W (.slice none 0 0) [] := ⟨none, 0, rfl, Nat.le_refl _, by omega, fun h => absurd rfl h⟩
end Go.Proofs.YtjokejcokgeeiaaGreat.Gra
