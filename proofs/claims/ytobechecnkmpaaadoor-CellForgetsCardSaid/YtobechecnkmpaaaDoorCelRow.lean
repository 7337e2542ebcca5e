/- What the rows of layer 12's statements list, and that a world fits them; the table that the walks ask for comes out of what is listed; cells and commands as arguments. No condition but those in each statement. -/
import Derived.Test.YtobechecnkmpaaaDoorRows
import Derived.Test.YtobechecnkmpaaaDoorWrapZ
import Derived.Test.YtobechecnkmpaaaDoorStay
import Derived.Test.YtobechecnkmpaaaDoorBatRow
import Derived.Test.YtobechecnkmpaaaDoorCelB
import Derived.Test.YtobechecnkmpaaaDoorEnv
import Derived.Carry
import Derived.Lib.SmallJoins
import Derived.ChangeSame
import Derived.ChangeVars
import Derived.ChangeMaps5
import Derived.JoinedOf
import Derived.JoinedAt
import Derived.RowKit
import Derived.RowKit3
import Derived.Laws.Cover2
import Derived.LaidLaws
import Derived.MakeChecks
import Derived.Stop.LaidErr
import Derived.Lib.LaidTab
import Derived.ProofKit
namespace Go.Proofs.YtobechecnkmpaaaDoor.Cel
open Go.ChangeShapes Go.WideShapes Go.ChangeAt Go.RowKit Cmd Bat

abbrev laidAll : List (String × DataW Unit) := Rows.cellDoesRow.laid
theorem plainly : (laidAll.all fun x => x.2.handleName?.isNone) = true := by kernel_rfl
theorem env_of {W : World} (hL : laidMetH Tryd.prog laidAll W) : Env W := by
  rw [MakeChecks.laidMetH_plain _ _ _ plainly] at hL
  have h2 := hL.tail.tail
  exact ⟨Lib.tabIs_of_head (k := .u64) (zs := Lib.pow10Tab) (t := 77) (e := 53) (n := 20) (g := 1) (by kernel_rfl) (by kernel_rfl) (by kernel_rfl) (by kernel_rfl) (by kernel_rfl) (by kernel_rfl) h2⟩

/-! ### One start that fits -/
def t32 : List Int := [0, 1, 28, 2, 29, 14, 24, 3, 30, 22, 20, 15, 25, 17, 4, 8, 31, 27, 13, 23, 21, 19, 16, 7, 26, 12, 18, 6, 11, 5, 10, 9]
def t64 : List Int := [0, 1, 56, 2, 57, 49, 28, 3, 61, 58, 42, 50, 38, 29, 17, 4, 62, 47, 59, 36, 45, 43, 51, 22, 53, 39, 33, 30, 24, 18, 12, 5, 63, 55, 48, 27, 60, 41, 37, 16, 46, 35, 44, 21, 52, 32, 23, 11, 54, 26, 40, 15, 34, 20, 31, 10, 25, 14, 19, 9, 13, 8, 7, 6]
noncomputable def laidWorld (os : Os) : World :=
  let w0 := World.holding Tryd.prog os ⟨#[], #[], []⟩
  let put (h : Array Obj) (g : Nat) (cs : Array Value) : Array Obj := h.modify g fun
    | .cells _ t frozen => .cells cs t frozen
    | o => o
  { w0 with heap := put (put (put w0.heap 2 (t32.map (Value.int .u8)).toArray) 3 (t64.map (Value.int .u8)).toArray) 1 (Lib.pow10Tab.map (Value.int .u64)).toArray }
set_option maxRecDepth 1000000 in
theorem laidWorld_met (os : Os) (args : Array Value) : laidMetH Tryd.prog laidAll ((laidWorld os).forCall (fun _ _ => 0) ⟨#[], args, []⟩).memory := by
  rw [MakeChecks.laidMetH_plain _ _ _ plainly]
  exact laidMet_of_run' 8 (by kernel_rfl) (by kernel_rfl)

/-! ### Arguments -/
section
variable {H : Type} {enc : TypeId × Value → H} {W : World} {b0 base : Nat} {r : Reach} {spare : Nat → Bool} {held : Bool} {v : Value} {d : DataW H} {p : List MemPlace}
set_option maxRecDepth 100000 in
theorem open_cell (hv : Value.okWide Tryd.prog W r b0 24 v) (h : DataW.Trod enc Tryd.prog W base spare held 24 v d p) : ∃ (f : Bool) (z : Nat), v = .agg #[.bool f, .float .f64 z] ∧ z < 18446744073709551616 := by
  obtain ⟨v0, v1, y0, y1, n, rfl, -, -, t0, t1⟩ := Go.Joins.open_agg2 Tryd.underlying24 (by kernel_rfl) (by kernel_rfl) hv h
  obtain ⟨f, e0, -⟩ := DataW.trod_bool Tryd.underlying4 t0
  obtain ⟨x, e2, -, hx⟩ := trod_float Tryd.underlying22 t1
  simp only [List.cons.injEq, and_true] at e0 e2
  exact ⟨f, x, by rw [e0, e2], by simpa [Lit.wf] using hx⟩
set_option maxRecDepth 100000 in
theorem open_command (hv : Value.okWide Tryd.prog W r b0 26 v) (h : DataW.Trod enc Tryd.prog W base spare held 26 v d p) :
    ∃ (k : Int) (s : List UInt8) (x : Nat), v = .agg #[.int .i64 k, .string (str s), .float .f64 x] ∧ x < 18446744073709551616 ∧ (s.length : Int) ≤ 9223372036854775807 := by
  obtain ⟨v0, v1, v2, y0, y1, y2, n, rfl, -, -, t0, t1, t2⟩ := Go.Joins.open_agg3 Tryd.underlying26 (by kernel_rfl) (by kernel_rfl) hv h
  obtain ⟨k, e0, -, -⟩ := DataW.trod_int Tryd.underlying3 t0
  obtain ⟨s, e1, -, hs⟩ := DataW.trod_string Tryd.underlying9 t1
  obtain ⟨x, e2, -, hx⟩ := trod_float Tryd.underlying22 t2
  simp only [List.cons.injEq, and_true] at e0 e1 e2
  refine ⟨k, s.data.toList, x, by rw [e0, e1, e2]; rfl, by simpa [Lit.wf] using hx, ?_⟩
  have : s.data.toList.length = s.size := rfl
  rw [this]
  unfold maxLen at hs
  omega
set_option maxRecDepth 100000 in
theorem open_float (hv : Value.okWide Tryd.prog W r b0 22 v) (h : DataW.Trod enc Tryd.prog W base spare held 22 v d p) : ∃ z : Nat, v = .float .f64 z ∧ z < 18446744073709551616 := by
  obtain ⟨z, rfl, -, -, hz⟩ := Go.ChangeShapes.open_float Tryd.underlying22 hv h
  exact ⟨z, rfl, by simpa [Lit.wf] using hz⟩
end
end Go.Proofs.YtobechecnkmpaaaDoor.Cel
