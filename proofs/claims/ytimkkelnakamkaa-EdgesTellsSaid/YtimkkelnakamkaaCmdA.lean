/- Commands in memory (layer 6, cmd): a box of the call's own. Conditions: those in each statement. -/
import Derived.Test.YtimkkelnakamkaaCmdK
import Derived.Test.YtimkkelnakamkaaBase
import Derived.Lib.SliceRun
import Derived.Laws.StructEq
import Derived.Laws.ResultCell
import Derived.Deep.RegionHeld3
import Derived.Deep.DrawnRows
import Derived.KernelRfl
namespace Go.Proofs.Ytimkkelnakamkaa.Cmd
open Go.RowKit Go.Lib
set_option linter.unusedVariables false

/-! ### Boxes -/
def cells (k : Int) (s : List UInt8) (v : Nat) : Obj := .cells #[.int .i64 k, .string (str s), .float .f64 v] 73
/-- A box at block g, and that w's blocks lie as they did. -/
structure Boxed (w : World) (g : Nat) (k : Int) (s : List UInt8) (v : Nat) (wr : World) : Prop where
  below : Below w.heap.size w wr
  own : w.heap.size ≤ g
  lt : g < wr.heap.size
  c0 : wr.cell? ⟨g, 0, none⟩ = some (.int .i64 k)
  c1 : wr.cell? ⟨g, 1, none⟩ = some (.string (str s))
  c2 : wr.cell? ⟨g, 2, none⟩ = some (.float .f64 v)
  f0 : wr.frozen? ⟨g, 0, none⟩ = false
  f1 : wr.frozen? ⟨g, 1, none⟩ = false
  f2 : wr.frozen? ⟨g, 2, none⟩ = false
theorem box_free (w : World) (k : Int) (s : List UInt8) (v : Nat) (j : Nat) : (w.alloc (cells k s v)).frozen? ⟨w.heap.size, j, none⟩ = false := by
  have h : (w.alloc (cells k s v)).heap[w.heap.size]? = some (.cells #[.int .i64 k, .string (str s), .float .f64 v] 73 (0, 0)) := heap_alloc_new w _
  unfold World.frozen?
  simp only [h]
  simp
theorem Boxed.start (w : World) (k : Int) (s : List UInt8) (v : Nat) : Boxed w w.heap.size k s v (w.alloc (cells k s v)) :=
  ⟨below_one _ _, Nat.le_refl _, by simp, by unfold cells; rw [World.cell?_alloc_mark]; rfl, by unfold cells; rw [World.cell?_alloc_mark]; rfl, by unfold cells; rw [World.cell?_alloc_mark]; rfl, box_free _ _ _ _ _, box_free _ _ _ _ _, box_free _ _ _ _ _⟩
theorem Boxed.on {w wr w' : World} {g : Nat} {k : Int} {s : List UInt8} {v : Nat} (h : Boxed w g k s v wr) (hb : Below wr.heap.size wr w') : Boxed w g k s v w' :=
  ⟨h.below.trans (hb.mono h.below.size), h.own, Nat.lt_of_lt_of_le h.lt hb.size, (hb.cell (p := ⟨g, 0, none⟩) h.lt).trans h.c0, (hb.cell (p := ⟨g, 1, none⟩) h.lt).trans h.c1, (hb.cell (p := ⟨g, 2, none⟩) h.lt).trans h.c2,
    (hb.frozen (p := ⟨g, 0, none⟩) h.lt).trans h.f0, (hb.frozen (p := ⟨g, 1, none⟩) h.lt).trans h.f1, (hb.frozen (p := ⟨g, 2, none⟩) h.lt).trans h.f2⟩
/-- Seen from an elder world. -/
theorem Boxed.from {a w wr : World} {g : Nat} {k : Int} {s : List UInt8} {v : Nat} (h : Boxed w g k s v wr) (hb : Below a.heap.size a w) : Boxed a g k s v wr :=
  ⟨hb.trans (h.below.mono hb.size), Nat.le_trans hb.size h.own, h.lt, h.c0, h.c1, h.c2, h.f0, h.f1, h.f2⟩
/-- The next box. -/
theorem Boxed.next {a w : World} (hb : Below a.heap.size a w) (k : Int) (s : List UInt8) (v : Nat) : Boxed a w.heap.size k s v (w.alloc (cells k s v)) := (Boxed.start w k s v).from hb
end Go.Proofs.Ytimkkelnakamkaa.Cmd
