/- The statements' small play of layer 8 (record): it returns true. No condition. -/
import Derived.Test.YtimkkelnakamkaaRecF
namespace Go.Proofs.Ytimkkelnakamkaa.Rec
open Go.RowKit Cmd Bat Ids
set_option linter.unusedVariables false

/-! ### A row that is a block of its own reads as its list -/
theorem rowI {w : World} {g : Nat} {ds : List Idn} (h : w.heap[g]? = some (.cells (flat ds).toArray 24 (0, 0))) (hl : ds.length ≤ 100000) : RowAt w (.slice (some ⟨g, 0, none⟩) ds.length ds.length) ds := by
  have hlt : g < w.heap.size := (Array.getElem?_eq_some_iff.1 h).1
  refine ⟨some ⟨g, 0, none⟩, ds.length, rfl, Nat.le_refl _, by omega, (fun e => by cases e), fun _ => ⟨g, 0, rfl, hlt, fun j hj => ?_⟩⟩
  obtain ⟨h1, h2⟩ := flat_at ds j hj
  rw [Nat.zero_add]
  exact ⟨cell_row h (by simpa using h1), cell_row h (by simpa using h2)⟩
theorem rowC {w : World} {g : Nat} {cs : List Cmdn} (h : w.heap[g]? = some (.cells (flatC cs).toArray 73 (0, 0))) (hl : cs.length ≤ 100000) : layC.Row w (.slice (some ⟨g, 0, none⟩) cs.length cs.length) cs := by
  have hlt : g < w.heap.size := (Array.getElem?_eq_some_iff.1 h).1
  refine ⟨some ⟨g, 0, none⟩, cs.length, rfl, Nat.le_refl _, by omega, fun _ => ⟨g, 0, rfl, hlt, fun j hj => ?_⟩⟩
  obtain ⟨h1, h2, h3⟩ := flatC_at cs j hj
  show w.cell? ⟨g, 0 + j * 3, none⟩ = _ ∧ w.cell? ⟨g, 0 + j * 3 + 1, none⟩ = _ ∧ w.cell? ⟨g, 0 + j * 3 + 2, none⟩ = _
  rw [Nat.zero_add]
  exact ⟨cell_row h (by simpa using h1), cell_row h (by simpa using h2), cell_row h (by simpa using h3)⟩

def wds : List Idn := [(0, 1), (1, 1)]
def wcs : List Cmdn := [(1, [97], 0)]
theorem wcs_wf : ∀ x ∈ wcs, wfC x := by
  intro x hx
  simp [wcs] at hx
  subst hx; exact ⟨by decide, by decide⟩
theorem w_err : rErr 1 2 3 wds wcs = 0 := by decide
theorem w_same : rSame 1 2 3 wds wcs 1 2 3 wds wcs = true := by decide
theorem w_less : rLess 1 2 3 1 2 3 = false := by decide
/-- What the play has, seen from the elder world. -/
structure Play (w : World) (W : World) : Prop where
  below : Below w.heap.size w W
  lt : w.heap.size + 1 + 1 < W.heap.size
  box : W.heap[w.heap.size + 1 + 1]? = some (.cells #[.int .i64 1, .int .i64 2, .int .i64 3, .slice (some ⟨w.heap.size, 0, none⟩) 2 2, .slice (some ⟨w.heap.size + 1, 0, none⟩) 1 1] 35 (0, 0))
  row : RowAt W (.slice (some ⟨w.heap.size, 0, none⟩) 2 2) wds
  row' : layC.Row W (.slice (some ⟨w.heap.size + 1, 0, none⟩) 1 1) wcs
theorem Play.on {w W W' : World} (h : Play w W) (hb : Below W.heap.size W W') : Play w W' :=
  ⟨h.below.trans (hb.mono h.below.size), Nat.lt_of_lt_of_le h.lt hb.size, (hb.block _ h.lt).trans h.box, h.row.on hb, h.row'.on hb⟩
theorem Play.five {w W : World} (h : Play w W) : W.cell? ⟨w.heap.size + 1 + 1, 0, none⟩ = some (.int .i64 1) ∧ W.cell? ⟨w.heap.size + 1 + 1, 1, none⟩ = some (.int .i64 2) ∧ W.cell? ⟨w.heap.size + 1 + 1, 2, none⟩ = some (.int .i64 3) ∧ W.cell? ⟨w.heap.size + 1 + 1, 3, none⟩ = some (.slice (some ⟨w.heap.size, 0, none⟩) 2 2) ∧ W.cell? ⟨w.heap.size + 1 + 1, 4, none⟩ = some (.slice (some ⟨w.heap.size + 1, 0, none⟩) 1 1) :=
  ⟨cell_row h.box rfl, cell_row h.box rfl, cell_row h.box rfl, cell_row h.box rfl, cell_row h.box rfl⟩
theorem Play.start (w : World) : Play w (((w.alloc (.cells #[.int .i64 0, .int .i64 1, .int .i64 1, .int .i64 1] 24)).alloc (.cells #[.int .i64 1, .string ⟨#[97]⟩, .float .f64 0] 73)).alloc (.cells #[.int .i64 1, .int .i64 2, .int .i64 3, .slice (some ⟨w.heap.size, 0, none⟩) 2 2, .slice (some ⟨w.heap.size + 1, 0, none⟩) 1 1] 35)) := by
  have b0 := Cmd.below_one w (.cells #[.int .i64 0, .int .i64 1, .int .i64 1, .int .i64 1] 24)
  have e1 := heap_alloc_new w (.cells #[.int .i64 0, .int .i64 1, .int .i64 1, .int .i64 1] 24)
  have s1 : (w.alloc (.cells #[.int .i64 0, .int .i64 1, .int .i64 1, .int .i64 1] 24)).heap.size = w.heap.size + 1 := by simp
  generalize w.alloc (.cells #[.int .i64 0, .int .i64 1, .int .i64 1, .int .i64 1] 24) = W1 at *
  have b1 := Cmd.below_one W1 (.cells #[.int .i64 1, .string ⟨#[97]⟩, .float .f64 0] 73)
  have e2 := heap_alloc_new W1 (.cells #[.int .i64 1, .string ⟨#[97]⟩, .float .f64 0] 73)
  have s2 : (W1.alloc (.cells #[.int .i64 1, .string ⟨#[97]⟩, .float .f64 0] 73)).heap.size = w.heap.size + 1 + 1 := by simp [s1]
  rw [s1] at e2
  generalize W1.alloc (.cells #[.int .i64 1, .string ⟨#[97]⟩, .float .f64 0] 73) = W2 at *
  have b2 := Cmd.below_one W2 (.cells #[.int .i64 1, .int .i64 2, .int .i64 3, .slice (some ⟨w.heap.size, 0, none⟩) 2 2, .slice (some ⟨w.heap.size + 1, 0, none⟩) 1 1] 35)
  have e3 := heap_alloc_new W2 (.cells #[.int .i64 1, .int .i64 2, .int .i64 3, .slice (some ⟨w.heap.size, 0, none⟩) 2 2, .slice (some ⟨w.heap.size + 1, 0, none⟩) 1 1] 35)
  rw [s2] at e3
  have r1 := (rowI (ds := wds) e1 (by decide)).on (b1.trans (b2.mono b1.size))
  have r2 := (rowC (cs := wcs) e2 (by decide)).on b2
  exact ⟨(b0.trans (b1.mono (by omega))).trans (b2.mono (by omega)), by simp [s2], e3, r1, r2⟩

end Go.Proofs.Ytimkkelnakamkaa.Rec
