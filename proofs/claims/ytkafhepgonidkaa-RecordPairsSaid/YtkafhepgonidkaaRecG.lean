/- The statements' small play of layer 8 (record): it returns true. No condition. -/
import Derived.Test.YtkafhepgonidkaaRecF
namespace Go.Proofs.Ytkafhepgonidkaa.Rec
open Go.RowKit Cmd Bat Ids
set_option linter.unusedVariables false

/-! ### A row that is a block of its own reads as its list -/
theorem rowI {w : World} {g : Nat} {ds : List Idn} (h : w.heap[g]? = some (.cells (flat ds).toArray 23 (0, 0))) (hl : ds.length ≤ 100000) : RowAt w (.slice (some ⟨g, 0, none⟩) ds.length ds.length) ds := by
  have hlt : g < w.heap.size := (Array.getElem?_eq_some_iff.1 h).1
  refine ⟨some ⟨g, 0, none⟩, ds.length, rfl, Nat.le_refl _, by omega, (fun e => by cases e), fun _ => ⟨g, 0, rfl, hlt, fun j hj => ?_⟩⟩
  obtain ⟨h1, h2⟩ := flat_at ds j hj
  rw [Nat.zero_add]
  exact ⟨cell_row h (by simpa using h1), cell_row h (by simpa using h2)⟩
theorem rowC {w : World} {g : Nat} {cs : List Cmdn} (h : w.heap[g]? = some (.cells (flatC cs).toArray 36 (0, 0))) (hl : cs.length ≤ 100000) : layC.Row w (.slice (some ⟨g, 0, none⟩) cs.length cs.length) cs := by
  have hlt : g < w.heap.size := (Array.getElem?_eq_some_iff.1 h).1
  refine ⟨some ⟨g, 0, none⟩, cs.length, rfl, Nat.le_refl _, by omega, fun _ => ⟨g, 0, rfl, hlt, fun j hj => ?_⟩⟩
  obtain ⟨h1, h2, h3⟩ := flatC_at cs j hj
  show w.cell? ⟨g, 0 + j * 3, none⟩ = _ ∧ w.cell? ⟨g, 0 + j * 3 + 1, none⟩ = _ ∧ w.cell? ⟨g, 0 + j * 3 + 2, none⟩ = _
  rw [Nat.zero_add]
  exact ⟨cell_row h (by simpa using h1), cell_row h (by simpa using h2), cell_row h (by simpa using h3)⟩

def wds : List Idn := [(0, 1), (1, 1)]
def wcs : List Cmdn := [(1, [97], 0)]
theorem wcs_wf : ∀ x ∈ wcs, wfC x := by
  intro x hx
  simp [wcs] at hx
  subst hx; exact ⟨by decide, by decide⟩
theorem w_err : rErr 1 2 3 wds wcs = 0 := by decide
theorem w_same : rSame 1 2 3 wds wcs 1 2 3 wds wcs = true := by decide
theorem w_less : rLess 1 2 3 1 2 3 = false := by decide
/-- What the play has, seen from the elder world. -/
structure Play (w : World) (W : World) : Prop where
  below : Below w.heap.size w W
  lt : w.heap.size + 1 + 1 < W.heap.size
  box : W.heap[w.heap.size + 1 + 1]? = some (.cells #[.int .i64 1, .int .i64 2, .int .i64 3, .slice (some ⟨w.heap.size, 0, none⟩) 2 2, .slice (some ⟨w.heap.size + 1, 0, none⟩) 1 1] 27 (0, 0))
  row : RowAt W (.slice (some ⟨w.heap.size, 0, none⟩) 2 2) wds
  row' : layC.Row W (.slice (some ⟨w.heap.size + 1, 0, none⟩) 1 1) wcs
theorem Play.on {w W W' : World} (h : Play w W) (hb : Below W.heap.size W W') : Play w W' :=
  ⟨h.below.trans (hb.mono h.below.size), Nat.lt_of_lt_of_le h.lt hb.size, (hb.block _ h.lt).trans h.box, h.row.on hb, h.row'.on hb⟩
theorem Play.five {w W : World} (h : Play w W) : W.cell? ⟨w.heap.size + 1 + 1, 0, none⟩ = some (.int .i64 1) ∧ W.cell? ⟨w.heap.size + 1 + 1, 1, none⟩ = some (.int .i64 2) ∧ W.cell? ⟨w.heap.size + 1 + 1, 2, none⟩ = some (.int .i64 3) ∧ W.cell? ⟨w.heap.size + 1 + 1, 3, none⟩ = some (.slice (some ⟨w.heap.size, 0, none⟩) 2 2) ∧ W.cell? ⟨w.heap.size + 1 + 1, 4, none⟩ = some (.slice (some ⟨w.heap.size + 1, 0, none⟩) 1 1) :=
  ⟨cell_row h.box rfl, cell_row h.box rfl, cell_row h.box rfl, cell_row h.box rfl, cell_row h.box rfl⟩
theorem Play.start (w : World) : Play w (((w.alloc (.cells #[.int .i64 0, .int .i64 1, .int .i64 1, .int .i64 1] 23)).alloc (.cells #[.int .i64 1, .string ⟨#[97]⟩, .float .f64 0] 36)).alloc (.cells #[.int .i64 1, .int .i64 2, .int .i64 3, .slice (some ⟨w.heap.size, 0, none⟩) 2 2, .slice (some ⟨w.heap.size + 1, 0, none⟩) 1 1] 27)) := by
  have b0 := Cmd.below_one w (.cells #[.int .i64 0, .int .i64 1, .int .i64 1, .int .i64 1] 23)
  have e1 := heap_alloc_new w (.cells #[.int .i64 0, .int .i64 1, .int .i64 1, .int .i64 1] 23)
  have s1 : (w.alloc (.cells #[.int .i64 0, .int .i64 1, .int .i64 1, .int .i64 1] 23)).heap.size = w.heap.size + 1 := by simp
  generalize w.alloc (.cells #[.int .i64 0, .int .i64 1, .int .i64 1, .int .i64 1] 23) = W1 at *
  have b1 := Cmd.below_one W1 (.cells #[.int .i64 1, .string ⟨#[97]⟩, .float .f64 0] 36)
  have e2 := heap_alloc_new W1 (.cells #[.int .i64 1, .string ⟨#[97]⟩, .float .f64 0] 36)
  have s2 : (W1.alloc (.cells #[.int .i64 1, .string ⟨#[97]⟩, .float .f64 0] 36)).heap.size = w.heap.size + 1 + 1 := by simp [s1]
  rw [s1] at e2
  generalize W1.alloc (.cells #[.int .i64 1, .string ⟨#[97]⟩, .float .f64 0] 36) = W2 at *
  have b2 := Cmd.below_one W2 (.cells #[.int .i64 1, .int .i64 2, .int .i64 3, .slice (some ⟨w.heap.size, 0, none⟩) 2 2, .slice (some ⟨w.heap.size + 1, 0, none⟩) 1 1] 27)
  have e3 := heap_alloc_new W2 (.cells #[.int .i64 1, .int .i64 2, .int .i64 3, .slice (some ⟨w.heap.size, 0, none⟩) 2 2, .slice (some ⟨w.heap.size + 1, 0, none⟩) 1 1] 27)
  rw [s2] at e3
  have r1 := (rowI (ds := wds) e1 (by decide)).on (b1.trans (b2.mono b1.size))
  have r2 := (rowC (cs := wcs) e2 (by decide)).on b2
  exact ⟨(b0.trans (b1.mono (by omega))).trans (b2.mono (by omega)), by simp [s2], e3, r1, r2⟩

set_option maxHeartbeats 4000000 in
set_option maxRecDepth 100000 in
theorem works_any (w : World) : Calls Try.prog 5 #[] w (RetBelow (.bool true) w) := by
  have P0 := Lib.hid (Play.start w)
  have C1 : Hid (∀ W, Play w W → Calls Try.prog 8 #[.agg #[.int .i64 1, .int .i64 2, .int .i64 3, .slice (some ⟨w.heap.size, 0, none⟩) 2 2, .slice (some ⟨w.heap.size + 1, 0, none⟩) 1 1]] W (RetBelow (.int .i64 0) W)) := Lib.hid fun W h => by
    have := check_r 1 2 3 _ _ wds wcs W h.row h.row' wcs_wf; rw [w_err] at this; exact this
  have C2 : Hid (∀ W, Play w W → Calls Try.prog 6 #[.agg #[.int .i64 1, .int .i64 2, .int .i64 3, .slice (some ⟨w.heap.size, 0, none⟩) 2 2, .slice (some ⟨w.heap.size + 1, 0, none⟩) 1 1]] W fun e w' => ∃ g h, e = .returned (.agg #[.int .i64 1, .int .i64 2, .int .i64 3, .slice (some ⟨g, 0, none⟩) 2 2, .slice (some ⟨h, 0, none⟩) 1 1]) ∧ CopyIs wds wcs W g h w') := Lib.hid fun W h =>
    copy_any 1 2 3 _ _ wds wcs W h.row h.row' (by decide) (by decide) wcs_wf
  have C3 : Hid (∀ W g h, Play w W → RowAt W (.slice (some ⟨g, 0, none⟩) 2 2) wds → layC.Row W (.slice (some ⟨h, 0, none⟩) 1 1) wcs → Calls Try.prog 11 #[.agg #[.int .i64 1, .int .i64 2, .int .i64 3, .slice (some ⟨w.heap.size, 0, none⟩) 2 2, .slice (some ⟨w.heap.size + 1, 0, none⟩) 1 1], .agg #[.int .i64 1, .int .i64 2, .int .i64 3, .slice (some ⟨g, 0, none⟩) 2 2, .slice (some ⟨h, 0, none⟩) 1 1]] W (RetBelow (.bool true) W)) := Lib.hid fun W g h hp h1 h2 => by
    have := same_r 1 2 3 _ _ 1 2 3 _ _ wds wds wcs wcs W hp.row hp.row' h1 h2; rw [w_same] at this; exact this
  have C4 : Hid (∀ W, Calls Try.prog 10 #[.agg #[.int .i64 1, .int .i64 2, .int .i64 3, .slice (some ⟨w.heap.size, 0, none⟩) 2 2, .slice (some ⟨w.heap.size + 1, 0, none⟩) 1 1]] W (RetBelow (.int .i64 3) W)) := Lib.hid fun W => cost_any 1 2 3 _ 2 2 _ W (by decide)
  have C5 : Hid (∀ W, Calls Try.prog 12 #[.agg #[.int .i64 1, .int .i64 2, .int .i64 3, .slice (some ⟨w.heap.size, 0, none⟩) 2 2, .slice (some ⟨w.heap.size + 1, 0, none⟩) 1 1], .agg #[.int .i64 1, .int .i64 2, .int .i64 3, .slice (some ⟨w.heap.size, 0, none⟩) 2 2, .slice (some ⟨w.heap.size + 1, 0, none⟩) 1 1]] W (RetBelow (.bool false) W)) := Lib.hid fun W => by
    have := less_r 1 2 3 (.slice (some ⟨w.heap.size, 0, none⟩) 2 2) (.slice (some ⟨w.heap.size + 1, 0, none⟩) 1 1) 1 2 3 (.slice (some ⟨w.heap.size, 0, none⟩) 2 2) (.slice (some ⟨w.heap.size + 1, 0, none⟩) 1 1) W; rw [w_less] at this; exact this
  have D0 := Lib.hid (P0.out.on (Below.refl _ _).drew)
  go_enter Try.func5, Try.ntmps5
  go_wp2
  go_region_held3 (fun w' => w'.cell? ⟨w.heap.size + 1 + 1, 0, none⟩ = some (.int .i64 1) ∧ w'.cell? ⟨w.heap.size + 1 + 1, 1, none⟩ = some (.int .i64 2) ∧ w'.cell? ⟨w.heap.size + 1 + 1, 2, none⟩ = some (.int .i64 3) ∧ w'.cell? ⟨w.heap.size + 1 + 1, 3, none⟩ = some (.slice (some ⟨w.heap.size, 0, none⟩) 2 2) ∧ w'.cell? ⟨w.heap.size + 1 + 1, 4, none⟩ = some (.slice (some ⟨w.heap.size + 1, 0, none⟩) 1 1))
    (first
      | exact D5.out.five
      | exact D4.out.five
      | exact D3.out.five
      | exact D2.out.five
      | exact D1.out.five
      | exact D0.out.five)
    (first
      | (go_at_call 8; (with_reducible refine (C1.out _ D0.out).mono ?_); rintro e w1 ⟨rfl, hb⟩; have D1 := Lib.hid (D0.out.on hb); clear hb)
      | (go_at_call 6; (with_reducible refine (C2.out _ D1.out).mono ?_); rintro e w2 ⟨g, h, rfl, hc⟩; have D2 := Lib.hid (D1.out.on hc.below); have R1 := Lib.hid (rowI (ds := wds) hc.row (by decide)); have R2 := Lib.hid (rowC (cs := wcs) hc.row' (by decide)); clear hc)
      | (go_at_call 11; (with_reducible refine (C3.out _ _ _ D2.out R1.out R2.out).mono ?_); rintro e w3 ⟨rfl, hb⟩; have D3 := Lib.hid (D2.out.on hb); clear hb)
      | (go_at_call 10; (with_reducible refine (C4.out _).mono ?_); rintro e w4 ⟨rfl, hb⟩; have D4 := Lib.hid (D3.out.on hb); clear hb)
      | (go_at_call 12; (with_reducible refine (C5.out _).mono ?_); rintro e w5 ⟨rfl, hb⟩; have D5 := Lib.hid (D4.out.on hb); clear hb))
  go_wp2
  go_ret
  exact ⟨rfl, D5.out.below⟩
end Go.Proofs.Ytkafhepgonidkaa.Rec
