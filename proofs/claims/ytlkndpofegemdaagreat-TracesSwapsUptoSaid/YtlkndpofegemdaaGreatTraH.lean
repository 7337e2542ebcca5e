/- The small play of layer 19's statements (traces): it returns true, whatever way graphs are kept (under Graphs and Traces). Conditions: those in each statement. -/
import Derived.Test.YtlkndpofegemdaaGreatTraG
import Derived.Test.YtlkndpofegemdaaGreatReg
namespace Go.Proofs.YtlkndpofegemdaaGreat.Tra
open Go.RowKit Cmd Bat Ids Rec Wid Gra Rea Cps
set_option linter.unusedVariables false
set_option linter.unusedSimpArgs false

def trs : List Rcd := [((1, 1), 1, [], [(2, [107], 0)]), ((1, 2), 1, [], [(1, [107], 0)])]
def tX : List (List Idn) := [[(1, 1)], [(1, 2)]]
def tY : List (List Idn) := [[(1, 2)], [(1, 1)]]
theorem trs_err : gErr trs = 0 := by decide
theorem tconf : confG trs [(1, 1)] [(1, 2)] = true := by decide
theorem tconf' : confG trs [(1, 2)] [(1, 1)] = true := by rw [confG_comm]; exact tconf
theorem tsame : sameG trs tX tX = true := same_self trs tX
theorem tplaces : placesG tX tY = some [1, 0] := by decide
theorem tsame' : sameG trs tX tY = false := same_bad tplaces fun h => by
  have := h 0 1 (by decide) (by decide) (by decide)
  exact absurd (tconf'.symm.trans this) (by decide)
theorem tsteps : stepsG tX tY = 1 := by rw [steps_some tplaces]; decide
theorem trs_lot : Lot trs := by
  have key : ∀ x ∈ trs, wfG x ∧ x.2.2.1.length ≤ 1000 ∧ x.2.2.2.length ≤ 1000 := fun x hx => by
    unfold trs at hx
    simp only [List.mem_cons, List.not_mem_nil, or_false] at hx
    rcases hx with rfl | rfl
    · exact ⟨⟨⟨by decide, by decide⟩, fun d hd => (by cases hd), fun c hc => by rw [List.mem_singleton.1 hc]; exact ⟨by decide, by decide⟩⟩, by decide, by decide⟩
    · exact ⟨⟨⟨by decide, by decide⟩, fun d hd => (by cases hd), fun c hc => by rw [List.mem_singleton.1 hc]; exact ⟨by decide, by decide⟩⟩, by decide, by decide⟩
  exact ⟨fun x hx => (key x hx).1, by decide, fun x hx => (key x hx).2⟩
theorem one_cmd {W : World} {g : Nat} {c : Int} {s : List UInt8} {f : Nat} (h : W.heap[g]? = some (.cells #[.int .i64 c, .string (str s), .float .f64 f] 51 (0, 0))) : layC.Row W (.slice (some ⟨g, 0, none⟩) 1 1) [(c, s, f)] := by
  refine ⟨_, 1, rfl, Nat.le_refl _, by omega, fun _ => ⟨g, 0, rfl, (Array.getElem?_eq_some_iff.1 h).1, fun j hj => ?_⟩⟩
  obtain rfl : j = 0 := by have : j < 1 := hj; omega
  exact ⟨cell_row h rfl, cell_row h rfl, cell_row h rfl⟩
theorem no_idsT (W : World) : RowAt W (.slice none 0 0) [] := ⟨none, 0, rfl, Nat.le_refl _, by omega, (fun _ => rfl), fun h => absurd rfl h⟩
theorem two_recT {W : World} {g : Nat} {c1 c2 : Value} (h : W.heap[g]? = some (.cells #[.int .i64 1, .int .i64 1, .int .i64 1, .slice none 0 0, c1, .int .i64 1, .int .i64 2, .int .i64 1, .slice none 0 0, c2] 46 (0, 0)))
    (h1 : layC.Row W c1 [(2, [107], 0)]) (h2 : layC.Row W c2 [(1, [107], 0)]) : layG.Row W (.slice (some ⟨g, 0, none⟩) 2 2) trs := by
  refine ⟨_, 2, rfl, Nat.le_refl _, by omega, fun _ => ⟨g, 0, rfl, (Array.getElem?_eq_some_iff.1 h).1, fun j hj => ?_⟩⟩
  have hj2 : j = 0 ∨ j = 1 := by have : j < 2 := hj; omega
  rcases hj2 with rfl | rfl
  · exact ⟨cell_row h rfl, cell_row h rfl, cell_row h rfl, ⟨_, cell_row h rfl, no_idsT W⟩, _, cell_row h rfl, h1⟩
  · exact ⟨cell_row h rfl, cell_row h rfl, cell_row h rfl, ⟨_, cell_row h rfl, no_idsT W⟩, _, cell_row h rfl, h2⟩
/-! ### A drawn region that makes two lists of two lists, by one invariant -/
def One (w : World) (u : Value) (x y : Int) : Prop := ∃ k, u = .slice (some ⟨k, 0, none⟩) 1 1 ∧ RowAt w u [(x, y)]
def Two (w : World) (u a b : Value) : Prop := ∃ k, u = .slice (some ⟨k, 0, none⟩) 2 2 ∧ w.heap[k]? = some (.cells #[a, b] 36 (0, 0))
theorem One.on {w w' : World} {u : Value} {x y : Int} (h : One w u x y) (hb : Below w.heap.size w w') : One w' u x y := by obtain ⟨k, e, r⟩ := h; exact ⟨k, e, r.on hb⟩
theorem Two.on {w w' : World} {u a b : Value} (h : Two w u a b) (hb : Below w.heap.size w w') : Two w' u a b := by obtain ⟨k, e, r⟩ := h; exact ⟨k, e, (hb.block _ (Array.getElem?_eq_some_iff.1 r).1).trans r⟩
theorem Two.row {w : World} {u a b : Value} {x y z t : Int} (h : Two w u a b) (ha : One w a x y) (hb : One w b z t) : layLL.Row w u [[(x, y)], [(z, t)]] := by
  obtain ⟨k, rfl, r⟩ := h
  obtain ⟨-, -, ra⟩ := ha
  obtain ⟨-, -, rb⟩ := hb
  refine ⟨_, 2, rfl, Nat.le_refl _, by omega, fun _ => ⟨k, 0, rfl, (Array.getElem?_eq_some_iff.1 r).1, fun j hj => ?_⟩⟩
  have hj2 : j = 0 ∨ j = 1 := by have : j < 2 := hj; omega
  rcases hj2 with rfl | rfl
  · exact ⟨_, cell_row r rfl, ra⟩
  · exact ⟨_, cell_row r rfl, rb⟩
structure Pt (W5 : World) (b1 b3 b4 b6 b8 b9 b10 b11 : Bool) (u7 u8 u27 u29 u30 u32 u34 u35 : Value) (w : World) : Prop where
  low : Below W5.heap.size W5 w
  h1 : b1 = true → One w u27 1 1
  h3 : b3 = true → One w u29 1 2
  h4 : b4 = true → Two w u30 u27 u29
  h6 : b6 = true → One w u32 1 2
  h8 : b8 = true → One w u34 1 1
  h9 : b9 = true → Two w u35 u32 u34
  h10 : b10 = true → u7 = u30
  h11 : b11 = true → u8 = u35
  g4 : b4 = true → b1 = true ∧ b3 = true
  g9 : b9 = true → b6 = true ∧ b8 = true
  g10 : b10 = true → b4 = true
  g11 : b11 = true → b9 = true
section
variable {W5 w w' : World} {b1 b3 b4 b6 b8 b9 b10 b11 : Bool} {u7 u8 u27 u29 u30 u32 u34 u35 u : Value}
theorem Pt.s1 (h : Pt W5 false b3 b4 b6 b8 b9 b10 b11 u7 u8 u27 u29 u30 u32 u34 u35 w) (hb : Below w.heap.size w w') (hu : One w' u 1 1) : Pt W5 true b3 b4 b6 b8 b9 b10 b11 u7 u8 u u29 u30 u32 u34 u35 w' :=
  ⟨h.low.trans (hb.mono h.low.size), fun _ => hu, fun e => (h.h3 e).on hb, fun e => absurd (h.g4 e).1 (by decide), fun e => (h.h6 e).on hb, fun e => (h.h8 e).on hb, fun e => (h.h9 e).on hb, h.h10, h.h11, fun e => absurd (h.g4 e).1 (by decide), h.g9, h.g10, h.g11⟩
theorem Pt.s3 (h : Pt W5 b1 false b4 b6 b8 b9 b10 b11 u7 u8 u27 u29 u30 u32 u34 u35 w) (hb : Below w.heap.size w w') (hu : One w' u 1 2) : Pt W5 b1 true b4 b6 b8 b9 b10 b11 u7 u8 u27 u u30 u32 u34 u35 w' :=
  ⟨h.low.trans (hb.mono h.low.size), fun e => (h.h1 e).on hb, fun _ => hu, fun e => absurd (h.g4 e).2 (by decide), fun e => (h.h6 e).on hb, fun e => (h.h8 e).on hb, fun e => (h.h9 e).on hb, h.h10, h.h11, fun e => absurd (h.g4 e).2 (by decide), h.g9, h.g10, h.g11⟩
theorem Pt.s4 (h : Pt W5 true true false b6 b8 b9 b10 b11 u7 u8 u27 u29 u30 u32 u34 u35 w) (hb : Below w.heap.size w w') (hu : Two w' u u27 u29) : Pt W5 true true true b6 b8 b9 b10 b11 u7 u8 u27 u29 u u32 u34 u35 w' :=
  ⟨h.low.trans (hb.mono h.low.size), fun e => (h.h1 e).on hb, fun e => (h.h3 e).on hb, fun _ => hu, fun e => (h.h6 e).on hb, fun e => (h.h8 e).on hb, fun e => (h.h9 e).on hb, fun e => absurd (h.g10 e) (by decide), h.h11, fun _ => ⟨rfl, rfl⟩, h.g9, fun _ => rfl, h.g11⟩
theorem Pt.s6 (h : Pt W5 b1 b3 b4 false b8 b9 b10 b11 u7 u8 u27 u29 u30 u32 u34 u35 w) (hb : Below w.heap.size w w') (hu : One w' u 1 2) : Pt W5 b1 b3 b4 true b8 b9 b10 b11 u7 u8 u27 u29 u30 u u34 u35 w' :=
  ⟨h.low.trans (hb.mono h.low.size), fun e => (h.h1 e).on hb, fun e => (h.h3 e).on hb, fun e => (h.h4 e).on hb, fun _ => hu, fun e => (h.h8 e).on hb, fun e => absurd (h.g9 e).1 (by decide), h.h10, h.h11, h.g4, fun e => absurd (h.g9 e).1 (by decide), h.g10, h.g11⟩
theorem Pt.s8 (h : Pt W5 b1 b3 b4 b6 false b9 b10 b11 u7 u8 u27 u29 u30 u32 u34 u35 w) (hb : Below w.heap.size w w') (hu : One w' u 1 1) : Pt W5 b1 b3 b4 b6 true b9 b10 b11 u7 u8 u27 u29 u30 u32 u u35 w' :=
  ⟨h.low.trans (hb.mono h.low.size), fun e => (h.h1 e).on hb, fun e => (h.h3 e).on hb, fun e => (h.h4 e).on hb, fun e => (h.h6 e).on hb, fun _ => hu, fun e => absurd (h.g9 e).2 (by decide), h.h10, h.h11, h.g4, fun e => absurd (h.g9 e).2 (by decide), h.g10, h.g11⟩
theorem Pt.s9 (h : Pt W5 b1 b3 b4 true true false b10 b11 u7 u8 u27 u29 u30 u32 u34 u35 w) (hb : Below w.heap.size w w') (hu : Two w' u u32 u34) : Pt W5 b1 b3 b4 true true true b10 b11 u7 u8 u27 u29 u30 u32 u34 u w' :=
  ⟨h.low.trans (hb.mono h.low.size), fun e => (h.h1 e).on hb, fun e => (h.h3 e).on hb, fun e => (h.h4 e).on hb, fun e => (h.h6 e).on hb, fun e => (h.h8 e).on hb, fun _ => hu, h.h10, fun e => absurd (h.g11 e) (by decide), h.g4, fun _ => ⟨rfl, rfl⟩, h.g10, fun _ => rfl⟩
theorem Pt.s10 (h : Pt W5 b1 b3 true b6 b8 b9 false b11 u7 u8 u27 u29 u30 u32 u34 u35 w) (hu : u = u30) : Pt W5 b1 b3 true b6 b8 b9 true b11 u u8 u27 u29 u30 u32 u34 u35 w :=
  ⟨h.low, h.h1, h.h3, h.h4, h.h6, h.h8, h.h9, fun _ => hu, h.h11, h.g4, h.g9, fun _ => rfl, h.g11⟩
theorem Pt.s11 (h : Pt W5 b1 b3 b4 b6 b8 true b10 false u7 u8 u27 u29 u30 u32 u34 u35 w) (hu : u = u35) : Pt W5 b1 b3 b4 b6 b8 true b10 true u7 u u27 u29 u30 u32 u34 u35 w :=
  ⟨h.low, h.h1, h.h3, h.h4, h.h6, h.h8, h.h9, h.h10, fun _ => hu, h.g4, h.g9, h.g10, fun _ => rfl⟩
end
def cntT (b1 b3 b4 b6 b8 b9 b10 b11 : Bool) : Nat := b1.not.toNat + b3.not.toNat + b4.not.toNat + b6.not.toNat + b8.not.toNat + b9.not.toNat + b10.not.toNat + b11.not.toNat
theorem cntT1 {f : Nat} {b3 b4 b6 b8 b9 b10 b11 : Bool} (h : f + 1 = cntT false b3 b4 b6 b8 b9 b10 b11) : f = cntT true b3 b4 b6 b8 b9 b10 b11 := by unfold cntT at *; simp only [Bool.not_false, Bool.not_true, Bool.toNat_true, Bool.toNat_false] at *; omega
theorem cntT3 {f : Nat} {b1 b4 b6 b8 b9 b10 b11 : Bool} (h : f + 1 = cntT b1 false b4 b6 b8 b9 b10 b11) : f = cntT b1 true b4 b6 b8 b9 b10 b11 := by unfold cntT at *; simp only [Bool.not_false, Bool.not_true, Bool.toNat_true, Bool.toNat_false] at *; omega
theorem cntT4 {f : Nat} {b1 b3 b6 b8 b9 b10 b11 : Bool} (h : f + 1 = cntT b1 b3 false b6 b8 b9 b10 b11) : f = cntT b1 b3 true b6 b8 b9 b10 b11 := by unfold cntT at *; simp only [Bool.not_false, Bool.not_true, Bool.toNat_true, Bool.toNat_false] at *; omega
theorem cntT6 {f : Nat} {b1 b3 b4 b8 b9 b10 b11 : Bool} (h : f + 1 = cntT b1 b3 b4 false b8 b9 b10 b11) : f = cntT b1 b3 b4 true b8 b9 b10 b11 := by unfold cntT at *; simp only [Bool.not_false, Bool.not_true, Bool.toNat_true, Bool.toNat_false] at *; omega
theorem cntT8 {f : Nat} {b1 b3 b4 b6 b9 b10 b11 : Bool} (h : f + 1 = cntT b1 b3 b4 b6 false b9 b10 b11) : f = cntT b1 b3 b4 b6 true b9 b10 b11 := by unfold cntT at *; simp only [Bool.not_false, Bool.not_true, Bool.toNat_true, Bool.toNat_false] at *; omega
theorem cntT9 {f : Nat} {b1 b3 b4 b6 b8 b10 b11 : Bool} (h : f + 1 = cntT b1 b3 b4 b6 b8 false b10 b11) : f = cntT b1 b3 b4 b6 b8 true b10 b11 := by unfold cntT at *; simp only [Bool.not_false, Bool.not_true, Bool.toNat_true, Bool.toNat_false] at *; omega
theorem cntT10 {f : Nat} {b1 b3 b4 b6 b8 b9 b11 : Bool} (h : f + 1 = cntT b1 b3 b4 b6 b8 b9 false b11) : f = cntT b1 b3 b4 b6 b8 b9 true b11 := by unfold cntT at *; simp only [Bool.not_false, Bool.not_true, Bool.toNat_true, Bool.toNat_false] at *; omega
theorem cntT11 {f : Nat} {b1 b3 b4 b6 b8 b9 b10 : Bool} (h : f + 1 = cntT b1 b3 b4 b6 b8 b9 b10 false) : f = cntT b1 b3 b4 b6 b8 b9 b10 true := by unfold cntT at *; simp only [Bool.not_false, Bool.not_true, Bool.toNat_true, Bool.toNat_false] at *; omega
theorem cntT_zero {b1 b3 b4 b6 b8 b9 b10 b11 : Bool} (h : 0 = cntT b1 b3 b4 b6 b8 b9 b10 b11) : b1 = true ∧ b3 = true ∧ b4 = true ∧ b6 = true ∧ b8 = true ∧ b9 = true ∧ b10 = true ∧ b11 = true := by
  revert h; cases b1 <;> cases b3 <;> cases b4 <;> cases b6 <;> cases b8 <;> cases b9 <;> cases b10 <;> cases b11 <;> decide
def chkT (b1 b3 b4 b6 b8 b9 b10 b11 : Bool) (i : Nat) : Bool := (decide (i = 1) && (!b1)) || (decide (i = 3) && (!b3)) || (decide (i = 4) && (!b4 && (b1 && b3))) || (decide (i = 6) && (!b6)) || (decide (i = 8) && (!b8)) || (decide (i = 9) && (!b9 && (b6 && b8))) || (decide (i = 10) && (!b10 && b4)) || (decide (i = 11) && (!b11 && b9))
theorem chkT_out {b1 b3 b4 b6 b8 b9 b10 b11 : Bool} {i : Nat} (h : chkT b1 b3 b4 b6 b8 b9 b10 b11 i = true) : (i = 1 ∧ b1 = false) ∨ (i = 3 ∧ b3 = false) ∨ (i = 4 ∧ b4 = false ∧ b1 = true ∧ b3 = true) ∨ (i = 6 ∧ b6 = false) ∨ (i = 8 ∧ b8 = false) ∨ (i = 9 ∧ b9 = false ∧ b6 = true ∧ b8 = true) ∨ (i = 10 ∧ b10 = false ∧ b4 = true) ∨ (i = 11 ∧ b11 = false ∧ b9 = true) := by
  unfold chkT at h
  simp only [Bool.or_eq_true, Bool.and_eq_true, decide_eq_true_eq, Bool.not_eq_true'] at h
  rcases h with ((((((h | h) | h) | h) | h) | h) | h) | h <;> simp [h]
theorem rdyT_of {md : Region.Mode} {ops : Array Oper} {L : Array Bool} {i : Nat} {c : Nat → Bool} (hi : i ∈ Region.ready md ops L) (h : (Region.ready md ops L).all c = true) : c i = true := List.all_eq_true.1 h i hi
theorem rdyT_ne {l : List Nat} (h : l = []) (h2 : l.isEmpty = false) : False := by subst h; cases h2
set_option maxRecDepth 100000 in
set_option maxHeartbeats 16000000 in
theorem tplay_any {G : Nat → Nat → List Rcd → World → Prop} {Z : List (List Idn) → Prop} (HG : Graphs G) (TG : Traces G Z) (w : World) : Calls Tryz.prog 7 #[] w (RetBelow (.bool true) w) := by
  have HK := Lib.hid HG
  have HR := Lib.hid TG
  have b1 := Cmd.below_one w (.cells #[.int .i64 1, .int .i64 1] 43)
  have n1 := heap_alloc_new w (.cells #[.int .i64 1, .int .i64 1] 43)
  obtain ⟨w1, h1⟩ : ∃ w1, w1 = w.alloc (.cells #[.int .i64 1, .int .i64 1] 43) := ⟨_, rfl⟩
  have s1 : w1.heap.size = w.heap.size + 1 := by rw [h1]; simp
  rw [← h1] at b1 n1
  have b2 := Cmd.below_one w1 (.cells #[.int .i64 1, .int .i64 2] 43)
  have n2 := heap_alloc_new w1 (.cells #[.int .i64 1, .int .i64 2] 43)
  obtain ⟨w2, h2⟩ : ∃ w2, w2 = w1.alloc (.cells #[.int .i64 1, .int .i64 2] 43) := ⟨_, rfl⟩
  have s2 : w2.heap.size = w.heap.size + 1 + 1 := by rw [h2, World.size_alloc, s1]
  rw [← h2] at b2 n2
  have b3 := Cmd.below_one w2 (.cells #[.int .i64 2, .string ⟨#[107]⟩, .float .f64 0] 51)
  have n3 := heap_alloc_new w2 (.cells #[.int .i64 2, .string ⟨#[107]⟩, .float .f64 0] 51)
  obtain ⟨w3, h3⟩ : ∃ w3, w3 = w2.alloc (.cells #[.int .i64 2, .string ⟨#[107]⟩, .float .f64 0] 51) := ⟨_, rfl⟩
  have s3 : w3.heap.size = w.heap.size + 1 + 1 + 1 := by rw [h3, World.size_alloc, s2]
  rw [← h3] at b3 n3
  have b4 := Cmd.below_one w3 (.cells #[.int .i64 1, .string ⟨#[107]⟩, .float .f64 0] 51)
  have n4 := heap_alloc_new w3 (.cells #[.int .i64 1, .string ⟨#[107]⟩, .float .f64 0] 51)
  obtain ⟨w4, h4⟩ : ∃ w4, w4 = w3.alloc (.cells #[.int .i64 1, .string ⟨#[107]⟩, .float .f64 0] 51) := ⟨_, rfl⟩
  have s4 : w4.heap.size = w.heap.size + 1 + 1 + 1 + 1 := by rw [h4, World.size_alloc, s3]
  rw [← h4] at b4 n4
  rw [s1] at n2
  rw [s2] at n3
  rw [s3] at n4
  have b5 := Cmd.below_one w4 (.cells #[.int .i64 1, .int .i64 1, .int .i64 1, .slice none 0 0, .slice (some ⟨w.heap.size + 1 + 1, 0, none⟩) 1 1, .int .i64 1, .int .i64 2, .int .i64 1, .slice none 0 0, .slice (some ⟨w.heap.size + 1 + 1 + 1, 0, none⟩) 1 1] 46)
  have n5 := heap_alloc_new w4 (.cells #[.int .i64 1, .int .i64 1, .int .i64 1, .slice none 0 0, .slice (some ⟨w.heap.size + 1 + 1, 0, none⟩) 1 1, .int .i64 1, .int .i64 2, .int .i64 1, .slice none 0 0, .slice (some ⟨w.heap.size + 1 + 1 + 1, 0, none⟩) 1 1] 46)
  rw [s4] at n5
  have r5 := two_recT n5 ((one_cmd (c := 2) (s := [107]) (f := 0) n3).on (b4.trans (b5.mono b4.size))) ((one_cmd (c := 1) (s := [107]) (f := 0) n4).on b5)
  have HB45 := b4.trans (b5.mono b4.size)
  have HB35 := b3.trans (HB45.mono b3.size)
  have HB25 := b2.trans (HB35.mono b2.size)
  have HB0 := b1.trans (HB25.mono b1.size)
  have CN := HG.new _ trs _ r5 trs_lot
  have k1 := HB25.block w.heap.size (by omega)
  have k2 := HB35.block (w.heap.size + 1) (by omega)
  have T1 := Lib.hid (And.intro (k1.trans n1) (k2.trans n2))
  have HB5 := Lib.hid HB0
  have HCN := Lib.hid CN
  subst h4; subst h3; subst h2; subst h1
  clear b1 n1 s1 b2 n2 s2 b3 n3 s3 b4 n4 s4 b5 n5 r5 HB0 HB45 HB35 HB25 CN k1 k2
  go_enter Tryz.func7, Tryz.ntmps7
  go_upto_region 4 with (first
    | (go_at_call 8; ((with_reducible refine HCN.out.mono ?_); rintro E w6 ⟨hb, (⟨-, g, rfl, hg⟩ | ⟨hne, -⟩)⟩; rotate_left; exact absurd trs_err hne; have G6 := Lib.hid hg; have T6 := Lib.hid (And.intro ((hb.block _ (Array.getElem?_eq_some_iff.1 T1.out.1).1).trans T1.out.1) ((hb.block _ (Array.getElem?_eq_some_iff.1 T1.out.2).1).trans T1.out.2)); have HB6 := Lib.hid (HB5.out.trans (hb.mono HB5.out.size)); clear hb hg)))
  have HS : Hid (∀ w', Below w6.heap.size w6 w' → w'.cell? ⟨w.heap.size, 0, none⟩ = some (.int .i64 1) ∧ w'.cell? ⟨w.heap.size, 1, none⟩ = some (.int .i64 1) ∧ w'.cell? ⟨w.heap.size + 1, 0, none⟩ = some (.int .i64 1) ∧ w'.cell? ⟨w.heap.size + 1, 1, none⟩ = some (.int .i64 2)) := Lib.hid fun w' hb => by
    have t1 := (hb.block _ (Array.getElem?_eq_some_iff.1 T6.out.1).1).trans T6.out.1
    have t2 := (hb.block _ (Array.getElem?_eq_some_iff.1 T6.out.2).1).trans T6.out.2
    exact ⟨cell_row (i := 0) t1 rfl, cell_row (i := 1) t1 rfl, cell_row (i := 0) t2 rfl, cell_row (i := 1) t2 rfl⟩
  have DY0 : Hid (Below w6.heap.size w6 w6.drew) := Lib.hid (Below.refl _ _).drew
  refine wp_region_held_drew (S := (fun w' => w'.cell? ⟨w.heap.size, 0, none⟩ = some (.int .i64 1) ∧ w'.cell? ⟨w.heap.size, 1, none⟩ = some (.int .i64 1) ∧ w'.cell? ⟨w.heap.size + 1, 0, none⟩ = some (.int .i64 1) ∧ w'.cell? ⟨w.heap.size + 1, 1, none⟩ = some (.int .i64 2))) (by kernel_rfl) (HS.out _ DY0.out) (fun hHeld => ?_)
  generalize w6.drew = Y0 at DY0 hHeld ⊢
  refine ty (v := ?_) 0 (fun w hSw => ?_) ?_
  rotate_left
  · (try dsimp only at hSw); go_simp; (try with_reducible rfl)
  try simp only [List.getElem_toArray, List.getElem_cons_succ, List.getElem_cons_zero, Act.put, List.setIfInBounds_toArray, List.set_cons_zero, List.set_cons_succ]
  refine ty (v := ?_) 2 (fun w hSw => ?_) ?_
  rotate_left
  · (try dsimp only at hSw); go_simp; (try with_reducible rfl)
  try simp only [List.getElem_toArray, List.getElem_cons_succ, List.getElem_cons_zero, Act.put, List.setIfInBounds_toArray, List.set_cons_zero, List.set_cons_succ]
  refine ty (v := ?_) 5 (fun w hSw => ?_) ?_
  rotate_left
  · (try dsimp only at hSw); go_simp; (try with_reducible rfl)
  try simp only [List.getElem_toArray, List.getElem_cons_succ, List.getElem_cons_zero, Act.put, List.setIfInBounds_toArray, List.set_cons_zero, List.set_cons_succ]
  refine ty (v := ?_) 7 (fun w hSw => ?_) ?_
  rotate_left
  · (try dsimp only at hSw); go_simp; (try with_reducible rfl)
  try simp only [List.getElem_toArray, List.getElem_cons_succ, List.getElem_cons_zero, Act.put, List.setIfInBounds_toArray, List.set_cons_zero, List.set_cons_succ]
  refine held_inv (fun f L a W => ∃ (b1 b3 b4 b6 b8 b9 b10 b11 : Bool) (u7 u8 u27 u29 u30 u32 u34 u35 : Value), L = #[true, b1, true, b3, b4, true, b6, true, b8, b9, b10, b11] ∧ f = cntT b1 b3 b4 b6 b8 b9 b10 b11 ∧ a = { tmps := #[.bool false, .pointer (some ⟨w.heap.size, 0, none⟩), .pointer (some ⟨w.heap.size + 1, 0, none⟩), .slice (some ⟨w.heap.size + 1 + 1, 0, none⟩) 1 1, .slice (some ⟨w.heap.size + 1 + 1 + 1, 0, none⟩) 1 1, gptr g, .int .i64 0, u7, u8, .agg #[.int .i64 1, .int .i64 1], .agg #[.int .i64 1, .int .i64 2], .agg #[.int .i64 2, .string ⟨#[107]⟩, .float .f64 0], .slice (some ⟨w.heap.size + 1 + 1, 0, none⟩) 1 1, .agg #[.int .i64 1, .string ⟨#[107]⟩, .float .f64 0], .slice (some ⟨w.heap.size + 1 + 1 + 1, 0, none⟩) 1 1, .tuple #[gptr g, .int .i64 0], .agg #[.int .i64 1, .int .i64 1], .slice (some ⟨w.heap.size + 1 + 1, 0, none⟩) 1 1, .agg #[.int .i64 1, .int .i64 1, .int .i64 1, .slice none 0 0, .slice (some ⟨w.heap.size + 1 + 1, 0, none⟩) 1 1], .agg #[.int .i64 1, .int .i64 2], .slice (some ⟨w.heap.size + 1 + 1 + 1, 0, none⟩) 1 1, .agg #[.int .i64 1, .int .i64 2, .int .i64 1, .slice none 0 0, .slice (some ⟨w.heap.size + 1 + 1 + 1, 0, none⟩) 1 1], .slice (some ⟨w.heap.size + 1 + 1 + 1 + 1, 0, none⟩) 2 2, .tuple #[gptr g, .int .i64 0], gptr g, .int .i64 0, .agg #[.int .i64 1, .int .i64 1], u27, .agg #[.int .i64 1, .int .i64 2], u29, u30, .agg #[.int .i64 1, .int .i64 2], u32, .agg #[.int .i64 1, .int .i64 1], u34, u35, undef, undef, undef, undef, undef, undef, undef, undef, undef, undef, undef, undef, undef, undef, undef, undef, undef, undef, undef, undef, undef, undef, undef, undef, undef, undef, undef, undef, undef, undef, undef, undef], defers := [] } ∧ Hid (Pt Y0 b1 b3 b4 b6 b8 b9 b10 b11 u7 u8 u27 u29 u30 u32 u34 u35 W)) ?_ ?_ _ _ _ _ ⟨false, false, false, false, false, false, false, false, undef, undef, undef, undef, undef, undef, undef, undef, by kernel_rfl, by kernel_rfl, rfl, Lib.hid ⟨Below.refl _ _, fun h => (by cases h), fun h => (by cases h), fun h => (by cases h), fun h => (by cases h), fun h => (by cases h), fun h => (by cases h), fun h => (by cases h), fun h => (by cases h), fun h => (by cases h), fun h => (by cases h), fun h => (by cases h), fun h => (by cases h)⟩⟩
  · rintro L a W ⟨b1, b3, b4, b6, b8, b9, b10, b11, u7, u8, u27, u29, u30, u32, u34, u35, rfl, hf, rfl, hP⟩
    obtain ⟨rfl, rfl, rfl, rfl, rfl, rfl, rfl, rfl⟩ := cntT_zero hf
    refine ⟨by kernel_rfl, ?_⟩
    obtain ⟨k4, e4, r4⟩ := hP.out.h4 rfl
    obtain ⟨k9, e9, r9⟩ := hP.out.h9 rfl
    have e10 := hP.out.h10 rfl
    have e11 := hP.out.h11 rfl
    subst e10 e11
    have RX := Lib.hid ((hP.out.h4 rfl).row (hP.out.h1 rfl) (hP.out.h3 rfl))
    have RY := Lib.hid ((hP.out.h9 rfl).row (hP.out.h6 rfl) (hP.out.h8 rfl))
    obtain ⟨k1, e1, r1⟩ := hP.out.h1 rfl
    obtain ⟨k3, e3, r3⟩ := hP.out.h3 rfl
    have DW := Lib.hid (DY0.out.trans (hP.out.low.mono DY0.out.size))
    have W1 : Hid (∀ c ∈ tX, ∀ z ∈ c, wfId z) := Lib.hid (by unfold tX; intro c hc z hz; simp only [List.mem_cons, List.not_mem_nil, or_false] at hc; rcases hc with rfl | rfl <;> (rw [List.mem_singleton.1 hz]; exact ⟨by decide, by decide⟩))
    have W2 : Hid (∀ c ∈ tY, ∀ z ∈ c, wfId z) := Lib.hid (by unfold tY; intro c hc z hz; simp only [List.mem_cons, List.not_mem_nil, or_false] at hc; rcases hc with rfl | rfl <;> (rw [List.mem_singleton.1 hz]; exact ⟨by decide, by decide⟩))
    have S1 : Hid (Shrt tX) := Lib.hid (by unfold Shrt; decide)
    have S2 : Hid (Shrt tY) := Lib.hid (by unfold Shrt; decide)
    have GX := Lib.hid (fun X (hb : Below W.heap.size W X) => HK.out.on G6.out (DW.out.trans (hb.mono DW.out.size)))
    have C1 : Hid (∀ X, Below W.heap.size W X → Calls Tryz.prog 13 #[gptr g, u27, u29] X (RetBelow (.bool true) X)) := Lib.hid fun X hb => by
      have := HR.out.conflict (GX.out X hb) u27 u29 _ _ (r1.on hb) (r3.on hb) (fun z hz => by rw [List.mem_singleton.1 hz]; exact ⟨by decide, by decide⟩) (fun z hz => by rw [List.mem_singleton.1 hz]; exact ⟨by decide, by decide⟩)
      rwa [tconf] at this
    have C2 : Hid (∀ X, Below W.heap.size W X → Calls Tryz.prog 9 #[gptr g, u7, u7] X (RetBelow (.bool true) X)) := Lib.hid fun X hb => by
      have := HR.out.same (GX.out X hb) u7 u7 tX tX (RX.out.on hb) (RX.out.on hb) (by decide) (by decide) W1.out W1.out S1.out S1.out
      rwa [tsame] at this
    have C3 : Hid (∀ X, Below W.heap.size W X → Calls Tryz.prog 9 #[gptr g, u7, u8] X (RetBelow (.bool false) X)) := Lib.hid fun X hb => by
      have := HR.out.same (GX.out X hb) u7 u8 tX tY (RX.out.on hb) (RY.out.on hb) (by decide) (by decide) W1.out W2.out S1.out S2.out
      rwa [tsame'] at this
    have C4 : Hid (∀ X, Below W.heap.size W X → Calls Tryz.prog 11 #[gptr g, u7, u8] X (RetBelow (.int .i64 1) X)) := Lib.hid fun X hb => by
      have := HR.out.steps (GX.out X hb) u7 u8 tX tY (RX.out.on hb) (RY.out.on hb) (by decide) (by decide) W1.out W2.out S1.out S2.out
      rwa [tsteps] at this
    have HX : Hid (∀ X, Below W.heap.size W X → X.cell? ⟨k4, 0, none⟩ = some u27 ∧ X.cell? ⟨k4, 1, none⟩ = some u29) := Lib.hid fun X hb => by
      have := (hb.block _ (Array.getElem?_eq_some_iff.1 r4).1).trans r4
      exact ⟨cell_row (i := 0) this rfl, cell_row (i := 1) this rfl⟩
    have E0 := Lib.hid (Below.refl W.heap.size W)
    have HB7 := Lib.hid (HB6.out.trans (DW.out.mono HB6.out.size))
    clear hP hf r4 r9 r1 r3 RX RY
    subst e4 e9 e1 e3
    go_wp2_with fail
    go_region_held3 (fun w' => w'.cell? ⟨k4, 0, none⟩ = some (.slice (some ⟨k1, 0, none⟩) 1 1) ∧ w'.cell? ⟨k4, 1, none⟩ = some (.slice (some ⟨k3, 0, none⟩) 1 1))
      (first
        | exact HX.out _ E4.out
        | exact HX.out _ E3.out
        | exact HX.out _ E2.out
        | exact HX.out _ E1.out
        | exact HX.out _ E0.out
        | exact HX.out _ E0.out.drew)
      (first
        | (go_at_call 13; (with_reducible refine (C1.out _ E0.out.drew).mono ?_); rintro e z1 ⟨rfl, hb1⟩; have E1 := Lib.hid (E0.out.drew.trans (hb1.mono E0.out.drew.size)); clear hb1)
        | (go_at_call 9; (with_reducible refine (C2.out _ E1.out).mono ?_); rintro e z2 ⟨rfl, hb2⟩; have E2 := Lib.hid (E1.out.trans (hb2.mono E1.out.size)); clear hb2)
        | (go_at_call 9; (with_reducible refine (C3.out _ E2.out).mono ?_); rintro e z3 ⟨rfl, hb3⟩; have E3 := Lib.hid (E2.out.trans (hb3.mono E2.out.size)); clear hb3)
        | (go_at_call 11; (with_reducible refine (C4.out _ E3.out).mono ?_); rintro e z4 ⟨rfl, hb4⟩; have E4 := Lib.hid (E3.out.trans (hb4.mono E3.out.size)); clear hb4))
    go_wp2
    go_ret
    exact ⟨rfl, HB7.out.trans (E4.out.mono HB7.out.size)⟩
  · rintro f L a W ⟨b1, b3, b4, b6, b8, b9, b10, b11, u7, u8, u27, u29, u30, u32, u34, u35, rfl, hf, rfl, hP⟩
    refine ⟨fun hr => ?_, fun i hi => ?_⟩
    · exfalso
      revert hr hf
      clear hP
      cases b1 <;> cases b3 <;> cases b4 <;> cases b6 <;> cases b8 <;> cases b9 <;> cases b10 <;> cases b11 <;> intro hf hr <;> first
        | exact absurd hf (Nat.succ_ne_zero f)
        | exact rdyT_ne hr (by kernel_rfl)
    · have hc := chkT_out (rdyT_of (c := chkT b1 b3 b4 b6 b8 b9 b10 b11) hi (by clear hP hi hf; cases b1 <;> cases b3 <;> cases b4 <;> cases b6 <;> cases b8 <;> cases b9 <;> cases b10 <;> cases b11 <;> kernel_rfl))
      clear hi
      rcases hc with ⟨rfl, h0⟩ | ⟨rfl, h0⟩ | ⟨rfl, h0⟩ | ⟨rfl, h0⟩ | ⟨rfl, h0⟩ | ⟨rfl, h0⟩ | ⟨rfl, h0⟩ | ⟨rfl, h0⟩
      · subst h0
        have hb := Cmd.below_one W (.cells #[.int .i64 1, .int .i64 1] 43)
        have HP := Lib.hid (hP.out.s1 hb ⟨W.heap.size, rfl, Cps.one_id (heap_alloc_new W (.cells #[.int .i64 1, .int .i64 1] 43))⟩)
        clear hb
        refine op_step rfl (fun K hK => ?_)
        go_simp
        exact hK.out _ _ ⟨HS.out _ (DY0.out.trans (HP.out.low.mono DY0.out.size)), true, b3, b4, b6, b8, b9, b10, b11, u7, u8, _, u29, u30, u32, u34, u35, rfl, cntT1 hf, rfl, HP⟩
      · subst h0
        have hb := Cmd.below_one W (.cells #[.int .i64 1, .int .i64 2] 43)
        have HP := Lib.hid (hP.out.s3 hb ⟨W.heap.size, rfl, Cps.one_id (heap_alloc_new W (.cells #[.int .i64 1, .int .i64 2] 43))⟩)
        clear hb
        refine op_step rfl (fun K hK => ?_)
        go_simp
        exact hK.out _ _ ⟨HS.out _ (DY0.out.trans (HP.out.low.mono DY0.out.size)), b1, true, b4, b6, b8, b9, b10, b11, u7, u8, u27, _, u30, u32, u34, u35, rfl, cntT3 hf, rfl, HP⟩
      · obtain ⟨h0, e1, e2⟩ := h0
        subst h0 e1 e2
        obtain ⟨k1, rfl, -⟩ := hP.out.h1 rfl
        obtain ⟨k2, rfl, -⟩ := hP.out.h3 rfl
        have hb := Cmd.below_one W (.cells #[.slice (some ⟨k1, 0, none⟩) 1 1, .slice (some ⟨k2, 0, none⟩) 1 1] 36)
        have HP := Lib.hid (hP.out.s4 hb ⟨W.heap.size, rfl, heap_alloc_new W (.cells #[.slice (some ⟨k1, 0, none⟩) 1 1, .slice (some ⟨k2, 0, none⟩) 1 1] 36)⟩)
        clear hb
        refine op_step rfl (fun K hK => ?_)
        go_simp
        exact hK.out _ _ ⟨HS.out _ (DY0.out.trans (HP.out.low.mono DY0.out.size)), true, true, true, b6, b8, b9, b10, b11, u7, u8, _, _, _, u32, u34, u35, rfl, cntT4 hf, rfl, HP⟩
      · subst h0
        have hb := Cmd.below_one W (.cells #[.int .i64 1, .int .i64 2] 43)
        have HP := Lib.hid (hP.out.s6 hb ⟨W.heap.size, rfl, Cps.one_id (heap_alloc_new W (.cells #[.int .i64 1, .int .i64 2] 43))⟩)
        clear hb
        refine op_step rfl (fun K hK => ?_)
        go_simp
        exact hK.out _ _ ⟨HS.out _ (DY0.out.trans (HP.out.low.mono DY0.out.size)), b1, b3, b4, true, b8, b9, b10, b11, u7, u8, u27, u29, u30, _, u34, u35, rfl, cntT6 hf, rfl, HP⟩
      · subst h0
        have hb := Cmd.below_one W (.cells #[.int .i64 1, .int .i64 1] 43)
        have HP := Lib.hid (hP.out.s8 hb ⟨W.heap.size, rfl, Cps.one_id (heap_alloc_new W (.cells #[.int .i64 1, .int .i64 1] 43))⟩)
        clear hb
        refine op_step rfl (fun K hK => ?_)
        go_simp
        exact hK.out _ _ ⟨HS.out _ (DY0.out.trans (HP.out.low.mono DY0.out.size)), b1, b3, b4, b6, true, b9, b10, b11, u7, u8, u27, u29, u30, u32, _, u35, rfl, cntT8 hf, rfl, HP⟩
      · obtain ⟨h0, e1, e2⟩ := h0
        subst h0 e1 e2
        obtain ⟨k1, rfl, -⟩ := hP.out.h6 rfl
        obtain ⟨k2, rfl, -⟩ := hP.out.h8 rfl
        have hb := Cmd.below_one W (.cells #[.slice (some ⟨k1, 0, none⟩) 1 1, .slice (some ⟨k2, 0, none⟩) 1 1] 36)
        have HP := Lib.hid (hP.out.s9 hb ⟨W.heap.size, rfl, heap_alloc_new W (.cells #[.slice (some ⟨k1, 0, none⟩) 1 1, .slice (some ⟨k2, 0, none⟩) 1 1] 36)⟩)
        clear hb
        refine op_step rfl (fun K hK => ?_)
        go_simp
        exact hK.out _ _ ⟨HS.out _ (DY0.out.trans (HP.out.low.mono DY0.out.size)), b1, b3, b4, true, true, true, b10, b11, u7, u8, u27, u29, u30, _, _, _, rfl, cntT9 hf, rfl, HP⟩
      · obtain ⟨h0, e1⟩ := h0
        subst h0 e1
        have HP := Lib.hid (hP.out.s10 rfl)
        refine op_step rfl (fun K hK => ?_)
        go_simp
        exact hK.out _ _ ⟨HS.out _ (DY0.out.trans (HP.out.low.mono DY0.out.size)), b1, b3, true, b6, b8, b9, true, b11, _, u8, u27, u29, u30, u32, u34, u35, rfl, cntT10 hf, rfl, HP⟩
      · obtain ⟨h0, e1⟩ := h0
        subst h0 e1
        have HP := Lib.hid (hP.out.s11 rfl)
        refine op_step rfl (fun K hK => ?_)
        go_simp
        exact hK.out _ _ ⟨HS.out _ (DY0.out.trans (HP.out.low.mono DY0.out.size)), b1, b3, b4, b6, b8, true, b10, true, u7, _, u27, u29, u30, u32, u34, u35, rfl, cntT11 hf, rfl, HP⟩
end Go.Proofs.YtlkndpofegemdaaGreat.Tra
