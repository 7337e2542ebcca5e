/- Lists of commands, of texts and of numbers in memory (layer 7, batch). Conditions: those in each statement. -/
import Derived.Test.YtkafhepgonidkaaCmdC
import Derived.LoopTactic
import Derived.IntWalk
import Derived.Deep.QuietTactic
import Derived.BigQuiet
import Derived.Lib.SmallJoins
namespace Go.Proofs.Ytkafhepgonidkaa.Bat
open Go.RowKit Cmd
set_option linter.unusedVariables false

/-! ### What lies in a row, of whatever elements -/
structure Lay (α : Type) where
  nil : α
  pos : Nat → Nat → Nat
  lies : World → Nat → Nat → α → Prop
  on : ∀ {w w' : World} {b o : Nat} {x : α}, b < w.heap.size → Below w.heap.size w w' → lies w b o x → lies w' b o x
variable {α : Type}
def Lay.at (L : Lay α) (zs : List α) (j : Nat) : α := zs.getD j L.nil
structure Lay.In (L : Lay α) (w : World) (b off : Nat) (zs : List α) : Prop where
  lt : b < w.heap.size
  cell : ∀ j, j < zs.length → L.lies w b (L.pos off j) (L.at zs j)
theorem Lay.In.on {L : Lay α} {w w' : World} {b off : Nat} {zs : List α} (h : L.In w b off zs) (hb : Below w.heap.size w w') : L.In w' b off zs :=
  ⟨Nat.lt_of_lt_of_le h.lt hb.size, fun j hj => L.on h.lt hb (h.cell j hj)⟩
/-- A slice value that reads as a list. -/
def Lay.Row (L : Lay α) (w : World) (v : Value) (zs : List α) : Prop :=
  ∃ (p : Option Addr) (cap : Nat), v = .slice p zs.length cap ∧ zs.length ≤ cap ∧ cap ≤ 9223372036854775807 ∧ (zs ≠ [] → ∃ b off, p = some ⟨b, off, none⟩ ∧ L.In w b off zs)
theorem Lay.Row.on {L : Lay α} {w w' : World} {v : Value} {zs : List α} (h : L.Row w v zs) (hb : Below w.heap.size w w') : L.Row w' v zs := by
  obtain ⟨p, cap, rfl, h1, h2, h3⟩ := h
  exact ⟨p, cap, rfl, h1, h2, fun hz => by obtain ⟨b, off, rfl, hi⟩ := h3 hz; exact ⟨b, off, rfl, hi.on hb⟩⟩
theorem Lay.Row.parts {L : Lay α} {w : World} {v : Value} {zs : List α} (h : L.Row w v zs) :
    ∃ (p : Option Addr) (cap : Nat), v = .slice p zs.length cap ∧ zs.length ≤ 9223372036854775807 ∧ (zs.length = 0 ∨ ∃ B off, p = some ⟨B, off, none⟩ ∧ Hid (L.In w B off zs)) := by
  obtain ⟨p, cap, rfl, h1, h2, h3⟩ := h
  refine ⟨p, cap, rfl, by omega, ?_⟩
  by_cases hz : zs = []
  · left; rw [hz]; rfl
  · right; obtain ⟨b, off, rfl, hi⟩ := h3 hz; exact ⟨b, off, rfl, Lib.hid hi⟩
theorem Lay.mem {L : Lay α} {zs : List α} {x : α} : x ∈ zs ↔ ∃ j, j < zs.length ∧ L.at zs j = x := by
  unfold Lay.at
  constructor
  · intro h
    obtain ⟨j, hj, e⟩ := List.getElem_of_mem h
    exact ⟨j, hj, by rw [List.getD_eq_getElem?_getD, List.getElem?_eq_getElem hj]; exact e⟩
  · rintro ⟨j, hj, e⟩
    rw [List.getD_eq_getElem?_getD, List.getElem?_eq_getElem hj] at e
    rw [← e]; exact List.getElem_mem hj
theorem Lay.at_mem (L : Lay α) {zs : List α} {j : Nat} (h : j < zs.length) : L.at zs j ∈ zs := Lay.mem.2 ⟨j, h, rfl⟩
theorem Lay.ext (L : Lay α) {xs ys : List α} (hl : xs.length = ys.length) (h : ∀ j, j < xs.length → L.at xs j = L.at ys j) : xs = ys := by
  refine List.ext_getElem hl fun j h1 h2 => ?_
  have := h j h1
  unfold Lay.at at this
  rwa [List.getD_eq_getElem?_getD, List.getElem?_eq_getElem h1, List.getD_eq_getElem?_getD, List.getElem?_eq_getElem h2] at this
theorem Lay.at_get (L : Lay α) {zs : List α} {j : Nat} (h : j < zs.length) : L.at zs j = zs[j] := by
  unfold Lay.at; rw [List.getD_eq_getElem?_getD, List.getElem?_eq_getElem h]; rfl
theorem Lay.drop (L : Lay α) {zs : List α} {k : Nat} (h : k < zs.length) : zs.drop k = L.at zs k :: zs.drop (k + 1) := by
  rw [List.drop_eq_getElem_cons h, L.at_get h]
theorem Lay.take (L : Lay α) {zs : List α} {k : Nat} (h : k < zs.length) : zs.take (k + 1) = zs.take k ++ [L.at zs k] := by
  rw [List.take_succ_eq_append_getElem h, L.at_get h]
/-- A row in memory of the call's own, or not. -/
def Lay.Gives (L : Lay α) (zs : List α) (w : World) (e : Ending) (w' : World) : Prop := ∃ v, e = .returned v ∧ L.Row w' v zs ∧ Below w.heap.size w w'

/-! ### Commands, texts, numbers -/
abbrev Cmdn := Int × List UInt8 × Nat
def cval (x : Cmdn) : Value := .agg #[.int .i64 x.1, .string (str x.2.1), .float .f64 x.2.2]
def layC : Lay Cmdn := ⟨(0, [], 0), fun o j => o + j * 3, fun w b o x => w.cell? ⟨b, o, none⟩ = some (.int .i64 x.1) ∧ w.cell? ⟨b, o + 1, none⟩ = some (.string (str x.2.1)) ∧ w.cell? ⟨b, o + 2, none⟩ = some (.float .f64 x.2.2),
  fun {w w' b o x} hb h ⟨h0, h1, h2⟩ => ⟨(h.cell (p := ⟨b, o, none⟩) hb).trans h0, (h.cell (p := ⟨b, o + 1, none⟩) hb).trans h1, (h.cell (p := ⟨b, o + 2, none⟩) hb).trans h2⟩⟩
def layS : Lay (List UInt8) := ⟨[], fun o j => o + j, fun w b o x => w.cell? ⟨b, o, none⟩ = some (.string (str x)), fun {w w' b o x} hb h h0 => (h.cell (p := ⟨b, o, none⟩) hb).trans h0⟩
def layI : Lay Int := ⟨0, fun o j => o + j, fun w b o x => w.cell? ⟨b, o, none⟩ = some (.int .i64 x), fun {w w' b o x} hb h h0 => (h.cell (p := ⟨b, o, none⟩) hb).trans h0⟩
theorem cellS {w : World} {B off : Nat} {zs : List (List UInt8)} (h : layS.In w B off zs) {k : Nat} (hk : k < zs.length) {x : List UInt8} (hx : layS.at zs k = x) : w.cell? ⟨B, off + k, none⟩ = some (.string (str x)) := by
  subst hx; exact h.cell k hk
theorem cellI {w : World} {B off : Nat} {zs : List Int} (h : layI.In w B off zs) {k : Nat} (hk : k < zs.length) {x : Int} (hx : layI.at zs k = x) : w.cell? ⟨B, off + k, none⟩ = some (.int .i64 x) := by
  subst hx; exact h.cell k hk
theorem cellC {w : World} {B off : Nat} {zs : List Cmdn} (h : layC.In w B off zs) {k : Nat} (hk : k < zs.length) {c : Int} {s : List UInt8} {f : Nat} (hx : layC.at zs k = (c, s, f)) :
    w.cell? ⟨B, off + k * 3, none⟩ = some (.int .i64 c) ∧ w.cell? ⟨B, off + k * 3 + 1, none⟩ = some (.string (str s)) ∧ w.cell? ⟨B, off + k * 3 + 2, none⟩ = some (.float .f64 f) := by
  have := h.cell k hk
  rw [hx] at this; exact this
/-- Which commands' numbers and texts the walks can go on with. -/
def wfC (x : Cmdn) : Prop := x.2.2 < 18446744073709551616 ∧ x.2.1.length ≤ 140737488351232
def right (x : Cmdn) : Bool := cRight x.1 x.2.1 x.2.2
def wrt (x : Cmdn) : Bool := cWrites x.1 x.2.1 x.2.2
def conf (x y : Cmdn) : Bool := cConf x.1 x.2.1 x.2.2 y.1 y.2.1 y.2.2
def same (x y : Cmdn) : Bool := cSame x.1 x.2.1 x.2.2 y.1 y.2.1 y.2.2
theorem below_drN {B : Nat} {a w : World} (h : Below B a w) (n : Nat) : Below B a (w.drewN n) := ⟨h.os, h.tape, h.output, h.size, h.block⟩
theorem below_draws (w : World) (n : Nat) : Below w.heap.size w (w.drewN n) := Go.Joins.below_draws _ _ _
end Go.Proofs.Ytkafhepgonidkaa.Bat
