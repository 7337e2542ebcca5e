/- What lies in a row of memory, of whatever elements; rows of the call's own, of one cell an element. Conditions: those in each statement. -/
import Derived.Test.YtomidcbpnaajeaaGreatBase
import Derived.LoopTactic
import Derived.IntWalk
import Derived.Deep.QuietTactic
import Derived.BigQuiet
import Derived.Lib.SmallJoins
import Derived.Maps.AppendAt
import Derived.WalkSmall
namespace Go.Proofs.YtomidcbpnaajeaaGreat.Bat
open Go.RowKit Cmd
set_option linter.unusedVariables false

/-! ### What lies in a row, of whatever elements -/
structure Lay (α : Type) where
  nil : α
  pos : Nat → Nat → Nat
  lies : World → Nat → Nat → α → Prop
  on : ∀ {w w' : World} {b o : Nat} {x : α}, b < w.heap.size → Below w.heap.size w w' → lies w b o x → lies w' b o x
variable {α : Type}
def Lay.at (L : Lay α) (zs : List α) (j : Nat) : α := zs.getD j L.nil
structure Lay.In (L : Lay α) (w : World) (b off : Nat) (zs : List α) : Prop where
  lt : b < w.heap.size
  cell : ∀ j, j < zs.length → L.lies w b (L.pos off j) (L.at zs j)
theorem Lay.In.on {L : Lay α} {w w' : World} {b off : Nat} {zs : List α} (h : L.In w b off zs) (hb : Below w.heap.size w w') : L.In w' b off zs :=
  ⟨Nat.lt_of_lt_of_le h.lt hb.size, fun j hj => L.on h.lt hb (h.cell j hj)⟩
/-- A slice value that reads as a list. -/
def Lay.Row (L : Lay α) (w : World) (v : Value) (zs : List α) : Prop :=
  ∃ (p : Option Addr) (cap : Nat), v = .slice p zs.length cap ∧ zs.length ≤ cap ∧ cap ≤ 9223372036854775807 ∧ (zs ≠ [] → ∃ b off, p = some ⟨b, off, none⟩ ∧ L.In w b off zs)
theorem Lay.Row.on {L : Lay α} {w w' : World} {v : Value} {zs : List α} (h : L.Row w v zs) (hb : Below w.heap.size w w') : L.Row w' v zs := by
  obtain ⟨p, cap, rfl, h1, h2, h3⟩ := h
  exact ⟨p, cap, rfl, h1, h2, fun hz => by obtain ⟨b, off, rfl, hi⟩ := h3 hz; exact ⟨b, off, rfl, hi.on hb⟩⟩
theorem Lay.Row.parts {L : Lay α} {w : World} {v : Value} {zs : List α} (h : L.Row w v zs) :
    ∃ (p : Option Addr) (cap : Nat), v = .slice p zs.length cap ∧ zs.length ≤ 9223372036854775807 ∧ (zs.length = 0 ∨ ∃ B off, p = some ⟨B, off, none⟩ ∧ Hid (L.In w B off zs)) := by
  obtain ⟨p, cap, rfl, h1, h2, h3⟩ := h
  refine ⟨p, cap, rfl, by omega, ?_⟩
  by_cases hz : zs = []
  · left; rw [hz]; rfl
  · right; obtain ⟨b, off, rfl, hi⟩ := h3 hz; exact ⟨b, off, rfl, Lib.hid hi⟩
theorem Lay.mem {L : Lay α} {zs : List α} {x : α} : x ∈ zs ↔ ∃ j, j < zs.length ∧ L.at zs j = x := by
  unfold Lay.at
  constructor
  · intro h
    obtain ⟨j, hj, e⟩ := List.getElem_of_mem h
    exact ⟨j, hj, by rw [List.getD_eq_getElem?_getD, List.getElem?_eq_getElem hj]; exact e⟩
  · rintro ⟨j, hj, e⟩
    rw [List.getD_eq_getElem?_getD, List.getElem?_eq_getElem hj] at e
    rw [← e]; exact List.getElem_mem hj
theorem Lay.at_mem (L : Lay α) {zs : List α} {j : Nat} (h : j < zs.length) : L.at zs j ∈ zs := Lay.mem.2 ⟨j, h, rfl⟩
theorem Lay.ext (L : Lay α) {xs ys : List α} (hl : xs.length = ys.length) (h : ∀ j, j < xs.length → L.at xs j = L.at ys j) : xs = ys := by
  refine List.ext_getElem hl fun j h1 h2 => ?_
  have := h j h1
  unfold Lay.at at this
  rwa [List.getD_eq_getElem?_getD, List.getElem?_eq_getElem h1, List.getD_eq_getElem?_getD, List.getElem?_eq_getElem h2] at this
theorem Lay.at_get (L : Lay α) {zs : List α} {j : Nat} (h : j < zs.length) : L.at zs j = zs[j] := by
  unfold Lay.at; rw [List.getD_eq_getElem?_getD, List.getElem?_eq_getElem h]; rfl
theorem Lay.drop (L : Lay α) {zs : List α} {k : Nat} (h : k < zs.length) : zs.drop k = L.at zs k :: zs.drop (k + 1) := by
  rw [List.drop_eq_getElem_cons h, L.at_get h]
theorem Lay.take (L : Lay α) {zs : List α} {k : Nat} (h : k < zs.length) : zs.take (k + 1) = zs.take k ++ [L.at zs k] := by
  rw [List.take_succ_eq_append_getElem h, L.at_get h]
/-- A row in memory of the call's own, or not. -/
def Lay.Gives (L : Lay α) (zs : List α) (w : World) (e : Ending) (w' : World) : Prop := ∃ v, e = .returned v ∧ L.Row w' v zs ∧ Below w.heap.size w w'

theorem below_drN {B : Nat} {a w : World} (h : Below B a w) (n : Nat) : Below B a (w.drewN n) := ⟨h.os, h.tape, h.output, h.size, h.block⟩
theorem below_draws (w : World) (n : Nat) : Below w.heap.size w (w.drewN n) := Go.Joins.below_draws _ _ _

/-! ### Rows of the call's own, of one cell an element -/
theorem grown_of {w w' : World} (hb : Below w.heap.size w w') : w.grownBy w' none := ⟨hb.os, hb.tape, hb.output, hb.size, fun k hk _ => hb.block k hk⟩
theorem own_below {w w' : World} {base : Nat} {e : TypeId} {size : Nat} {v : Value} {n : Nat} {xs : List Value} (h : w.ownsRow base e size v n xs) (hb : Below w.heap.size w w') : w'.ownsRow base e size v n xs :=
  World.ownsRow.kept h (grown_of hb) (by cases hv : v.ownBlock with | none => exact .inl rfl | some k => exact .inr (by simp))
theorem below_grown {B : Nat} {a wr w1 : World} {base : Nat} {e : TypeId} {size : Nat} {v : Value} {n : Nat} {xs : List Value} (h : Below B a wr) (hB : B ≤ base) (ho : wr.ownsRow base e size v n xs) (hs : B ≤ wr.heap.size) (hg : wr.grownBy w1 v.ownBlock) : Below B a w1 :=
  Below.grown h hg hs (fun k hk => Nat.le_trans hB (World.ownsRow.lt ho k hk).1)
theorem own_mono {w : World} {base base' : Nat} {e : TypeId} {size : Nat} {v : Value} {n : Nat} {xs : List Value} (h : w.ownsRow base e size v n xs) (hb : base' ≤ base) : w.ownsRow base' e size v n xs :=
  ⟨h.1, h.2.imp id fun ⟨g, cap, cur, h1, h2, h3⟩ => ⟨g, cap, cur, h1, Nat.le_trans hb h2, h3⟩⟩
theorem add_lit (g j : Nat) : ((⟨g, 0, none⟩ : Addr).add j) = ⟨g, j, none⟩ := by unfold Addr.add; split <;> simp_all
theorem own_row {α : Type} {L : Lay α} {enc : α → Value} (hp : ∀ o j, L.pos o j = o + j) (hl : ∀ w b o x, w.cell? ⟨b, o, none⟩ = some (enc x) → L.lies w b o x) {w : World} {base : Nat} {e : TypeId} {v : Value} {zs : List α} (h : w.ownsRow base e 1 v zs.length (zs.map enc)) : L.Row w v zs := by
  have hc := fun g hg => World.ownsRow.cells h (g := g) hg
  have hlt := World.ownsRow.lt h
  rcases h.2 with ⟨rfl, h0⟩ | ⟨g, cap, cur, rfl, hb, hg, hn, hm, -, -⟩
  · have e : zs = [] := List.eq_nil_of_length_eq_zero h0
    subst e
    exact ⟨none, 0, rfl, Nat.le_refl _, by omega, fun h => absurd rfl h⟩
  · refine ⟨some ⟨g, 0, none⟩, cap, rfl, hn, by unfold maxLen at hm; omega, fun _ => ⟨g, 0, rfl, (hlt g rfl).2, fun j hj => ?_⟩⟩
    have h1 : (zs.map enc)[j]? = some (enc (L.at zs j)) := by rw [List.getElem?_map, List.getElem?_eq_getElem hj, L.at_get hj]; rfl
    have e1 := hc g rfl _ _ h1
    rw [add_lit] at e1
    refine hl _ _ _ _ ?_
    rw [hp, Nat.zero_add]; exact e1
end Go.Proofs.YtomidcbpnaajeaaGreat.Bat
