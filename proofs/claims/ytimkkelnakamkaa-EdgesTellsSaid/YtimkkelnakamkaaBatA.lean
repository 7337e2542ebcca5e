/- Lists of commands, of texts and of numbers in memory (layer 7, batch). Conditions: those in each statement. -/
import Derived.Test.YtimkkelnakamkaaCmdC
import Derived.Test.YtimkkelnakamkaaLay
import Derived.LoopTactic
import Derived.IntWalk
import Derived.Deep.QuietTactic
import Derived.BigQuiet
import Derived.Lib.SmallJoins
namespace Go.Proofs.Ytimkkelnakamkaa.Bat
open Go.RowKit Cmd
set_option linter.unusedVariables false

/-! ### Commands, texts, numbers -/
abbrev Cmdn := Int × List UInt8 × Nat
def cval (x : Cmdn) : Value := .agg #[.int .i64 x.1, .string (str x.2.1), .float .f64 x.2.2]
def layC : Lay Cmdn := ⟨(0, [], 0), fun o j => o + j * 3, fun w b o x => w.cell? ⟨b, o, none⟩ = some (.int .i64 x.1) ∧ w.cell? ⟨b, o + 1, none⟩ = some (.string (str x.2.1)) ∧ w.cell? ⟨b, o + 2, none⟩ = some (.float .f64 x.2.2),
  fun {w w' b o x} hb h ⟨h0, h1, h2⟩ => ⟨(h.cell (p := ⟨b, o, none⟩) hb).trans h0, (h.cell (p := ⟨b, o + 1, none⟩) hb).trans h1, (h.cell (p := ⟨b, o + 2, none⟩) hb).trans h2⟩⟩
def layS : Lay (List UInt8) := ⟨[], fun o j => o + j, fun w b o x => w.cell? ⟨b, o, none⟩ = some (.string (str x)), fun {w w' b o x} hb h h0 => (h.cell (p := ⟨b, o, none⟩) hb).trans h0⟩
def layI : Lay Int := ⟨0, fun o j => o + j, fun w b o x => w.cell? ⟨b, o, none⟩ = some (.int .i64 x), fun {w w' b o x} hb h h0 => (h.cell (p := ⟨b, o, none⟩) hb).trans h0⟩
theorem cellS {w : World} {B off : Nat} {zs : List (List UInt8)} (h : layS.In w B off zs) {k : Nat} (hk : k < zs.length) {x : List UInt8} (hx : layS.at zs k = x) : w.cell? ⟨B, off + k, none⟩ = some (.string (str x)) := by
  subst hx; exact h.cell k hk
theorem cellI {w : World} {B off : Nat} {zs : List Int} (h : layI.In w B off zs) {k : Nat} (hk : k < zs.length) {x : Int} (hx : layI.at zs k = x) : w.cell? ⟨B, off + k, none⟩ = some (.int .i64 x) := by
  subst hx; exact h.cell k hk
theorem cellC {w : World} {B off : Nat} {zs : List Cmdn} (h : layC.In w B off zs) {k : Nat} (hk : k < zs.length) {c : Int} {s : List UInt8} {f : Nat} (hx : layC.at zs k = (c, s, f)) :
    w.cell? ⟨B, off + k * 3, none⟩ = some (.int .i64 c) ∧ w.cell? ⟨B, off + k * 3 + 1, none⟩ = some (.string (str s)) ∧ w.cell? ⟨B, off + k * 3 + 2, none⟩ = some (.float .f64 f) := by
  have := h.cell k hk
  rw [hx] at this; exact this
/-- Which commands' numbers and texts the walks can go on with. -/
def wfC (x : Cmdn) : Prop := x.2.2 < 18446744073709551616 ∧ x.2.1.length ≤ 140737488351232
def right (x : Cmdn) : Bool := cRight x.1 x.2.1 x.2.2
def wrt (x : Cmdn) : Bool := cWrites x.1 x.2.1 x.2.2
def conf (x y : Cmdn) : Bool := cConf x.1 x.2.1 x.2.2 y.1 y.2.1 y.2.2
def same (x y : Cmdn) : Bool := cSame x.1 x.2.1 x.2.2 y.1 y.2.1 y.2.2
end Go.Proofs.Ytimkkelnakamkaa.Bat
