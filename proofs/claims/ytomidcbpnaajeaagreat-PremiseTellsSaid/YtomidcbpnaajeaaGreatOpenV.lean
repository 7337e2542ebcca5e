/- Arguments opened, at their cells: a text. No condition but those in each statement. -/
import Derived.Test.YtomidcbpnaajeaaGreatOpenG
namespace Go.Proofs.YtomidcbpnaajeaaGreat
open Go.ChangeShapes Go.WideShapes Go.ChangeAt Go.RowKit Cmd Bat
set_option linter.unusedVariables false

section
variable {H : Type} {enc : TypeId × Value → H} {W : World} {base : Nat} {spare : Nat → Bool} {held : Bool}
set_option maxRecDepth 100000 in
theorem open_str {r : Reach} {b0 : Nat} {v : Value} {d : DataW H} {p : List MemPlace} (hv : Value.okWide Tryz.prog W r b0 9 v) (h : DataW.Trod enc Tryz.prog W base spare held 9 v d p) : ∃ l : List UInt8, v = .string (str l) := by
  obtain ⟨s, rfl, -, -, -⟩ := Go.ChangeMaps.open_string Tryz.underlying9 hv h
  exact ⟨s.data.toList, rfl⟩
end
end Go.Proofs.YtomidcbpnaajeaaGreat
