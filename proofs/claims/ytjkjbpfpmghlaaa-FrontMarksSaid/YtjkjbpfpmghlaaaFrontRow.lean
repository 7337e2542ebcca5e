/- Arguments opened: a small number (uint8). What a set's List gives, as fronts want it. No condition but those in each statement. -/
import Derived.Test.YtjkjbpfpmghlaaaOpen
import Derived.Test.YtjkjbpfpmghlaaaSetD
import Derived.Test.YtjkjbpfpmghlaaaFrontE
namespace Go.Proofs.Ytjkjbpfpmghlaaa
open Go.ChangeShapes Go.WideShapes Go.ChangeAt Go.RowKit

theorem lists : Lists := fun v zs w h hl => setlist_any v zs w h hl
section
variable {H : Type} {enc : TypeId × Value → H} {W : World} {base : Nat} {spare : Nat → Bool} {held : Bool}
theorem open_u8 {r : Reach} {b0 : Nat} {v : Value} {d : DataW H} {p : List MemPlace} (hv : Value.okWide Try.prog W r b0 5 v) (h : DataW.Trod enc Try.prog W base spare held 5 v d p) : ∃ n : Nat, v = .int .u8 (n : Int) ∧ n < 256 := by
  obtain ⟨a, rfl, -, -, hw⟩ := open_int Try.underlying5 hv h
  have : 0 ≤ a ∧ a ≤ 255 := by simpa [Lit.wf, IntKind.min, IntKind.max, IntKind.signed, IntKind.bits] using hw
  exact ⟨a.toNat, by rw [Int.toNat_of_nonneg this.1], by omega⟩
end
end Go.Proofs.Ytjkjbpfpmghlaaa
