/- Arguments opened: a row of bytes, a byte, a word of 64 bits. No condition but those in each statement. -/
import Derived.Test.YtdnabghhjlhjoaaOpen0
import Derived.Test.YtdnabghhjlhjoaaWirB
namespace Go.Proofs.Ytdnabghhjlhjoaa.Wir
open Go.ChangeShapes Go.WideShapes Go.ChangeAt Go.RowKit Cmd Bat

section
variable {H : Type} {enc : TypeId × Value → H} {W : World} {base : Nat} {spare : Nat → Bool} {held : Bool}
set_option maxRecDepth 100000 in
theorem open_u8 {r : Reach} {b0 : Nat} {v : Value} {d : DataW H} {p : List MemPlace} (hv : Value.okWide Try.prog W r b0 5 v) (h : DataW.Trod enc Try.prog W base spare held 5 v d p) : ∃ n : Nat, v = .int .u8 (n : Int) ∧ n < 256 := by
  obtain ⟨a, rfl, -, -, hw⟩ := open_int Try.underlying5 hv h
  have : 0 ≤ a ∧ a ≤ 255 := by simpa [Lit.wf, IntKind.min, IntKind.max, IntKind.signed, IntKind.bits] using hw
  exact ⟨a.toNat, by rw [Int.toNat_of_nonneg this.1], by omega⟩
set_option maxRecDepth 100000 in
theorem open_u64 {r : Reach} {b0 : Nat} {v : Value} {d : DataW H} {p : List MemPlace} (hv : Value.okWide Try.prog W r b0 94 v) (h : DataW.Trod enc Try.prog W base spare held 94 v d p) : ∃ n : Nat, v = .int .u64 (n : Int) ∧ n < 18446744073709551616 := by
  obtain ⟨a, rfl, -, -, hw⟩ := open_int Try.underlying94 hv h
  have : 0 ≤ a ∧ a ≤ 18446744073709551615 := by simpa [Lit.wf, IntKind.min, IntKind.max, IntKind.signed, IntKind.bits] using hw
  exact ⟨a.toNat, by rw [Int.toNat_of_nonneg this.1], by omega⟩
set_option maxRecDepth 100000 in
theorem open_str {r : Reach} {b0 : Nat} {v : Value} {d : DataW H} {p : List MemPlace} (hv : Value.okWide Try.prog W r b0 9 v) (h : DataW.Trod enc Try.prog W base spare held 9 v d p) : ∃ l : List UInt8, v = .string (str l) := by
  obtain ⟨s, rfl, -, -, -⟩ := Go.ChangeMaps.open_string Try.underlying9 hv h
  exact ⟨s.data.toList, rfl⟩
set_option maxRecDepth 100000 in
theorem byte_reads {n : Nat} {cs : List Value} {y : DataW H × List MemPlace} (h : DataW.trod enc Try.prog W base spare held n 5 cs = some y) : ∃ c : UInt8, cs = [.int .u8 (c.toNat : Int)] := by
  obtain ⟨a, e, -, hw⟩ := DataW.trod_int Try.underlying5 h
  have : 0 ≤ a ∧ a ≤ 255 := by simpa [Lit.wf, IntKind.min, IntKind.max, IntKind.signed, IntKind.bits] using hw
  exact ⟨UInt8.ofNat a.toNat, by rw [e, ofNat_toNat, show ((a.toNat % 256 : Nat) : Int) = a by omega]⟩
set_option maxRecDepth 100000 in
theorem open_bytes {r : Reach} {b0 : Nat} {v : Value} {d : DataW H} {p : List MemPlace} (hv : Value.okWide Try.prog W r b0 97 v) (h : DataW.Trod enc Try.prog W base spare held 97 v d p) : ∃ zs : List UInt8, layB.Row W v zs := by
  obtain ⟨a, len, cap, rfl⟩ := okWide_slice Try.underlying97 hv
  obtain ⟨h1, h2, h4⟩ := open_rowsD Try.underlying97 (c := 1) (by kernel_rfl) (by decide) h (fun cs _ => ∃ c : UInt8, cs = [.int .u8 (c.toNat : Int)]) fun n cs y h => byte_reads h
  unfold maxLen at h2
  by_cases hz : len = 0
  · subst hz
    exact ⟨[], a, cap, rfl, h1, by omega, fun h => absurd rfl h⟩
  · obtain ⟨b, off, rfl, hlt, elems, rest, -, hall⟩ := h4 (by omega)
    obtain ⟨zs, hl, hz⟩ := choose_list (0 : UInt8) len (fun i x => W.cell? ⟨b, off + i, none⟩ = some (.int .u8 (x.toNat : Int))) fun i hi => by
      obtain ⟨cs, D, -, ⟨c, rfl⟩, hc⟩ := hall i hi
      exact ⟨c, by have := hc 0 (by decide); simpa using this⟩
    exact ⟨zs, some ⟨b, off, none⟩, cap, by rw [hl], by rw [hl]; exact h1, by omega, fun _ => ⟨b, off, rfl, hlt, fun j hj => hz j (by omega)⟩⟩
end
end Go.Proofs.Ytdnabghhjlhjoaa.Wir
