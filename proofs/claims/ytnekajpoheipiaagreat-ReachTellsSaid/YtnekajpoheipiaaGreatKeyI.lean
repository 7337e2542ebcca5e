/- Ids as keys of maps: what a key reads as; maps with any elements. No condition but those in each statement. -/
import Derived.Test.YtnekajpoheipiaaGreatIdA
import Derived.Test.YtnekajpoheipiaaGreatMapG
import Derived.Maps.OwnSet
import Derived.Maps.RangeWalk
import Derived.DeepKeys4
namespace Go.Proofs.YtnekajpoheipiaaGreat.Ids
open Go.RowKit Go.Maps Go.WideElems Go.ChangeMaps
set_option linter.unusedVariables false

/-! ### Keys -/
def idv (x : Idn) : Value := .agg #[.int .i64 x.1, .int .i64 x.2]
def litId (x : Idn) : Lit := .string (keyBytes [.int .i64 x.1, .int .i64 x.2])
set_option maxRecDepth 100000 in
theorem wide_id : (match Tryz.prog.underlying 25 with | some (.array _ _) | some (.struct _) => true | _ => false) = true := by rw [Tryz.underlying25]
set_option maxRecDepth 100000 in
theorem law_id : Keyed Tryz.prog 25 :=
  Keyed.of_law (deep_law_laid (by kernel_rfl) (m := 3) (by omega) (of_decide_eq_true (by kernel_rfl)) (by kernel_rfl) wide_id)
set_option maxRecDepth 100000 in
theorem keyType_id : Tryz.prog.keyType 25 = true := by kernel_rfl
set_option maxRecDepth 100000 in
theorem cells_id : Tryz.prog.cellsOf 25 = 2 := by kernel_rfl
set_option maxRecDepth 100000 in
theorem cells_int : Tryz.prog.cellsOf 3 = 1 := by kernel_rfl
set_option maxRecDepth 100000 in
theorem size_types : ∃ n, Tryz.prog.types.size + 1 = n + 2 := ⟨Tryz.prog.types.size - 1, by have : 1 ≤ Tryz.prog.types.size := of_decide_eq_true (by kernel_rfl); omega⟩
set_option maxRecDepth 100000 in
theorem key_id {x : Idn} (h : wfId x) : keyOf Tryz.prog 25 (idv x) = some (litId x) := by
  obtain ⟨n, hn⟩ := size_types
  have w1 := wf_i64.2 h.1
  have w2 := wf_i64.2 h.2
  unfold keyOf
  rw [Tryz.underlying25, hn]
  simp [keyType_id, idv, Value.formed, Tryz.underlying25, cells_id, cells_int, Value.cells, Program.keyLits, Tryz.underlying3, w1, w2, litId]
set_option maxRecDepth 100000 in
theorem lits_int {d : Nat} {c : Value} {ls : List Lit} (h : Tryz.prog.keyLits (d + 1) 3 [c] = some ls) : ∃ n, c = .int .i64 n ∧ wfI n ∧ ls = [.int .i64 n] := by
  cases c <;> simp [Program.keyLits, Tryz.underlying3] at h
  obtain ⟨⟨rfl, hw⟩, rfl⟩ := h
  exact ⟨_, rfl, wf_i64.1 hw, rfl⟩
set_option maxRecDepth 100000 in
theorem lits_id (n : Nat) (c0 c1 : Value) : Tryz.prog.keyLits (n + 2) 25 [c0, c1] = (Tryz.prog.keyLits (n + 1) 3 [c0]).bind fun a => (Tryz.prog.keyLits (n + 1) 3 [c1]).bind fun b => some (a ++ b) := by
  conv => lhs; unfold Program.keyLits
  simp [Tryz.underlying25, cells_id, cells_int]
  cases Tryz.prog.keyLits (n + 1) 3 [c0] <;> cases Tryz.prog.keyLits (n + 1) 3 [c1] <;> simp
set_option maxRecDepth 100000 in
theorem key_inv {v : Value} {l : Lit} (h : keyOf Tryz.prog 25 v = some l) : ∃ x, wfId x ∧ v = idv x ∧ l = litId x := by
  obtain ⟨n, hn⟩ := size_types
  unfold keyOf at h
  rw [Tryz.underlying25, hn] at h
  simp only [keyType_id, Bool.true_and] at h
  split at h
  · rename_i hf
    rw [Option.map_eq_some_iff] at h
    obtain ⟨ls, h1, rfl⟩ := h
    cases v <;> simp [Value.formed, Tryz.underlying25, cells_id] at hf
    rename_i cs
    obtain ⟨l⟩ := cs
    match l, hf with
    | [c0, c1], _ =>
      have h2 : Tryz.prog.keyLits (n + 2) 25 [c0, c1] = some ls := h1
      rw [lits_id, Option.bind_eq_some_iff] at h2
      obtain ⟨la, ha, h2⟩ := h2
      rw [Option.bind_eq_some_iff] at h2
      obtain ⟨lb, hb, h2⟩ := h2
      obtain ⟨x, rfl, hx, rfl⟩ := lits_int ha
      obtain ⟨y, rfl, hy, rfl⟩ := lits_int hb
      cases h2
      exact ⟨(x, y), ⟨hx, hy⟩, rfl, rfl⟩
  · cases h
set_option maxRecDepth 100000 in
theorem litId_inj {x y : Idn} (hx : wfId x) (hy : wfId y) (h : litId x = litId y) : x = y := by
  have := law_id.inj (key_id hx) (h ▸ key_id hy)
  unfold idv at this
  simp at this
  exact Prod.ext this.1 this.2
set_option maxRecDepth 100000 in
theorem lit_key (x : Idn) : WideAt.IsKeyLit (litId x) := trivial

end Go.Proofs.YtnekajpoheipiaaGreat.Ids
namespace Go.Proofs.YtnekajpoheipiaaGreat.Mpg
open Go.RowKit Go.Maps Go.WideElems Go.ChangeMaps
theorem idv_inj {x y : Ids.Idn} (h : Ids.idv x = Ids.idv y) : x = y := by
  unfold Ids.idv at h
  simp at h
  exact Prod.ext h.1 h.2
def kyI : Ky Ids.Idn 25 := ⟨Ids.idv, Ids.litId, Ids.wfId, Ids.law_id, fun h => Ids.key_id h, fun h => Ids.key_inv h, fun hx hy h => Ids.litId_inj hx hy h, fun h => idv_inj h, fun _ => trivial⟩
end Go.Proofs.YtnekajpoheipiaaGreat.Mpg
