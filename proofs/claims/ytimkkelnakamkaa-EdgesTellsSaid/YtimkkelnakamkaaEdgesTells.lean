/- Any records are a graph, or what is wrong first is told; what it has, what is missing, and who depends on any, is told: the given statement on EdgesTells. No condition: every input. -/
import Derived.Test.YtimkkelnakamkaaRows
import Derived.Test.YtimkkelnakamkaaGraH
import Derived.Test.YtimkkelnakamkaaGraN
import Derived.Test.YtimkkelnakamkaaOpenG
import Derived.Test.YtimkkelnakamkaaStay
import Derived.ChangeSame
import Derived.ChangeAlike
import Derived.JoinedOf
import Derived.JoinedAt
import Derived.JoinedStill
import Derived.RowKit
import Derived.ProofKit
namespace Go.Proofs.Ytimkkelnakamkaa
open Go.ChangeShapes Go.WideShapes Go.ChangeAt Go.RowKit Cmd Bat Ids Rec Wid Gra
set_option linter.unusedVariables false

namespace lawEdgesTells
theorem edgesTells_any (v : Value) (rs : List Rcd) (a b : Int) (w : World) (h : layG.Row w v rs) (hw : ∀ x ∈ rs, wfG x) (hab : wfId (a, b)) : Calls Try.prog 3 #[v, .agg #[.int .i64 a, .int .i64 b]] w (RetBelow (.bool true) w) := by
  cases hl : fewG rs 40 with
  | false => exact etells_long graphs v rs a b w h hl
  | true =>
    by_cases he : gErr rs = 0
    · exact etells_ok graphs v rs a b hab w h hw hl he
    · exact etells_bad graphs v rs a b w h hw hl he

set_option maxRecDepth 100000 in
theorem lifted (os : Os) (started : os.Started) (H : Type) (enc : TypeId × Value → H) :
    ReturnsInHanded {} Try.checked os 3 .any (Rows.edgesTellsSpec.pre6 enc Try.prog Try.f3 Rows.edgesTellsRow.domain false) (Rows.edgesTellsSpec.post enc Try.prog Try.f3 false true false false) := by
  refine returnsInHanded_of_change_sized (C := Try.checked) own started (by kernel_rfl) Try.func3
    (ChangeSpec.witness6 (enc := enc) (C := Try.checked) false ⟨#[], #[.slice none 0 0, .agg #[.int .i64 0, .int .i64 0]], []⟩ 8 (by kernel_rfl) (by kernel_rfl) (by kernel_rfl) (by kernel_rfl)) ?_
  intro W base args ds gs before hval0 hW hcnd hsz0 _
  have hval : ∀ (j : Nat) t v, Try.f3.params[j]? = some t → args[j]? = some v → Value.okWide Try.prog W .any base t v := hval0
  have hsz : (DataW.weightsEach Try.prog (Try.f3.params.toList ++ Rows.edgesTellsSpec.plain.varTypes Try.prog) (ds ++ gs)).all (· ≤ reachBytes) = true := hsz0
  have hW' := hW
  obtain ⟨p, q, hA0, hV, rfl, hfz, hnd⟩ := hW
  have hA : DataW.TrodAll enc Try.prog W 0 (fun _ => true) true Try.f3.params.toList args.toList ds p := hA0
  rw [Try.params3] at hA hval hsz
  have hA2 := hA
  obtain ⟨v0, v1, d0, d1, p0, p1, rfl, rfl, rfl, h0, h1⟩ := trodAll_two hA
  obtain ⟨rfl, rfl⟩ := trodVars_none hV
  obtain ⟨rs0, rg0, wg0⟩ := open_recs (hval 0 22 v0 rfl rfl) h0 (sized_all hsz (j := 0) rfl rfl)
  obtain ⟨a1, b1, rfl, wi1⟩ := open_idl (hval 1 24 v1 rfl rfl) h1
  have hlt : ∀ x ∈ p0 ++ p1, x.block < W.heap.size := fun x hx => hW'.lt x (by simpa using hx)
  clear hA0 hval0 hsz0
  simp only [List.append_nil] at hW'
  refine (edgesTells_any v0 rs0 a1 b1 W rg0 wg0 wi1).mono fun e W' ⟨he, hb⟩ => ?_
  subst he
  have e1 : (Rows.edgesTellsSpec.fn H ([d0, d1] ++ [])) = { results := [.lit (.bool true)], args := [d0, d1] } := rfl
  refine ⟨_, rfl, _, _, _, [], p0 ++ p1, [], hW', ?_, ?_, ?_, hb.frame _, fun h => by cases h⟩
  · rw [e1]; exact trodAll_mk1 (shut_bool Try.underlying4 _)
  · rw [e1]; exact trodAll_stays laidOut hb _ _ _ _ (fun t ht => by simp at ht; rcases ht with rfl | rfl <;> exact ⟨by kernel_rfl, of_decide_eq_true (by kernel_rfl)⟩) hA2 hlt
  · rw [e1]; rfl

theorem holds : Rows.EdgesTellsSaid :=
  OpenClaim.holds_of_wide 3 Try.f3 rfl rfl rfl rfl rfl rfl rfl ⟨rfl, rfl, rfl, rfl, rfl⟩ rfl rfl rfl rfl rfl (by kernel_rfl) Try.func3 (by kernel_rfl)
    (of_decide_eq_true (by kernel_rfl)) (by unfold Func.isWrapper; rw [if_neg (of_decide_eq_false (by kernel_rfl))]; exact ⟨rfl, rfl⟩)
    (fun os started H enc _ => lifted os started H enc)
end lawEdgesTells
end Go.Proofs.Ytimkkelnakamkaa
