/- Any record's bytes are as they must be, and decoded as the same; or it may not be: the given statement on CodecEncodes. No condition: every input. -/
import Derived.Test.YtapjjeffegnflaaRows
import Derived.Test.YtapjjeffegnflaaCodT
import Derived.Test.YtapjjeffegnflaaOpenC
import Derived.ChangeSame
import Derived.ChangeAlike
import Derived.JoinedOf
import Derived.JoinedAt
import Derived.JoinedStill
import Derived.RowKit
import Derived.ProofKit
namespace Go.Proofs.Ytapjjeffegnflaa
open Go.ChangeShapes Go.WideShapes Go.ChangeAt Go.RowKit Cmd Bat Ids Rec Wir Dig Cod
set_option linter.unusedVariables false

namespace lawCodecEncodes
theorem codecEncodes_any (a b q : Int) (v u : Value) (ds : List Idn) (cs : List Cmdn) (w : World) (h : RowAt w v ds) (g : layC.Row w u cs) (hw : ∀ x ∈ cs, wfC x) : Calls Try.prog 3 #[.agg #[.int .i64 a, .int .i64 b, .int .i64 q, v, u]] w (RetBelow (.bool true) w) := by
  by_cases h1 : 100 < ds.length
  · exact encodes_many a b q v u ds cs w h g hw (.inl h1)
  · by_cases h2 : 100 < cs.length
    · exact encodes_many a b q v u ds cs w h g hw (.inr ⟨h1, h2⟩)
    · by_cases h0 : rErr a b q ds cs = 0
      · exact encodes_ok a b q v u ds cs w h g hw h1 h2 h0
      · exact encodes_no a b q v u ds cs w h g hw h1 h2 h0

set_option maxRecDepth 100000 in
theorem lifted (os : Os) (started : os.Started) (H : Type) (enc : TypeId × Value → H) :
    ReturnsInHanded {} Try.checked os 3 .any (Rows.codecEncodesSpec.pre6 enc Try.prog Try.f3 Rows.codecEncodesRow.domain false) (Rows.codecEncodesSpec.post enc Try.prog Try.f3 false true false false) := by
  refine returnsInHanded_of_change_sized (C := Try.checked) own started (by kernel_rfl) Try.func3
    (ChangeSpec.witness6 (enc := enc) (C := Try.checked) false ⟨#[], #[.agg #[.int .i64 0, .int .i64 0, .int .i64 0, .slice none 0 0, .slice none 0 0]], []⟩ 8 (by kernel_rfl) (by kernel_rfl) (by kernel_rfl) (by kernel_rfl)) ?_
  intro W base args ds gs before hval0 hW hcnd hsz0 _
  have hval : ∀ (j : Nat) t v, Try.f3.params[j]? = some t → args[j]? = some v → Value.okWide Try.prog W .any base t v := hval0
  have hsz : (DataW.weightsEach Try.prog (Try.f3.params.toList ++ Rows.codecEncodesSpec.plain.varTypes Try.prog) (ds ++ gs)).all (· ≤ reachBytes) = true := hsz0
  have hW' := hW
  obtain ⟨p, q, hA0, hV, rfl, hfz, hnd⟩ := hW
  have hA : DataW.TrodAll enc Try.prog W 0 (fun _ => true) true Try.f3.params.toList args.toList ds p := hA0
  rw [Try.params3] at hA hval hsz
  have hA2 := hA
  obtain ⟨v0, d0, rfl, rfl, h0⟩ := trodAll_one hA
  obtain ⟨rfl, rfl⟩ := trodVars_none hV
  obtain ⟨a0, b0, q0, s0, t0, ds0, cs0, rfl, ri0, rc0, hw0⟩ := open_rec (hval 0 27 v0 rfl rfl) h0 (sized_all hsz (j := 0) rfl rfl)
  have hlt : ∀ x ∈ p, x.block < W.heap.size := fun x hx => hW'.lt x (by simpa using hx)
  clear hA0 hval0 hsz0
  simp only [List.append_nil] at hW'
  refine (codecEncodes_any a0 b0 q0 s0 t0 ds0 cs0 W ri0 rc0 hw0).mono fun e W' ⟨he, hb⟩ => ?_
  subst he
  have e1 : (Rows.codecEncodesSpec.fn H ([d0] ++ [])) = { results := [.lit (.bool true)], args := [d0] } := rfl
  refine ⟨_, rfl, _, _, _, [], p, [], hW', ?_, ?_, ?_, hb.frame _, fun h => by cases h⟩
  · rw [e1]; exact trodAll_mk1 (shut_bool Try.underlying4 _)
  · rw [e1]; exact trodAll_stays laidOut hb _ _ _ _ (fun t ht => by simp at ht; rcases ht with rfl <;> exact ⟨by kernel_rfl, of_decide_eq_true (by kernel_rfl)⟩) hA2 hlt
  · rw [e1]; rfl

theorem holds : Rows.CodecEncodesSaid :=
  OpenClaim.holds_of_wide 3 Try.f3 rfl rfl rfl rfl rfl rfl rfl ⟨rfl, rfl, rfl, rfl, rfl⟩ rfl rfl rfl rfl rfl (by kernel_rfl) Try.func3 (by kernel_rfl)
    (of_decide_eq_true (by kernel_rfl)) (by unfold Func.isWrapper; rw [if_neg (of_decide_eq_false (by kernel_rfl))]; exact ⟨rfl, rfl⟩)
    (fun os started H enc _ => lifted os started H enc)
end lawCodecEncodes
end Go.Proofs.Ytapjjeffegnflaa
