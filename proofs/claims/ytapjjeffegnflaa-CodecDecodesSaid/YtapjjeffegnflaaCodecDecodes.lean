/- Any bytes, also with a digest that is right, are a record's, or what is wrong is told: the given statement on CodecDecodes. No condition: every input. -/
import Derived.Test.YtapjjeffegnflaaRows
import Derived.Test.YtapjjeffegnflaaCodU
import Derived.Test.YtapjjeffegnflaaWirRow
import Derived.ChangeSame
import Derived.ChangeAlike
import Derived.JoinedOf
import Derived.JoinedAt
import Derived.JoinedStill
import Derived.RowKit
import Derived.ProofKit
namespace Go.Proofs.Ytapjjeffegnflaa
open Go.ChangeShapes Go.WideShapes Go.ChangeAt Go.RowKit Cmd Bat Ids Rec Wir Dig Cod
set_option linter.unusedVariables false

namespace lawCodecDecodes
theorem codecDecodes_any (v : Value) (zs : List UInt8) (sealed : Bool) (w : World) (h : layB.Row w v zs) : Calls Try.prog 4 #[v, .bool sealed] w (RetBelow (.bool true) w) := by
  by_cases hl : zs.length ≤ 2000
  · cases sealed with
    | false =>
      cases hd : dec zs with
      | error k => exact decodes_plain_no v zs w h hl k hd
      | ok r => obtain ⟨a, b, q, ds, cs'⟩ := r; exact decodes_plain_ok v zs w h hl a b q ds cs' hd
    | true =>
      cases hd : dec (sealt zs) with
      | error k => exact decodes_sealed_no v zs w h hl k hd
      | ok r => obtain ⟨a, b, q, ds, cs'⟩ := r; exact decodes_sealed_ok v zs w h hl a b q ds cs' hd
  · exact decodes_many v zs sealed w h (by omega)

set_option maxRecDepth 100000 in
theorem lifted (os : Os) (started : os.Started) (H : Type) (enc : TypeId × Value → H) :
    ReturnsInHanded {} Try.checked os 4 .any (Rows.codecDecodesSpec.pre6 enc Try.prog Try.f4 Rows.codecDecodesRow.domain false) (Rows.codecDecodesSpec.post enc Try.prog Try.f4 false true false false) := by
  refine returnsInHanded_of_change (C := Try.checked) own started (by kernel_rfl) Try.func4
    (ChangeSpec.witness6 (enc := enc) (C := Try.checked) false ⟨#[], #[.slice none 0 0, .bool false], []⟩ 8 (by kernel_rfl) (by kernel_rfl) (by kernel_rfl) (by kernel_rfl)) ?_
  intro W base args ds gs before hval0 hW hcnd _
  have hval : ∀ (j : Nat) t v, Try.f4.params[j]? = some t → args[j]? = some v → Value.okWide Try.prog W .any base t v := hval0
  have hW' := hW
  obtain ⟨p, q, hA0, hV, rfl, hfz, hnd⟩ := hW
  have hA : DataW.TrodAll enc Try.prog W 0 (fun _ => true) true Try.f4.params.toList args.toList ds p := hA0
  rw [Try.params4] at hA hval
  have hA2 := hA
  obtain ⟨v0, v1, d0, d1, p0, p1, rfl, rfl, rfl, h0, h1⟩ := trodAll_two hA
  obtain ⟨rfl, rfl⟩ := trodVars_none hV
  obtain ⟨z0, hrow0⟩ := open_bytes (hval 0 29 v0 rfl rfl) h0
  obtain ⟨z1, rfl, -⟩ := Go.RowKit.open_bool Try.underlying4 (hval 1 4 v1 rfl rfl) h1
  have hlt : ∀ x ∈ p0 ++ p1, x.block < W.heap.size := fun x hx => hW'.lt x (by simpa using hx)
  clear hA0 hval0
  simp only [List.append_nil] at hW'
  refine (codecDecodes_any v0 z0 z1 W hrow0).mono fun e W' ⟨he, hb⟩ => ?_
  subst he
  have e1 : (Rows.codecDecodesSpec.fn H ([d0, d1] ++ [])) = { results := [.lit (.bool true)], args := [d0, d1] } := rfl
  refine ⟨_, rfl, _, _, _, [], p0 ++ p1, [], hW', ?_, ?_, ?_, hb.frame _, fun h => by cases h⟩
  · rw [e1]; exact trodAll_mk1 (shut_bool Try.underlying4 _)
  · rw [e1]; exact trodAll_stays laidOut hb _ _ _ _ (fun t ht => by simp at ht; rcases ht with rfl | rfl <;> exact ⟨by kernel_rfl, of_decide_eq_true (by kernel_rfl)⟩) hA2 hlt
  · rw [e1]; rfl

theorem holds : Rows.CodecDecodesSaid :=
  OpenClaim.holds_of_wide 4 Try.f4 rfl rfl rfl rfl rfl rfl rfl ⟨rfl, rfl, rfl, rfl, rfl⟩ rfl rfl rfl rfl rfl (by kernel_rfl) Try.func4 (by kernel_rfl)
    (of_decide_eq_true (by kernel_rfl)) (by unfold Func.isWrapper; rw [if_neg (of_decide_eq_false (by kernel_rfl))]; exact ⟨rfl, rfl⟩)
    (fun os started H enc _ => lifted os started H enc)
end lawCodecDecodes
end Go.Proofs.Ytapjjeffegnflaa
