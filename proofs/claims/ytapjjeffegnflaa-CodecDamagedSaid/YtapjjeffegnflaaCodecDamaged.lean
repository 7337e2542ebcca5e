/- With one byte of any record's changed there is no record: the given statement on CodecDamaged. No condition: every input. -/
import Derived.Test.YtapjjeffegnflaaRows
import Derived.Test.YtapjjeffegnflaaCodR
import Derived.Test.YtapjjeffegnflaaWirRow
import Derived.Test.YtapjjeffegnflaaOpenC
import Derived.ChangeSame
import Derived.ChangeAlike
import Derived.JoinedOf
import Derived.JoinedAt
import Derived.JoinedStill
import Derived.RowKit
import Derived.ProofKit
namespace Go.Proofs.Ytapjjeffegnflaa
open Go.ChangeShapes Go.WideShapes Go.ChangeAt Go.RowKit Cmd Bat Ids Rec Wir Dig Cod
set_option linter.unusedVariables false

namespace lawCodecDamaged
theorem codecDamaged_any (a b q : Int) (v u : Value) (ds : List Idn) (cs : List Cmdn) (at' by' : Nat) (w : World) (h : RowAt w v ds) (g : layC.Row w u cs) (hw : ∀ x ∈ cs, wfC x) (hat : at' < 65536) (hby : by' < 256) : Calls Try.prog 5 #[.agg #[.int .i64 a, .int .i64 b, .int .i64 q, v, u], .int .u16 at', .int .u8 by'] w (RetBelow (.bool true) w) := by
  by_cases h0 : rErr a b q ds cs = 0
  · exact damaged_ok a b q v u ds cs at' by' w h g hw h0 hat hby
  · exact damaged_no a b q v u ds cs at' by' w h g hw h0

set_option maxRecDepth 100000 in
theorem lifted (os : Os) (started : os.Started) (H : Type) (enc : TypeId × Value → H) :
    ReturnsInHanded {} Try.checked os 5 .any (Rows.codecDamagedSpec.pre6 enc Try.prog Try.f5 Rows.codecDamagedRow.domain false) (Rows.codecDamagedSpec.post enc Try.prog Try.f5 false true false false) := by
  refine returnsInHanded_of_change_sized (C := Try.checked) own started (by kernel_rfl) Try.func5
    (ChangeSpec.witness6 (enc := enc) (C := Try.checked) false ⟨#[], #[.agg #[.int .i64 0, .int .i64 0, .int .i64 0, .slice none 0 0, .slice none 0 0], .int .u16 0, .int .u8 0], []⟩ 8 (by kernel_rfl) (by kernel_rfl) (by kernel_rfl) (by kernel_rfl)) ?_
  intro W base args ds gs before hval0 hW hcnd hsz0 _
  have hval : ∀ (j : Nat) t v, Try.f5.params[j]? = some t → args[j]? = some v → Value.okWide Try.prog W .any base t v := hval0
  have hsz : (DataW.weightsEach Try.prog (Try.f5.params.toList ++ Rows.codecDamagedSpec.plain.varTypes Try.prog) (ds ++ gs)).all (· ≤ reachBytes) = true := hsz0
  have hW' := hW
  obtain ⟨p, q, hA0, hV, rfl, hfz, hnd⟩ := hW
  have hA : DataW.TrodAll enc Try.prog W 0 (fun _ => true) true Try.f5.params.toList args.toList ds p := hA0
  rw [Try.params5] at hA hval hsz
  have hA2 := hA
  obtain ⟨v0, v1, v2, d0, d1, d2, p0, p1, p2, rfl, rfl, rfl, h0, h1, h2⟩ := trodAll_three hA
  obtain ⟨rfl, rfl⟩ := trodVars_none hV
  obtain ⟨a0, b0, q0, s0, t0, ds0, cs0, rfl, ri0, rc0, hw0⟩ := open_rec (hval 0 27 v0 rfl rfl) h0 (sized_all hsz (j := 0) rfl rfl)
  obtain ⟨z1, rfl, hb1⟩ := open_u16 (hval 1 44 v1 rfl rfl) h1
  obtain ⟨z2, rfl, hb2⟩ := open_u8 (hval 2 5 v2 rfl rfl) h2
  have hlt : ∀ x ∈ p0 ++ p1 ++ p2, x.block < W.heap.size := fun x hx => hW'.lt x (by simpa using hx)
  clear hA0 hval0 hsz0
  simp only [List.append_nil] at hW'
  refine (codecDamaged_any a0 b0 q0 s0 t0 ds0 cs0 z1 z2 W ri0 rc0 hw0 hb1 hb2).mono fun e W' ⟨he, hb⟩ => ?_
  subst he
  have e1 : (Rows.codecDamagedSpec.fn H ([d0, d1, d2] ++ [])) = { results := [.lit (.bool true)], args := [d0, d1, d2] } := rfl
  refine ⟨_, rfl, _, _, _, [], p0 ++ p1 ++ p2, [], hW', ?_, ?_, ?_, hb.frame _, fun h => by cases h⟩
  · rw [e1]; exact trodAll_mk1 (shut_bool Try.underlying4 _)
  · rw [e1]; exact trodAll_stays laidOut hb _ _ _ _ (fun t ht => by simp at ht; rcases ht with rfl | rfl | rfl <;> exact ⟨by kernel_rfl, of_decide_eq_true (by kernel_rfl)⟩) hA2 hlt
  · rw [e1]; rfl

theorem holds : Rows.CodecDamagedSaid :=
  OpenClaim.holds_of_wide 5 Try.f5 rfl rfl rfl rfl rfl rfl rfl ⟨rfl, rfl, rfl, rfl, rfl⟩ rfl rfl rfl rfl rfl (by kernel_rfl) Try.func5 (by kernel_rfl)
    (of_decide_eq_true (by kernel_rfl)) (by unfold Func.isWrapper; rw [if_neg (of_decide_eq_false (by kernel_rfl))]; exact ⟨rfl, rfl⟩)
    (fun os started H enc _ => lifted os started H enc)
end lawCodecDamaged
end Go.Proofs.Ytapjjeffegnflaa
