/- Of any graph all closed records are told; they are whole, and a list is whole just if it is; none that is has another one: the given statement on ReachCloses. No condition: every input. -/
import Derived.Test.YtnekajpoheipiaaGreatRows
import Derived.Test.YtnekajpoheipiaaGreatReaT
import Derived.Test.YtnekajpoheipiaaGreatReaN
import Derived.Test.YtnekajpoheipiaaGreatOpenG
import Derived.Test.YtnekajpoheipiaaGreatStay
import Derived.ChangeSame
import Derived.ChangeAlike
import Derived.JoinedOf
import Derived.JoinedAt
import Derived.JoinedStill
import Derived.RowKit
import Derived.ProofKit
namespace Go.Proofs.YtnekajpoheipiaaGreat
open Go.ChangeShapes Go.WideShapes Go.ChangeAt Go.RowKit Cmd Bat Ids Rec Wid Gra Rea
set_option linter.unusedVariables false

namespace lawReachCloses
theorem reachCloses_any (v : Value) (rs : List Rcd) (u : Value) (l : List Idn) (w : World) (h : layG.Row w v rs) (hw : ∀ x ∈ rs, wfG x) (hs : RowAt w u l) (hsw : ∀ x ∈ l, wfId x) : Calls Tryz.prog 4 #[v, u] w (RetBelow (.bool true) w) := by
  obtain ⟨p, cap, rfl, -, -⟩ := row_slice hs
  have CP := fun w => rplay_any graphs reaches w
  cases hl : fewG rs 20 with
  | false => exact rclose_few CP v _ rs w h hl
  | true =>
    by_cases hm : 20 < l.length
    · exact rclose_long CP v p l.length cap rs w h hl hm
    · by_cases he : gErr rs = 0
      · exact rclose_ok graphs reaches v p cap rs l w h hw hs hsw hl hm he
      · exact rclose_bad CP v p l.length cap rs w h hw hl hm he

set_option maxRecDepth 100000 in
theorem lifted (os : Os) (started : os.Started) (H : Type) (enc : TypeId × Value → H) :
    ReturnsInHanded {} Tryz.checked os 4 .any (Rows.reachClosesSpec.pre6 enc Tryz.prog Tryz.f4 Rows.reachClosesRow.domain false) (Rows.reachClosesSpec.post enc Tryz.prog Tryz.f4 false true false false) := by
  refine returnsInHanded_of_change_sized (C := Tryz.checked) own started (by kernel_rfl) Tryz.func4
    (ChangeSpec.witness6 (enc := enc) (C := Tryz.checked) false ⟨#[], #[.slice none 0 0, .slice none 0 0], []⟩ 8 (by kernel_rfl) (by kernel_rfl) (by kernel_rfl) (by kernel_rfl)) ?_
  intro W base args ds gs before hval0 hW hcnd hsz0 _
  have hval : ∀ (j : Nat) t v, Tryz.f4.params[j]? = some t → args[j]? = some v → Value.okWide Tryz.prog W .any base t v := hval0
  have hsz : (DataW.weightsEach Tryz.prog (Tryz.f4.params.toList ++ Rows.reachClosesSpec.plain.varTypes Tryz.prog) (ds ++ gs)).all (· ≤ reachBytes) = true := hsz0
  have hW' := hW
  obtain ⟨p, q, hA0, hV, rfl, hfz, hnd⟩ := hW
  have hA : DataW.TrodAll enc Tryz.prog W 0 (fun _ => true) true Tryz.f4.params.toList args.toList ds p := hA0
  rw [Tryz.params4] at hA hval hsz
  have hA2 := hA
  obtain ⟨v0, v1, d0, d1, p0, p1, rfl, rfl, rfl, h0, h1⟩ := trodAll_two hA
  obtain ⟨rfl, rfl⟩ := trodVars_none hV
  obtain ⟨rs0, rg0, wg0⟩ := open_recs (hval 0 22 v0 rfl rfl) h0 (sized_all hsz (j := 0) rfl rfl)
  obtain ⟨zs1, rz1, wz1⟩ := open_list (hval 1 23 v1 rfl rfl) h1
  have hlt : ∀ x ∈ p0 ++ p1, x.block < W.heap.size := fun x hx => hW'.lt x (by simpa using hx)
  clear hA0 hval0 hsz0
  simp only [List.append_nil] at hW'
  refine (reachCloses_any v0 rs0 v1 zs1 W rg0 wg0 rz1 wz1).mono fun e W' ⟨he, hb⟩ => ?_
  subst he
  have e1 : (Rows.reachClosesSpec.fn H ([d0, d1] ++ [])) = { results := [.lit (.bool true)], args := [d0, d1] } := rfl
  refine ⟨_, rfl, _, _, _, [], p0 ++ p1, [], hW', ?_, ?_, ?_, hb.frame _, fun h => by cases h⟩
  · rw [e1]; exact trodAll_mk1 (shut_bool Tryz.underlying4 _)
  · rw [e1]; exact trodAll_stays laidOut hb _ _ _ _ (fun t ht => by simp at ht; rcases ht with rfl | rfl <;> exact ⟨by kernel_rfl, of_decide_eq_true (by kernel_rfl)⟩) hA2 hlt
  · rw [e1]; rfl

theorem holds : Rows.ReachClosesSaid :=
  OpenClaim.holds_of_wide 4 Tryz.f4 rfl rfl rfl rfl rfl rfl rfl ⟨rfl, rfl, rfl, rfl, rfl⟩ rfl rfl rfl rfl rfl (by kernel_rfl) Tryz.func4 (by kernel_rfl)
    (of_decide_eq_true (by kernel_rfl)) (by unfold Func.isWrapper; rw [if_neg (of_decide_eq_false (by kernel_rfl))]; exact ⟨rfl, rfl⟩)
    (fun os started H enc _ => lifted os started H enc)
end lawReachCloses
end Go.Proofs.YtnekajpoheipiaaGreat
