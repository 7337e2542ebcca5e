/- Premise told: the given statement on PremiseTells. No condition: every input. -/
import Derived.Test.YtomidcbpnaajeaaGreatRows
import Derived.Test.YtomidcbpnaajeaaGreatPreK
import Derived.Test.YtomidcbpnaajeaaGreatPreH
import Derived.Test.YtomidcbpnaajeaaGreatPreN
import Derived.Test.YtomidcbpnaajeaaGreatOpenG
import Derived.Test.YtomidcbpnaajeaaGreatOpenV
import Derived.Test.YtomidcbpnaajeaaGreatStay
import Derived.ChangeSame
import Derived.ChangeAlike
import Derived.JoinedOf
import Derived.JoinedAt
import Derived.JoinedStill
import Derived.RowKit
import Derived.ProofKit
namespace Go.Proofs.YtomidcbpnaajeaaGreat
open Go.ChangeShapes Go.WideShapes Go.ChangeAt Go.RowKit Cmd Bat Ids Rec Wid Gra Cps Vau Pre
set_option linter.unusedVariables false

namespace lawPremiseTells
theorem premiseTells_any (v : Value) (rs : List Rcd) (u : Value) (xs : List Idn) (s : List UInt8) (w : World) (h : layG.Row w v rs) (hw : ∀ x ∈ rs, wfG x) (hx : RowAt w u xs) (hxw : ∀ x ∈ xs, wfId x) : Calls Tryz.prog 3 #[v, u, .string (str s)] w (RetBelow (.bool true) w) :=
  ptells_any graphs premises (fun w => pplay_any graphs premises w) v u s rs w h xs hw hx hxw

set_option maxRecDepth 100000 in
theorem lifted (os : Os) (started : os.Started) (H : Type) (enc : TypeId × Value → H) :
    ReturnsInHanded {} Tryz.checked os 3 .any (Rows.premiseTellsSpec.pre6 enc Tryz.prog Tryz.f3 Rows.premiseTellsRow.domain false) (Rows.premiseTellsSpec.post enc Tryz.prog Tryz.f3 false true false false) := by
  refine returnsInHanded_of_change_sized (C := Tryz.checked) own started (by kernel_rfl) Tryz.func3
    (ChangeSpec.witness6 (enc := enc) (C := Tryz.checked) false ⟨#[], #[.slice none 0 0, .slice none 0 0, .string ⟨#[]⟩], []⟩ 8 (by kernel_rfl) (by kernel_rfl) (by kernel_rfl) (by kernel_rfl)) ?_
  intro W base args ds gs before hval0 hW hcnd hsz0 _
  have hval : ∀ (j : Nat) t v, Tryz.f3.params[j]? = some t → args[j]? = some v → Value.okWide Tryz.prog W .any base t v := hval0
  have hsz : (DataW.weightsEach Tryz.prog (Tryz.f3.params.toList ++ Rows.premiseTellsSpec.plain.varTypes Tryz.prog) (ds ++ gs)).all (· ≤ reachBytes) = true := hsz0
  have hW' := hW
  obtain ⟨p, q, hA0, hV, rfl, hfz, hnd⟩ := hW
  have hA : DataW.TrodAll enc Tryz.prog W 0 (fun _ => true) true Tryz.f3.params.toList args.toList ds p := hA0
  rw [Tryz.params3] at hA hval hsz
  have hA2 := hA
  obtain ⟨v0, v1, v2, d0, d1, d2, p0, p1, p2, rfl, rfl, rfl, h0, h1, h2⟩ := trodAll_three hA
  obtain ⟨rfl, rfl⟩ := trodVars_none hV
  obtain ⟨rs0, rg0, wg0⟩ := open_recs (hval 0 22 v0 rfl rfl) h0 (sized_all hsz (j := 0) rfl rfl)
  obtain ⟨zs1, rz1, wz1⟩ := open_list (hval 1 23 v1 rfl rfl) h1
  obtain ⟨z2, rfl⟩ := open_str (hval 2 9 v2 rfl rfl) h2
  have hlt : ∀ x ∈ p0 ++ p1 ++ p2, x.block < W.heap.size := fun x hx => hW'.lt x (by simpa using hx)
  clear hA0 hval0 hsz0
  simp only [List.append_nil] at hW'
  refine (premiseTells_any v0 rs0 v1 zs1 z2 W rg0 wg0 rz1 wz1).mono fun e W' ⟨he, hb⟩ => ?_
  subst he
  have e1 : (Rows.premiseTellsSpec.fn H ([d0, d1, d2] ++ [])) = { results := [.lit (.bool true)], args := [d0, d1, d2] } := rfl
  refine ⟨_, rfl, _, _, _, [], p0 ++ p1 ++ p2, [], hW', ?_, ?_, ?_, hb.frame _, fun h => by cases h⟩
  · rw [e1]; exact trodAll_mk1 (shut_bool Tryz.underlying4 _)
  · rw [e1]; exact trodAll_stays laidOut hb _ _ _ _ (fun t ht => by simp at ht; rcases ht with rfl | rfl | rfl <;> exact ⟨by kernel_rfl, of_decide_eq_true (by kernel_rfl)⟩) hA2 hlt
  · rw [e1]; rfl

theorem holds : Rows.PremiseTellsSaid :=
  OpenClaim.holds_of_wide 3 Tryz.f3 rfl rfl rfl rfl rfl rfl rfl ⟨rfl, rfl, rfl, rfl, rfl⟩ rfl rfl rfl rfl rfl (by kernel_rfl) Tryz.func3 (by kernel_rfl)
    (of_decide_eq_true (by kernel_rfl)) (by unfold Func.isWrapper; rw [if_neg (of_decide_eq_false (by kernel_rfl))]; exact ⟨rfl, rfl⟩)
    (fun os started H enc _ => lifted os started H enc)
end lawPremiseTells
end Go.Proofs.YtomidcbpnaajeaaGreat
