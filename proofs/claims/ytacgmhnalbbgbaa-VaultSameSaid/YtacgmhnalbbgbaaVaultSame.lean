/- Two vaults are the same just if all their keys have the same, and the same logs: the given statement on VaultSame. No condition: every input. -/
import Derived.Test.YtacgmhnalbbgbaaRows
import Derived.Test.YtacgmhnalbbgbaaVauY
import Derived.Test.YtacgmhnalbbgbaaWirRow
import Derived.Test.YtacgmhnalbbgbaaOpenT
import Derived.ChangeSame
import Derived.ChangeAlike
import Derived.JoinedOf
import Derived.JoinedAt
import Derived.JoinedStill
import Derived.RowKit
import Derived.ProofKit
namespace Go.Proofs.Ytacgmhnalbbgbaa
open Go.ChangeShapes Go.WideShapes Go.ChangeAt Go.RowKit Cmd Bat Cel Wid Vau
set_option linter.unusedVariables false

namespace lawVaultSame
theorem vaultSame_any (v : Value) (xs : List Itm) (u : Value) (ys : List Itm) (w : World) (h : layT.Row w v xs) (hw : ∀ x ∈ xs, wfT x) (g : layT.Row w u ys) (gw : ∀ x ∈ ys, wfT x) : Calls Try.prog 5 #[v, u] w (RetBelow (.bool true) w) := by
  obtain ⟨p, cap, rfl, -⟩ := id h
  obtain ⟨q, cap', rfl, -⟩ := id g
  by_cases hl : xs.length ≤ 12 ∧ ys.length ≤ 12
  · exact same_few p cap xs q cap' ys w h g hw gw hl
  · exact same_long p xs.length cap q ys.length cap' w (by omega)

set_option maxRecDepth 100000 in
theorem lifted (os : Os) (started : os.Started) (H : Type) (enc : TypeId × Value → H) :
    ReturnsInHanded {} Try.checked os 5 .any (Rows.vaultSameSpec.pre6 enc Try.prog Try.f5 Rows.vaultSameRow.domain false) (Rows.vaultSameSpec.post enc Try.prog Try.f5 false true false false) := by
  refine returnsInHanded_of_change_sized (C := Try.checked) own started (by kernel_rfl) Try.func5
    (ChangeSpec.witness6 (enc := enc) (C := Try.checked) false ⟨#[], #[.slice none 0 0, .slice none 0 0], []⟩ 8 (by kernel_rfl) (by kernel_rfl) (by kernel_rfl) (by kernel_rfl)) ?_
  intro W base args ds gs before hval0 hW hcnd hsz0 _
  have hval : ∀ (j : Nat) t v, Try.f5.params[j]? = some t → args[j]? = some v → Value.okWide Try.prog W .any base t v := hval0
  have hsz : (DataW.weightsEach Try.prog (Try.f5.params.toList ++ Rows.vaultSameSpec.plain.varTypes Try.prog) (ds ++ gs)).all (· ≤ reachBytes) = true := hsz0
  have hW' := hW
  obtain ⟨p, q, hA0, hV, rfl, hfz, hnd⟩ := hW
  have hA : DataW.TrodAll enc Try.prog W 0 (fun _ => true) true Try.f5.params.toList args.toList ds p := hA0
  rw [Try.params5] at hA hval hsz
  have hA2 := hA
  obtain ⟨v0, v1, d0, d1, p0, p1, rfl, rfl, rfl, h0, h1⟩ := trodAll_two hA
  obtain ⟨rfl, rfl⟩ := trodVars_none hV
  obtain ⟨xs0, ri0, hw0⟩ := open_items (hval 0 22 v0 rfl rfl) h0 (sized_all hsz (j := 0) rfl rfl)
  obtain ⟨xs1, ri1, hw1⟩ := open_items (hval 1 22 v1 rfl rfl) h1 (sized_all hsz (j := 1) rfl rfl)
  have hlt : ∀ x ∈ p0 ++ p1, x.block < W.heap.size := fun x hx => hW'.lt x (by simpa using hx)
  clear hA0 hval0 hsz0
  simp only [List.append_nil] at hW'
  refine (vaultSame_any v0 xs0 v1 xs1 W ri0 hw0 ri1 hw1).mono fun e W' ⟨he, hb⟩ => ?_
  subst he
  have e1 : (Rows.vaultSameSpec.fn H ([d0, d1] ++ [])) = { results := [.lit (.bool true)], args := [d0, d1] } := rfl
  refine ⟨_, rfl, _, _, _, [], p0 ++ p1, [], hW', ?_, ?_, ?_, hb.frame _, fun h => by cases h⟩
  · rw [e1]; exact trodAll_mk1 (shut_bool Try.underlying4 _)
  · rw [e1]; exact trodAll_stays laidOut hb _ _ _ _ (fun t ht => by simp at ht; rcases ht with rfl <;> exact ⟨by kernel_rfl, of_decide_eq_true (by kernel_rfl)⟩) hA2 hlt
  · rw [e1]; rfl

theorem holds : Rows.VaultSameSaid :=
  OpenClaim.holds_of_wide 5 Try.f5 rfl rfl rfl rfl rfl rfl rfl ⟨rfl, rfl, rfl, rfl, rfl⟩ rfl rfl rfl rfl rfl (by kernel_rfl) Try.func5 (by kernel_rfl)
    (of_decide_eq_true (by kernel_rfl)) (by unfold Func.isWrapper; rw [if_neg (of_decide_eq_false (by kernel_rfl))]; exact ⟨rfl, rfl⟩)
    (fun os started H enc _ => lifted os started H enc)
end lawVaultSame
end Go.Proofs.Ytacgmhnalbbgbaa
