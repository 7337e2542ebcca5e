/- Two batches that do not conflict may be applied in either order: the given statement on VaultSwaps. No condition: every input. -/
import Derived.Test.YtacgmhnalbbgbaaRows
import Derived.Test.YtacgmhnalbbgbaaVauW
import Derived.Test.YtacgmhnalbbgbaaWirRow
import Derived.Test.YtacgmhnalbbgbaaOpenT
import Derived.ChangeSame
import Derived.ChangeAlike
import Derived.JoinedOf
import Derived.JoinedAt
import Derived.JoinedStill
import Derived.RowKit
import Derived.ProofKit
namespace Go.Proofs.Ytacgmhnalbbgbaa
open Go.ChangeShapes Go.WideShapes Go.ChangeAt Go.RowKit Cmd Bat Cel Wid Vau
set_option linter.unusedVariables false

namespace lawVaultSwaps
theorem vaultSwaps_any (v : Value) (xs : List Itm) (a1 a2 : Int) (va : Value) (la : List Cmdn) (b1 b2 : Int) (vb : Value) (lb : List Cmdn) (w : World) (h : layT.Row w v xs) (hw : ∀ x ∈ xs, wfT x) (ha : layC.Row w va la) (hwa : ∀ x ∈ la, wfC x) (hb : layC.Row w vb lb) (hwb : ∀ x ∈ lb, wfC x) : Calls Try.prog 4 #[v, .agg #[.int .i64 a1, .int .i64 a2, va], .agg #[.int .i64 b1, .int .i64 b2, vb]] w (RetBelow (.bool true) w) := by
  obtain ⟨p, cap, rfl, h1, h2, -⟩ := id h
  by_cases hl : xs.length ≤ 20 ∧ la.length ≤ 20 ∧ lb.length ≤ 20
  · exact swaps_few p cap xs a1 a2 va la b1 b2 vb lb w h ha hb hw hwa hwb hl
  · obtain ⟨pa, ca, rfl, ha1, ha2, -⟩ := id ha
    obtain ⟨pb, cb, rfl, hb1, hb2, -⟩ := id hb
    exact swaps_long p xs.length cap a1 a2 pa la.length ca b1 b2 pb lb.length cb w (by omega) (by omega)

set_option maxRecDepth 100000 in
theorem lifted (os : Os) (started : os.Started) (H : Type) (enc : TypeId × Value → H) :
    ReturnsInHanded {} Try.checked os 4 .any (Rows.vaultSwapsSpec.pre6 enc Try.prog Try.f4 Rows.vaultSwapsRow.domain false) (Rows.vaultSwapsSpec.post enc Try.prog Try.f4 false true false false) := by
  refine returnsInHanded_of_change_sized (C := Try.checked) own started (by kernel_rfl) Try.func4
    (ChangeSpec.witness6 (enc := enc) (C := Try.checked) false ⟨#[], #[.slice none 0 0, .agg #[.int .i64 0, .int .i64 0, .slice none 0 0], .agg #[.int .i64 0, .int .i64 0, .slice none 0 0]], []⟩ 8 (by kernel_rfl) (by kernel_rfl) (by kernel_rfl) (by kernel_rfl)) ?_
  intro W base args ds gs before hval0 hW hcnd hsz0 _
  have hval : ∀ (j : Nat) t v, Try.f4.params[j]? = some t → args[j]? = some v → Value.okWide Try.prog W .any base t v := hval0
  have hsz : (DataW.weightsEach Try.prog (Try.f4.params.toList ++ Rows.vaultSwapsSpec.plain.varTypes Try.prog) (ds ++ gs)).all (· ≤ reachBytes) = true := hsz0
  have hW' := hW
  obtain ⟨p, q, hA0, hV, rfl, hfz, hnd⟩ := hW
  have hA : DataW.TrodAll enc Try.prog W 0 (fun _ => true) true Try.f4.params.toList args.toList ds p := hA0
  rw [Try.params4] at hA hval hsz
  have hA2 := hA
  obtain ⟨v0, v1, v2, d0, d1, d2, p0, p1, p2, rfl, rfl, rfl, h0, h1, h2⟩ := trodAll_three hA
  obtain ⟨rfl, rfl⟩ := trodVars_none hV
  obtain ⟨xs0, ri0, hw0⟩ := open_items (hval 0 22 v0 rfl rfl) h0 (sized_all hsz (j := 0) rfl rfl)
  obtain ⟨a1, b1, s1, cs1, rfl, rc1, hw1⟩ := open_item (hval 1 30 v1 rfl rfl) h1 (sized_all hsz (j := 1) rfl rfl)
  obtain ⟨a2, b2, s2, cs2, rfl, rc2, hw2⟩ := open_item (hval 2 30 v2 rfl rfl) h2 (sized_all hsz (j := 2) rfl rfl)
  have hlt : ∀ x ∈ p0 ++ p1 ++ p2, x.block < W.heap.size := fun x hx => hW'.lt x (by simpa using hx)
  clear hA0 hval0 hsz0
  simp only [List.append_nil] at hW'
  refine (vaultSwaps_any v0 xs0 a1 b1 s1 cs1 a2 b2 s2 cs2 W ri0 hw0 rc1 hw1 rc2 hw2).mono fun e W' ⟨he, hb⟩ => ?_
  subst he
  have e1 : (Rows.vaultSwapsSpec.fn H ([d0, d1, d2] ++ [])) = { results := [.lit (.bool true)], args := [d0, d1, d2] } := rfl
  refine ⟨_, rfl, _, _, _, [], p0 ++ p1 ++ p2, [], hW', ?_, ?_, ?_, hb.frame _, fun h => by cases h⟩
  · rw [e1]; exact trodAll_mk1 (shut_bool Try.underlying4 _)
  · rw [e1]; exact trodAll_stays laidOut hb _ _ _ _ (fun t ht => by simp at ht; rcases ht with rfl | rfl <;> exact ⟨by kernel_rfl, of_decide_eq_true (by kernel_rfl)⟩) hA2 hlt
  · rw [e1]; rfl

theorem holds : Rows.VaultSwapsSaid :=
  OpenClaim.holds_of_wide 4 Try.f4 rfl rfl rfl rfl rfl rfl rfl ⟨rfl, rfl, rfl, rfl, rfl⟩ rfl rfl rfl rfl rfl (by kernel_rfl) Try.func4 (by kernel_rfl)
    (of_decide_eq_true (by kernel_rfl)) (by unfold Func.isWrapper; rw [if_neg (of_decide_eq_false (by kernel_rfl))]; exact ⟨rfl, rfl⟩)
    (fun os started H enc _ => lifted os started H enc)
end lawVaultSwaps
end Go.Proofs.Ytacgmhnalbbgbaa
