/- Any bytes are opened, or what is wrong is told; what is sealed is opened, but not with one byte changed: the given statement on DigestOpens. No condition: every input. -/
import Derived.Test.YtbijiklemkdebaaRows
import Derived.Test.YtbijiklemkdebaaDigH
import Derived.Test.YtbijiklemkdebaaWirRow
import Derived.ChangeSame
import Derived.ChangeAlike
import Derived.JoinedOf
import Derived.JoinedAt
import Derived.JoinedStill
import Derived.RowKit
import Derived.ProofKit
namespace Go.Proofs.Ytbijiklemkdebaa
open Go.ChangeShapes Go.WideShapes Go.ChangeAt Go.RowKit Cmd Bat Wir Dig
set_option linter.unusedVariables false

namespace lawDigestOpens
set_option maxHeartbeats 4000000 in
set_option maxRecDepth 100000 in
theorem digestOpens_any (v : Value) (zs : List UInt8) (at' by' : Nat) (w : World) (h : layB.Row w v zs) (hat : at' < 65536) (hby : by' < 256) : Calls Try.prog 4 #[v, .int .u16 at', .int .u8 by'] w (RetBelow (.bool true) w) := by
  by_cases hl : zs.length ≤ 2000
  · by_cases h8 : zs.length < 8
    · exact opens_short v zs at' by' w h hl hat hby h8
    · obtain ⟨k, hk⟩ : ∃ k, zs.length = k + 8 := ⟨zs.length - 8, by omega⟩
      by_cases hd : zs.drop k = big (dg (zs.take k))
      · exact opens_good v zs at' by' w h hl hat hby k hk hd
      · exact opens_bad v zs at' by' w h hl hat hby k hk hd
  · obtain ⟨p, cap, rfl, g1, g2, -⟩ := h
    have h1 : (2000 : Int) < zs.length := by omega
    have h2 : (zs.length : Int) ≤ 9223372036854775807 := by omega
    have CW := Lib.hid play_any
    generalize (at' : Int) = A
    generalize (by' : Int) = B
    go_enter Try.func4, Try.ntmps4
    go_wp2_with (first
      | (go_at_call 5; (with_reducible refine (CW.out _).mono ?_); rintro e w3 ⟨rfl, hb⟩; have D3 := Lib.hid hb; clear hb))
    go_ret
    exact ⟨rfl, D3.out⟩

set_option maxRecDepth 100000 in
theorem lifted (os : Os) (started : os.Started) (H : Type) (enc : TypeId × Value → H) :
    ReturnsInHanded {} Try.checked os 4 .any (Rows.digestOpensSpec.pre6 enc Try.prog Try.f4 Rows.digestOpensRow.domain false) (Rows.digestOpensSpec.post enc Try.prog Try.f4 false true false false) := by
  refine returnsInHanded_of_change (C := Try.checked) own started (by kernel_rfl) Try.func4
    (ChangeSpec.witness6 (enc := enc) (C := Try.checked) false ⟨#[], #[.slice none 0 0, .int .u16 0, .int .u8 0], []⟩ 8 (by kernel_rfl) (by kernel_rfl) (by kernel_rfl) (by kernel_rfl)) ?_
  intro W base args ds gs before hval0 hW hcnd _
  have hval : ∀ (j : Nat) t v, Try.f4.params[j]? = some t → args[j]? = some v → Value.okWide Try.prog W .any base t v := hval0
  have hW' := hW
  obtain ⟨p, q, hA0, hV, rfl, hfz, hnd⟩ := hW
  have hA : DataW.TrodAll enc Try.prog W 0 (fun _ => true) true Try.f4.params.toList args.toList ds p := hA0
  rw [Try.params4] at hA hval
  have hA2 := hA
  obtain ⟨v0, v1, v2, d0, d1, d2, p0, p1, p2, rfl, rfl, rfl, h0, h1, h2⟩ := trodAll_three hA
  obtain ⟨rfl, rfl⟩ := trodVars_none hV
  obtain ⟨z0, hrow0⟩ := open_bytes (hval 0 22 v0 rfl rfl) h0
  obtain ⟨z1, rfl, hb1⟩ := open_u16 (hval 1 30 v1 rfl rfl) h1
  obtain ⟨z2, rfl, hb2⟩ := open_u8 (hval 2 5 v2 rfl rfl) h2
  have hlt : ∀ x ∈ p0 ++ p1 ++ p2, x.block < W.heap.size := fun x hx => hW'.lt x (by simpa using hx)
  clear hA0 hval0
  simp only [List.append_nil] at hW'
  refine (digestOpens_any v0 z0 z1 z2 W hrow0 hb1 hb2).mono fun e W' ⟨he, hb⟩ => ?_
  subst he
  have e1 : (Rows.digestOpensSpec.fn H ([d0, d1, d2] ++ [])) = { results := [.lit (.bool true)], args := [d0, d1, d2] } := rfl
  refine ⟨_, rfl, _, _, _, [], p0 ++ p1 ++ p2, [], hW', ?_, ?_, ?_, hb.frame _, fun h => by cases h⟩
  · rw [e1]; exact trodAll_mk1 (shut_bool Try.underlying4 _)
  · rw [e1]; exact trodAll_stays laidOut hb _ _ _ _ (fun t ht => by simp at ht; rcases ht with rfl | rfl | rfl <;> exact ⟨by kernel_rfl, of_decide_eq_true (by kernel_rfl)⟩) hA2 hlt
  · rw [e1]; rfl

theorem holds : Rows.DigestOpensSaid :=
  OpenClaim.holds_of_wide 4 Try.f4 rfl rfl rfl rfl rfl rfl rfl ⟨rfl, rfl, rfl, rfl, rfl⟩ rfl rfl rfl rfl rfl (by kernel_rfl) Try.func4 (by kernel_rfl)
    (of_decide_eq_true (by kernel_rfl)) (by unfold Func.isWrapper; rw [if_neg (of_decide_eq_false (by kernel_rfl))]; exact ⟨rfl, rfl⟩)
    (fun os started H enc _ => lifted os started H enc)
end lawDigestOpens
end Go.Proofs.Ytbijiklemkdebaa
