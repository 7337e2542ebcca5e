/- Any bytes begin with a number, and a text, or what is wrong is told: the given statement on WireGets. No condition: every input. -/
import Derived.Test.YthleonbojmpclaaRows
import Derived.Test.YthleonbojmpclaaWirI
import Derived.Test.YthleonbojmpclaaWirRow
import Derived.ChangeSame
import Derived.ChangeAlike
import Derived.JoinedOf
import Derived.JoinedAt
import Derived.JoinedStill
import Derived.RowKit
import Derived.ProofKit
namespace Go.Proofs.Ythleonbojmpclaa
open Go.ChangeShapes Go.WideShapes Go.ChangeAt Go.RowKit Cmd Bat Wir

namespace lawWireGets
set_option maxHeartbeats 4000000 in
set_option maxRecDepth 100000 in
theorem gets_any (v : Value) (zs : List UInt8) (most : Nat) (w : World) (h : layB.Row w v zs) (hm : most ≤ 255) : Calls Try.prog 4 #[v, .int .u8 most] w (RetBelow (.bool true) w) := by
  by_cases hl : zs.length ≤ 1000
  · obtain ⟨n, j, e, hr⟩ : ∃ n j e, rd zs 0 0 = (n, j, e) := ⟨_, _, _, rfl⟩
    have hi := rd_is zs 0 0 n j e hr (by decide) (by decide)
    rcases hi with ⟨rfl, j1, j2, n1⟩ | ⟨he, rfl, rfl⟩
    · have hj : j ≤ zs.length := by omega
      by_cases h1 : most < n
      · by_cases h8 : zs.length < 8
        · exact gets_long v zs most w h hl hm n j hr n1 hj h1 h8
        · exact gets_long8 v zs most w h hl hm n j hr n1 hj h1 h8
      · by_cases h2 : zs.length - j < n
        · by_cases h8 : zs.length < 8
          · exact gets_end v zs most w h hl hm n j hr n1 hj h1 h2 h8
          · exact gets_end8 v zs most w h hl hm n j hr n1 hj h1 h2 h8
        · by_cases h8 : zs.length < 8
          · exact gets_ok v zs most w h hl hm n j hr n1 hj h1 h2 h8
          · exact gets_ok8 v zs most w h hl hm n j hr n1 hj h1 h2 h8
    · by_cases h8 : zs.length < 8
      · exact gets_bad v zs most w h hl hm 0 0 e hr (by omega) h8
      · exact gets_bad8 v zs most w h hl hm 0 0 e hr (by omega) h8
  · obtain ⟨p, cap, rfl, g1, g2, -⟩ := h
    have h1 : (1000 : Int) < zs.length := by omega
    have h2 : (zs.length : Int) ≤ 9223372036854775807 := by omega
    have CW := Lib.hid works_any
    go_enter Try.func4, Try.ntmps4
    go_wp2_with (first
      | (go_at_call 5; (with_reducible refine (CW.out _).mono ?_); rintro e w3 ⟨rfl, hb⟩; have D3 := Lib.hid hb; clear hb))
    go_ret
    exact ⟨rfl, D3.out⟩

set_option maxRecDepth 100000 in
theorem lifted (os : Os) (started : os.Started) (H : Type) (enc : TypeId × Value → H) :
    ReturnsInHanded {} Try.checked os 4 .any (Rows.wireGetsSpec.pre6 enc Try.prog Try.f4 Rows.wireGetsRow.domain false) (Rows.wireGetsSpec.post enc Try.prog Try.f4 false true false false) := by
  refine returnsInHanded_of_change (C := Try.checked) own started (by kernel_rfl) Try.func4
    (ChangeSpec.witness6 (enc := enc) (C := Try.checked) false ⟨#[], #[.slice none 0 0, .int .u8 0], []⟩ 8 (by kernel_rfl) (by kernel_rfl) (by kernel_rfl) (by kernel_rfl)) ?_
  intro W base args ds gs before hval0 hW hcnd _
  have hval : ∀ (j : Nat) t v, Try.f4.params[j]? = some t → args[j]? = some v → Value.okWide Try.prog W .any base t v := hval0
  have hW' := hW
  obtain ⟨p, q, hA0, hV, rfl, hfz, hnd⟩ := hW
  have hA : DataW.TrodAll enc Try.prog W 0 (fun _ => true) true Try.f4.params.toList args.toList ds p := hA0
  rw [Try.params4] at hA hval
  have hA2 := hA
  obtain ⟨v0, v1, d0, d1, p0, p1, rfl, rfl, rfl, h0, h1⟩ := trodAll_two hA
  obtain ⟨rfl, rfl⟩ := trodVars_none hV
  obtain ⟨zs, hrow⟩ := open_bytes (hval 0 22 v0 rfl rfl) h0
  obtain ⟨b, rfl, hb8⟩ := open_u8 (hval 1 5 v1 rfl rfl) h1
  have hlt : ∀ x ∈ p0 ++ p1, x.block < W.heap.size := fun x hx => hW'.lt x (by simpa using hx)
  clear hA0 hval0
  simp only [List.append_nil] at hW'
  refine (gets_any v0 zs b W hrow (by omega)).mono fun e W' ⟨he, hb⟩ => ?_
  subst he
  have e1 : (Rows.wireGetsSpec.fn H ([d0, d1] ++ [])) = { results := [.lit (.bool true)], args := [d0, d1] } := rfl
  refine ⟨_, rfl, _, _, _, [], p0 ++ p1, [], hW', ?_, ?_, ?_, hb.frame _, fun h => by cases h⟩
  · rw [e1]; exact trodAll_mk1 (shut_bool Try.underlying4 _)
  · rw [e1]; exact trodAll_stays laidOut hb _ _ _ _ (fun t ht => by simp at ht; rcases ht with rfl | rfl <;> exact ⟨by kernel_rfl, of_decide_eq_true (by kernel_rfl)⟩) hA2 hlt
  · rw [e1]; rfl

theorem holds : Rows.WireGetsSaid :=
  OpenClaim.holds_of_wide 4 Try.f4 rfl rfl rfl rfl rfl rfl rfl ⟨rfl, rfl, rfl, rfl, rfl⟩ rfl rfl rfl rfl rfl (by kernel_rfl) Try.func4 (by kernel_rfl)
    (of_decide_eq_true (by kernel_rfl)) (by unfold Func.isWrapper; rw [if_neg (of_decide_eq_false (by kernel_rfl))]; exact ⟨rfl, rfl⟩)
    (fun os started H enc _ => lifted os started H enc)
end lawWireGets
end Go.Proofs.Ythleonbojmpclaa
