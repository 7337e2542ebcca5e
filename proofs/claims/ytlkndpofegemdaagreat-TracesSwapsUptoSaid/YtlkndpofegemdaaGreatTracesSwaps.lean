/- Traces swapped: the given statement on TracesSwaps, in its narrower form: what it reads is of bulk at most 1048576 (no other condition). -/
import Derived.Test.YtlkndpofegemdaaGreatRows
import Derived.Test.YtlkndpofegemdaaGreatTraG
import Derived.Test.YtlkndpofegemdaaGreatTraH
import Derived.Test.YtlkndpofegemdaaGreatTraV
import Derived.Test.YtlkndpofegemdaaGreatOpenG
import Derived.Test.YtlkndpofegemdaaGreatOpenL
import Derived.Test.YtlkndpofegemdaaGreatOpenB
import Derived.Test.YtlkndpofegemdaaGreatStay
import Derived.ChangeSame
import Derived.Deep.CondSized
import Derived.ChangeAlike
import Derived.JoinedOf
import Derived.JoinedAt
import Derived.JoinedStill
import Derived.RowKit
import Derived.ProofKit
namespace Go.Proofs.YtlkndpofegemdaaGreat
open Go.ChangeShapes Go.WideShapes Go.ChangeAt Go.RowKit Cmd Bat Ids Rec Wid Gra Rea Cps Tra Can
set_option linter.unusedVariables false

namespace lawTracesSwaps
theorem tracesSwaps_any (v : Value) (rs : List Rcd) (x : Value) (xs : List (List Idn)) (i : Int) (w : World) (h : layG.Row w v rs) (hw : ∀ x ∈ rs, wfG x) (hx : layLL.Row w x xs) (hxw : ∀ c ∈ xs, ∀ z ∈ c, wfId z) (hi : -9223372036854775808 ≤ i ∧ i ≤ 9223372036854775807) (hfl : xs.flatten.length ≤ 1000000) : Calls Tryz.prog 4 #[v, x, .int .i64 i] w (RetBelow (.bool true) w) := by
  obtain ⟨px, cx, rfl, -, -⟩ := hx.parts
  exact tswaps_any graphs traces (fun w => tplay_any graphs traces w) v px _ cx i rs w h xs hi.1 hi.2 hw hx hxw hfl (fun c hc => Nat.le_trans (List.sublist_flatten_of_mem hc).length_le (Nat.le_trans hfl (by decide)))

set_option maxRecDepth 100000 in
theorem contract (H : Type) (enc : TypeId × Value → H) (W : World) (base : Nat) (args : Array Value) (ds gs : List (DataW H)) (before : List MemPlace)
    (hval0 : ∀ (j : Nat) t v, Tryz.f4.params[j]? = some t → args[j]? = some v → Value.okWide Tryz.prog W .any base t v)
    (hW : DataW.Whole enc Tryz.prog Tryz.f4.params.toList Rows.tracesSwapsSpec.vars false W args.toList ds gs before)
    (hk : Rows.uptoSmall H (ds ++ gs) = true) (hsz0 : (DataW.weightsEach Tryz.prog (Tryz.f4.params.toList ++ Rows.tracesSwapsSpec.plain.varTypes Tryz.prog) (ds ++ gs)).all (· ≤ reachBytes) = true) :
    Calls Tryz.prog 4 args W fun e W' => ∃ v, e = .returned v ∧ Rows.tracesSwapsSpec.post enc Tryz.prog Tryz.f4 false true false false W args v W' := by
  have hval : ∀ (j : Nat) t v, Tryz.f4.params[j]? = some t → args[j]? = some v → Value.okWide Tryz.prog W .any base t v := hval0
  have hsz : (DataW.weightsEach Tryz.prog (Tryz.f4.params.toList ++ Rows.tracesSwapsSpec.plain.varTypes Tryz.prog) (ds ++ gs)).all (· ≤ reachBytes) = true := hsz0
  have hW' := hW
  obtain ⟨p, q, hA0, hV, rfl, hfz, hnd⟩ := hW
  have hA : DataW.TrodAll enc Tryz.prog W 0 (fun _ => true) true Tryz.f4.params.toList args.toList ds p := hA0
  rw [Tryz.params4] at hA hval hsz
  have hA2 := hA
  obtain ⟨v0, v1, v2, d0, d1, d2, p0, p1, p2, rfl, rfl, rfl, h0, h1, h2⟩ := trodAll_three hA
  obtain ⟨rfl, rfl⟩ := trodVars_none hV
  obtain ⟨rs0, rg0, wg0⟩ := open_recs (hval 0 22 v0 rfl rfl) h0 (sized_all hsz (j := 0) rfl rfl)
  obtain ⟨ls1, rl1, wl1⟩ := open_lls (hval 1 23 v1 rfl rfl) h1
  obtain ⟨z2, rfl, hb2⟩ := open_i64 (hval 2 3 v2 rfl rfl) h2
  have hlt : ∀ x ∈ p0 ++ p1 ++ p2, x.block < W.heap.size := fun x hx => hW'.lt x (by simpa using hx)
  clear hA0 hval0 hsz0
  simp only [List.append_nil] at hW'
  have hb : Rows.uptoBulkAll ([d0, d1, d2] ++ []) ≤ 1048576 := of_decide_eq_true hk
  have hmore : ls1.flatten.length ≤ 1000000 := by
    have h2 : Rows.uptoBulk d1 ≤ Rows.uptoBulkAll ([d0, d1, d2] ++ []) := by simp only [List.cons_append, List.nil_append, Rows.uptoBulkAll]; omega
    have h3 := lls_bulk rl1 h1
    omega
  clear hb
  refine (tracesSwaps_any v0 rs0 v1 ls1 z2 W rg0 wg0 rl1 wl1 hb2 hmore).mono fun e W' ⟨he, hb⟩ => ?_
  subst he
  have e1 : (Rows.tracesSwapsSpec.fn H ([d0, d1, d2] ++ [])) = { results := [.lit (.bool true)], args := [d0, d1, d2] } := rfl
  refine ⟨_, rfl, _, _, _, [], p0 ++ p1 ++ p2, [], hW', ?_, ?_, ?_, hb.frame _, fun h => by cases h⟩
  · rw [e1]; exact trodAll_mk1 (shut_bool Tryz.underlying4 _)
  · rw [e1]; exact trodAll_stays laidOut hb _ _ _ _ (fun t ht => by simp at ht; rcases ht with rfl | rfl | rfl <;> exact ⟨by kernel_rfl, of_decide_eq_true (by kernel_rfl)⟩) hA2 hlt
  · rw [e1]; rfl

set_option maxRecDepth 100000 in
theorem lifted (os : Os) (started : os.Started) (H : Type) (enc : TypeId × Value → H) (F : Stop.Interp) :
    ReturnsInHanded {} Tryz.checked os 4 .any ((Rows.OpenSpec.upto Rows.tracesSwapsSpec).pre6 enc Tryz.prog Tryz.f4 Rows.tracesSwapsUptoRow.domain false) (((Rows.OpenSpec.upto Rows.tracesSwapsSpec).at F).post enc Tryz.prog Tryz.f4 false true false false) := by
  refine returnsInHanded_of_cond_sized (C := Tryz.checked) (s := Rows.OpenSpec.upto Rows.tracesSwapsSpec) (k := Rows.uptoSmall) rfl own started (by kernel_rfl) Tryz.func4
    (OpenSpec.witness (enc := enc) (C := Tryz.checked) (s := Rows.OpenSpec.upto Rows.tracesSwapsSpec) (k := Rows.uptoSmall) rfl false ⟨#[], #[.slice none 0 0, .slice none 0 0, .int .i64 0], []⟩ 8 (by kernel_rfl) (by kernel_rfl) (by kernel_rfl)
      (x := ([.nil, .nil, .lit (.int .i64 0)], [], [])) (by kernel_rfl) rfl (by kernel_rfl)) ?_
  intro W base args ds gs before hval hW _ hk hsz _
  exact contract H enc W base args ds gs before hval hW hk hsz

theorem holds : Rows.TracesSwapsUptoSaid :=
  OpenClaim.holds_of_cond 4 Tryz.f4 rfl rfl rfl rfl rfl rfl rfl ⟨rfl, rfl, rfl, rfl, rfl⟩ rfl rfl rfl rfl rfl (by kernel_rfl) Tryz.func4 (by kernel_rfl)
    (of_decide_eq_true (by kernel_rfl)) (by unfold Func.isWrapper; rw [if_neg (of_decide_eq_false (by kernel_rfl))]; exact ⟨rfl, rfl⟩)
    (fun os started H enc _ F => lifted os started H enc F)
end lawTracesSwaps
end Go.Proofs.YtlkndpofegemdaaGreat
