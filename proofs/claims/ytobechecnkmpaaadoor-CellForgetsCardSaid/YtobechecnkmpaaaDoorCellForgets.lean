/- Behind Put, or Delete, it does not matter what was there; a number is one of layer 1: the given statement on CellForgets, tied to the program's text. No condition: every input; the listed tables are those of the program's text (the card's tie). -/
import Derived.Test.YtobechecnkmpaaaDoorCelRow
import Derived.Test.YtobechecnkmpaaaDoorCelE
import Derived.Test.YtobechecnkmpaaaDoorCards
import Derived.Test.YtobechecnkmpaaaDoorTie
import Derived.SevenTiedAt
import Derived.ChangeAlike
import Derived.JoinedStill
namespace Go.Proofs.YtobechecnkmpaaaDoor
open Go Go.ChangeShapes Go.WideShapes Go.ChangeAt Go.RowKit Cmd Bat Cel
set_option linter.unusedVariables false

namespace lawCellForgets
set_option maxRecDepth 100000 in
theorem lifted (os : Os) (started : os.Started) (H : Type) (enc : TypeId × Value → H) :
    ReturnsInHanded {} Tryd.checked os 5 .any (fun w args => (Rows.cellForgetsSpec.pre enc Tryd.prog Tryd.f5 Rows.cellForgetsRow.domain false w args ∧ laidMetH Tryd.prog Rows.cellForgetsRow.laid w) ∧ sizedMet enc Tryd.prog Tryd.f5 (OpenSpec.ofChange Rows.cellForgetsSpec) false w args)
      (Rows.cellForgetsSpec.post enc Tryd.prog Tryd.f5 false true false false) := by
  refine returns_laid_sized (C := Tryd.checked) (X := fun w _ => laidMetH Tryd.prog Rows.cellForgetsRow.laid w) (fun _ _ _ hh h => h.of_heap hh) own started (by kernel_rfl) Tryd.func5
    (ChangeSpec.witness_at (enc := enc) (C := Tryd.checked) (os := os) (X := fun w _ => laidMetH Tryd.prog Rows.cellForgetsRow.laid w) false (laidWorld os) #[.agg #[.bool false, .float .f64 0], .agg #[.bool false, .float .f64 0], .float .f64 0] 8 rfl (by kernel_rfl) (by kernel_rfl) (by kernel_rfl) (by kernel_rfl) (by kernel_rfl) (laidWorld_met os _)) ?_
  intro W base args ds gs before hval0 hW hL hS hsz0
  have hE : Env W := env_of hL
  have hval : ∀ (j : Nat) t v, Tryd.f5.params[j]? = some t → args[j]? = some v → Value.okWide Tryd.prog W .any base t v := hval0
  have hsz : (DataW.weightsEach Tryd.prog (Tryd.f5.params.toList ++ Rows.cellForgetsSpec.plain.varTypes Tryd.prog) (ds ++ gs)).all (· ≤ reachBytes) = true := hsz0
  have hW' := hW
  obtain ⟨p, q, hA0, hV, rfl, hfz, hnd⟩ := hW
  have hA : DataW.TrodAll enc Tryd.prog W 0 (fun _ => true) true Tryd.f5.params.toList args.toList ds p := hA0
  rw [Tryd.params5] at hA hval hsz
  have hA2 := hA
  obtain ⟨v0, v1, v2, d0, d1, d2, p0, p1, p2, rfl, rfl, rfl, h0, h1, h2⟩ := trodAll_three hA
  obtain ⟨rfl, rfl⟩ := trodVars_none hV
  obtain ⟨f, z, rfl, hz⟩ := open_cell (hval 0 24 v0 rfl rfl) h0
  obtain ⟨g, y, rfl, hy⟩ := open_cell (hval 1 24 v1 rfl rfl) h1
  obtain ⟨v, rfl, hv⟩ := Cel.open_float (hval 2 22 v2 rfl rfl) h2
  have hlt : ∀ y ∈ p0 ++ p1 ++ p2, y.block < W.heap.size := fun y hy => hW'.lt y (by simpa using hy)
  clear hA0 hval0 hsz0
  simp only [List.append_nil] at hW'
  refine (forgets_any f z g y v W hz hy hv hE).mono fun e W' ⟨he, hb⟩ => ?_
  subst he
  have e1 : (Rows.cellForgetsSpec.fn H ([d0, d1, d2] ++ [])) = { results := [.lit (.bool true)], args := [d0, d1, d2] } := rfl
  refine ⟨_, rfl, _, _, _, [], p0 ++ p1 ++ p2, [], hW', ?_, ?_, ?_, hb.frame _, fun h => by cases h⟩
  · rw [e1]; exact trodAll_mk1 (shut_bool Tryd.underlying4 _)
  · rw [e1]; exact trodAll_stays laidOut hb _ _ _ _ (fun t ht => by simp at ht; rcases ht with rfl | rfl <;> exact ⟨by kernel_rfl, of_decide_eq_true (by kernel_rfl)⟩) hA2 hlt
  · rw [e1]; rfl

theorem row_holds : Rows.CellForgetsSaid :=
  OpenClaim.holds_of_wide 5 Tryd.f5 rfl rfl rfl rfl rfl rfl rfl ⟨rfl, rfl, rfl, rfl, rfl⟩ rfl rfl rfl rfl rfl (by kernel_rfl) Tryd.func5 (by kernel_rfl)
    (of_decide_eq_true (by kernel_rfl)) (by unfold Func.isWrapper; rw [if_neg (of_decide_eq_false (by kernel_rfl))]; exact ⟨rfl, rfl⟩)
    (fun os started H enc _ => lifted os started H enc)

theorem holds : Rows.CellForgetsCardSaid :=
  Claim7.holds_tied_plain_at .later [] [.data, .data, .data] true (true, "34ab96419304a64a1bf352b3ce0f806596d2156ed8f713e78c3ae28a2d32aa27") false
    row_holds (fun _ h => by cases h) (by kernel_rfl) (fun _ h => by cases h) cellForgets_row_tie rfl ⟨rfl, rfl⟩ (by kernel_rfl) rfl
    (fun f fn hf hfn => by
      obtain rfl : f = 5 := Option.some.inj ((show Tryd.prog.funcNamed "cortege/cortegelaw12.CellForgets" = some 5 by kernel_rfl).symm.trans hf) |>.symm
      obtain rfl : fn = Tryd.f5 := (Option.some.inj (Tryd.func5.symm.trans hfn)).symm
      exact ⟨by kernel_rfl, fun j t ht => by
        rw [Tryd.params5] at ht
        have hm : t ∈ [24, 24, 22] := by simpa using Array.mem_of_getElem? ht
        have hall : ([24, 24, 22].all fun u => !Tryd.prog.wantsStandIn u) = true := by kernel_rfl
        exact (show Tryd.prog.wantsStandIn t = false by simpa using List.all_eq_true.1 hall t hm)⟩)
    (by kernel_rfl)
end lawCellForgets
end Go.Proofs.YtobechecnkmpaaaDoor
