/- All of any commands, one by one, make of nothing what they must: the given statement on CellFolds, tied to the program's text. No condition: every input; the listed tables are those of the program's text (the card's tie). -/
import Derived.Test.YtobechecnkmpaaaDoorCelRow
import Derived.Test.YtobechecnkmpaaaDoorCelF
import Derived.Test.YtobechecnkmpaaaDoorCards
import Derived.Test.YtobechecnkmpaaaDoorTie
import Derived.SevenTiedAt
import Derived.ChangeAlike
import Derived.JoinedStill
namespace Go.Proofs.YtobechecnkmpaaaDoor
open Go Go.ChangeShapes Go.WideShapes Go.ChangeAt Go.RowKit Cmd Bat Cel
set_option linter.unusedVariables false

namespace lawCellFolds
theorem folds_any (v : Value) (xs : List Cmdn) (w : World) (h : layC.Row w v xs) (hw : ∀ x ∈ xs, wfC x) (hE : Env w) : Calls Tryd.prog 4 #[v] w (RetBelow (.bool true) w) := by
  by_cases hl : xs.length ≤ 200
  · exact folds_few v xs w h hw hl hE
  · obtain ⟨p, cap, rfl, h1, h2, -⟩ := h
    exact folds_many p xs.length cap w (by omega) (by omega) hE
set_option maxRecDepth 100000 in
theorem lifted (os : Os) (started : os.Started) (H : Type) (enc : TypeId × Value → H) :
    ReturnsInHanded {} Tryd.checked os 4 .any (fun w args => (Rows.cellFoldsSpec.pre enc Tryd.prog Tryd.f4 Rows.cellFoldsRow.domain false w args ∧ laidMetH Tryd.prog Rows.cellFoldsRow.laid w) ∧ sizedMet enc Tryd.prog Tryd.f4 (OpenSpec.ofChange Rows.cellFoldsSpec) false w args)
      (Rows.cellFoldsSpec.post enc Tryd.prog Tryd.f4 false true false false) := by
  refine returns_laid_sized (C := Tryd.checked) (X := fun w _ => laidMetH Tryd.prog Rows.cellFoldsRow.laid w) (fun _ _ _ hh h => h.of_heap hh) own started (by kernel_rfl) Tryd.func4
    (ChangeSpec.witness_at (enc := enc) (C := Tryd.checked) (os := os) (X := fun w _ => laidMetH Tryd.prog Rows.cellFoldsRow.laid w) false (laidWorld os) #[.slice none 0 0] 8 rfl (by kernel_rfl) (by kernel_rfl) (by kernel_rfl) (by kernel_rfl) (by kernel_rfl) (laidWorld_met os _)) ?_
  intro W base args ds gs before hval0 hW hL hS hsz0
  have hE : Env W := env_of hL
  have hval : ∀ (j : Nat) t v, Tryd.f4.params[j]? = some t → args[j]? = some v → Value.okWide Tryd.prog W .any base t v := hval0
  have hsz : (DataW.weightsEach Tryd.prog (Tryd.f4.params.toList ++ Rows.cellFoldsSpec.plain.varTypes Tryd.prog) (ds ++ gs)).all (· ≤ reachBytes) = true := hsz0
  have hW' := hW
  obtain ⟨p, q, hA0, hV, rfl, hfz, hnd⟩ := hW
  have hA : DataW.TrodAll enc Tryd.prog W 0 (fun _ => true) true Tryd.f4.params.toList args.toList ds p := hA0
  rw [Tryd.params4] at hA hval hsz
  have hA2 := hA
  obtain ⟨v0, d0, rfl, rfl, h0⟩ := trodAll_one hA
  obtain ⟨rfl, rfl⟩ := trodVars_none hV
  obtain ⟨xs, hrow, hwf⟩ := open_cmds hsz (j := 0) rfl rfl (hval 0 34 v0 rfl rfl) h0
  have hlt : ∀ y ∈ p, y.block < W.heap.size := fun y hy => hW'.lt y (by simpa using hy)
  clear hA0 hval0 hsz0
  simp only [List.append_nil] at hW'
  refine (folds_any v0 xs W hrow hwf hE).mono fun e W' ⟨he, hb⟩ => ?_
  subst he
  have e1 : (Rows.cellFoldsSpec.fn H ([d0] ++ [])) = { results := [.lit (.bool true)], args := [d0] } := rfl
  refine ⟨_, rfl, _, _, _, [], p, [], hW', ?_, ?_, ?_, hb.frame _, fun h => by cases h⟩
  · rw [e1]; exact trodAll_mk1 (shut_bool Tryd.underlying4 _)
  · rw [e1]; exact trodAll_stays laidOut hb _ _ _ _ (fun t ht => by simp at ht; rcases ht with rfl <;> exact ⟨by kernel_rfl, of_decide_eq_true (by kernel_rfl)⟩) hA2 hlt
  · rw [e1]; rfl

theorem row_holds : Rows.CellFoldsSaid :=
  OpenClaim.holds_of_wide 4 Tryd.f4 rfl rfl rfl rfl rfl rfl rfl ⟨rfl, rfl, rfl, rfl, rfl⟩ rfl rfl rfl rfl rfl (by kernel_rfl) Tryd.func4 (by kernel_rfl)
    (of_decide_eq_true (by kernel_rfl)) (by unfold Func.isWrapper; rw [if_neg (of_decide_eq_false (by kernel_rfl))]; exact ⟨rfl, rfl⟩)
    (fun os started H enc _ => lifted os started H enc)

theorem holds : Rows.CellFoldsCardSaid :=
  Claim7.holds_tied_plain_at .later [] [.data, .data, .data] true (true, "34ab96419304a64a1bf352b3ce0f806596d2156ed8f713e78c3ae28a2d32aa27") false
    row_holds (fun _ h => by cases h) (by kernel_rfl) (fun _ h => by cases h) cellFolds_row_tie rfl ⟨rfl, rfl⟩ (by kernel_rfl) rfl
    (fun f fn hf hfn => by
      obtain rfl : f = 4 := Option.some.inj ((show Tryd.prog.funcNamed "cortege/cortegelaw12.CellFolds" = some 4 by kernel_rfl).symm.trans hf) |>.symm
      obtain rfl : fn = Tryd.f4 := (Option.some.inj (Tryd.func4.symm.trans hfn)).symm
      exact ⟨by kernel_rfl, fun j t ht => by
        rw [Tryd.params4] at ht
        have hm : t ∈ [34] := by simpa using Array.mem_of_getElem? ht
        have hall : ([34].all fun u => !Tryd.prog.wantsStandIn u) = true := by kernel_rfl
        exact (show Tryd.prog.wantsStandIn t = false by simpa using List.all_eq_true.1 hall t hm)⟩)
    (by kernel_rfl)
end lawCellFolds
end Go.Proofs.YtobechecnkmpaaaDoor
