/- Arguments opened, with their sizes: each list of a list of lists of ids that is within reach has not more than 1125899906842624 ids. No condition but those in each statement. -/
import Derived.Test.YtlkndpofegemdaaGreatOpenL
import Derived.Test.YtlkndpofegemdaaGreatTraF
import Derived.Test.YtlkndpofegemdaaGreatRows
import Derived.Test.YtlkndpofegemdaaGreatTraH
import Derived.Test.YtlkndpofegemdaaGreatTraV
import Derived.Test.YtlkndpofegemdaaGreatOpenG
import Derived.Test.YtlkndpofegemdaaGreatStay
import Derived.ChangeSame
import Derived.ChangeAlike
import Derived.JoinedOf
import Derived.JoinedAt
import Derived.JoinedStill
import Derived.RowKit
import Derived.ProofKit
namespace Go.Proofs.YtlkndpofegemdaaGreat.Tra
open Go.ChangeShapes Go.WideShapes Go.ChangeAt Go.RowKit Cmd Bat Ids Rec Wid Gra Rea Cps
set_option linter.unusedVariables false
set_option linter.unusedSimpArgs false

section
variable {H : Type} {enc : TypeId × Value → H} {W : World} {base : Nat} {spare : Nat → Bool} {held : Bool}
set_option maxRecDepth 100000 in
theorem one_short {n : Nat} {v : Value} {zs : List Idn} {y : DataW H × List MemPlace} (h : DataW.trod enc Tryz.prog W base spare held n 36 [v] = some y) (hz : RowAt W v zs) (hw : ∀ k ∈ y.1.weights Tryz.prog 36, k ≤ reachBytes) : zs.length ≤ 1125899906842624 := by
  obtain ⟨p, cap, rfl, -, -⟩ := row_slice hz
  rcases Go.Deep.open_slice Tryz.underlying36 h with ⟨h0, -⟩ | ⟨a, len, cap', m, n', D, Pl, h0, -, hlc, -, hmm, hy, hall⟩
  · simp only [List.cons.injEq, and_true, Value.slice.injEq] at h0
    rw [h0.2.1]; exact Nat.zero_le _
  · simp only [List.cons.injEq, and_true, Value.slice.injEq] at h0
    rw [hy] at hw
    have hs := hw _ (by simp only [DataW.weights, Tryz.underlying36]; exact List.mem_cons_self)
    rw [List.length_map, List.length_range, show Tryz.prog.bytesOf 43 = 16 by kernel_rfl, show reachBytes = 140737488351232 from rfl] at hs
    rw [h0.2.1]
    omega
set_option maxRecDepth 100000 in
theorem lls_short {v : Value} {ls : List (List Idn)} {d : DataW H} {p : List MemPlace} (hr : layLL.Row W v ls) (h : DataW.Trod enc Tryz.prog W base spare held 23 v d p) (hw : ∀ k ∈ d.weights Tryz.prog 23, k ≤ reachBytes) : Shrt ls := by
  obtain ⟨q, cap, rfl, h1, hd⟩ := hr.parts
  obtain ⟨fuel, h⟩ := h
  have hcs : (Value.slice q ls.length cap).cells.toList = [.slice q ls.length cap] := rfl
  rw [hcs] at h
  rcases Go.Deep.open_slice Tryz.underlying23 h with ⟨h0, -⟩ | ⟨a, len, cap', m, n, D, Pl, h0, hb, hl, hm, hmm, hy, hall⟩
  · simp only [List.cons.injEq, and_true, Value.slice.injEq] at h0
    rw [List.eq_nil_of_length_eq_zero h0.2.1]; intro c hc; cases hc
  · simp only [List.cons.injEq, and_true, Value.slice.injEq] at h0
    obtain ⟨e1, e2, e3⟩ := h0
    have hlm : len ≤ m := by rw [hmm]; split <;> omega
    have hd2 : d = .slice ((List.range len).map D) ((List.range (m - len)).map fun j => D (len + j)) := congrArg Prod.fst hy
    rw [hd2] at hw
    intro c hc
    obtain ⟨j, hj, rfl⟩ := (Lay.mem (L := layLL)).1 hc
    obtain ⟨B, off, e4, HC⟩ := hd.resolve_left (by omega)
    obtain ⟨p1, c1, hc1, hrj⟩ := llAt HC.out hj
    obtain ⟨cs, g1, g2⟩ := hall j (by omega)
    rw [show Tryz.prog.cellsOf 36 = 1 by kernel_rfl] at g1
    obtain ⟨-, g3, g4⟩ := World.cells?_some g1
    have g5 := g4 0 (by decide)
    rw [← Option.some.inj (e4.symm.trans e1), Addr.add_lit, Addr.add_lit, Nat.mul_one, Nat.add_zero, hc1] at g5
    obtain ⟨v1, rfl⟩ : ∃ v1, cs = [v1] := by
      match cs, g3 with
      | [v1], _ => exact ⟨v1, rfl⟩
    simp only [List.getElem?_cons_zero, Option.some.injEq] at g5
    rw [← g5] at g2
    exact one_short g2 hrj (sized_in Tryz.underlying23 hw (List.mem_map.2 ⟨j, List.mem_range.2 (by omega), rfl⟩))
end
end Go.Proofs.YtlkndpofegemdaaGreat.Tra

/- Traces told: the given statement on TracesTells. No condition: every input. -/
namespace Go.Proofs.YtlkndpofegemdaaGreat
open Go.ChangeShapes Go.WideShapes Go.ChangeAt Go.RowKit Cmd Bat Ids Rec Wid Gra Rea Cps Tra
set_option linter.unusedVariables false

namespace lawTracesTells
theorem tracesTells_any (v : Value) (rs : List Rcd) (x : Value) (xs : List (List Idn)) (y : Value) (ys : List (List Idn)) (w : World) (h : layG.Row w v rs) (hw : ∀ x ∈ rs, wfG x) (hx : layLL.Row w x xs) (hxw : ∀ c ∈ xs, ∀ z ∈ c, wfId z) (hy : layLL.Row w y ys) (hyw : ∀ c ∈ ys, ∀ z ∈ c, wfId z) (hxs : Shrt xs) (hys : Shrt ys) : Calls Tryz.prog 3 #[v, x, y] w (RetBelow (.bool true) w) := by
  obtain ⟨px, cx, rfl, -, -⟩ := hx.parts
  obtain ⟨py, cy, rfl, -, -⟩ := hy.parts
  exact ttells_any graphs traces (fun w => tplay_any graphs traces w) v px _ cx py _ cy rs w h xs ys hw hx hxw hy hyw hxs hys

set_option maxRecDepth 100000 in
theorem lifted (os : Os) (started : os.Started) (H : Type) (enc : TypeId × Value → H) :
    ReturnsInHanded {} Tryz.checked os 3 .any (Rows.tracesTellsSpec.pre6 enc Tryz.prog Tryz.f3 Rows.tracesTellsRow.domain false) (Rows.tracesTellsSpec.post enc Tryz.prog Tryz.f3 false true false false) := by
  refine returnsInHanded_of_change_sized (C := Tryz.checked) own started (by kernel_rfl) Tryz.func3
    (ChangeSpec.witness6 (enc := enc) (C := Tryz.checked) false ⟨#[], #[.slice none 0 0, .slice none 0 0, .slice none 0 0], []⟩ 8 (by kernel_rfl) (by kernel_rfl) (by kernel_rfl) (by kernel_rfl)) ?_
  intro W base args ds gs before hval0 hW hcnd hsz0 _
  have hval : ∀ (j : Nat) t v, Tryz.f3.params[j]? = some t → args[j]? = some v → Value.okWide Tryz.prog W .any base t v := hval0
  have hsz : (DataW.weightsEach Tryz.prog (Tryz.f3.params.toList ++ Rows.tracesTellsSpec.plain.varTypes Tryz.prog) (ds ++ gs)).all (· ≤ reachBytes) = true := hsz0
  have hW' := hW
  obtain ⟨p, q, hA0, hV, rfl, hfz, hnd⟩ := hW
  have hA : DataW.TrodAll enc Tryz.prog W 0 (fun _ => true) true Tryz.f3.params.toList args.toList ds p := hA0
  rw [Tryz.params3] at hA hval hsz
  have hA2 := hA
  obtain ⟨v0, v1, v2, d0, d1, d2, p0, p1, p2, rfl, rfl, rfl, h0, h1, h2⟩ := trodAll_three hA
  obtain ⟨rfl, rfl⟩ := trodVars_none hV
  obtain ⟨rs0, rg0, wg0⟩ := open_recs (hval 0 22 v0 rfl rfl) h0 (sized_all hsz (j := 0) rfl rfl)
  obtain ⟨ls1, rl1, wl1⟩ := open_lls (hval 1 23 v1 rfl rfl) h1
  obtain ⟨ls2, rl2, wl2⟩ := open_lls (hval 2 23 v2 rfl rfl) h2
  have hlt : ∀ x ∈ p0 ++ p1 ++ p2, x.block < W.heap.size := fun x hx => hW'.lt x (by simpa using hx)
  clear hA0 hval0 hsz0
  simp only [List.append_nil] at hW'
  refine (tracesTells_any v0 rs0 v1 ls1 v2 ls2 W rg0 wg0 rl1 wl1 rl2 wl2 (lls_short rl1 h1 (sized_all hsz (j := 1) rfl rfl)) (lls_short rl2 h2 (sized_all hsz (j := 2) rfl rfl))).mono fun e W' ⟨he, hb⟩ => ?_
  subst he
  have e1 : (Rows.tracesTellsSpec.fn H ([d0, d1, d2] ++ [])) = { results := [.lit (.bool true)], args := [d0, d1, d2] } := rfl
  refine ⟨_, rfl, _, _, _, [], p0 ++ p1 ++ p2, [], hW', ?_, ?_, ?_, hb.frame _, fun h => by cases h⟩
  · rw [e1]; exact trodAll_mk1 (shut_bool Tryz.underlying4 _)
  · rw [e1]; exact trodAll_stays laidOut hb _ _ _ _ (fun t ht => by simp at ht; rcases ht with rfl | rfl <;> exact ⟨by kernel_rfl, of_decide_eq_true (by kernel_rfl)⟩) hA2 hlt
  · rw [e1]; rfl

theorem holds : Rows.TracesTellsSaid :=
  OpenClaim.holds_of_wide 3 Tryz.f3 rfl rfl rfl rfl rfl rfl rfl ⟨rfl, rfl, rfl, rfl, rfl⟩ rfl rfl rfl rfl rfl (by kernel_rfl) Tryz.func3 (by kernel_rfl)
    (of_decide_eq_true (by kernel_rfl)) (by unfold Func.isWrapper; rw [if_neg (of_decide_eq_false (by kernel_rfl))]; exact ⟨rfl, rfl⟩)
    (fun os started H enc _ => lifted os started H enc)
end lawTracesTells
end Go.Proofs.YtlkndpofegemdaaGreat
