/- Any list rises or not; sorted it does, with the same ids, each once; whether it has an id is told; what was handed in is as it was: the given statement on IdentLists, tied to the program's text. No condition: every input; the library's listed tables and errors are those of the program's text (the card's tie). -/
import Derived.Test.YtnjaoohgmfphgaaDoorIdRow
import Derived.Test.YtnjaoohgmfphgaaDoorIdY
import Derived.Deep.SlicePairs
import Derived.Test.YtnjaoohgmfphgaaDoorCards
import Derived.Test.YtnjaoohgmfphgaaDoorTie
import Derived.SevenTiedAt
import Derived.ChangeAlike
import Derived.JoinedStill
namespace Go.Proofs.YtnjaoohgmfphgaaDoor
open Go Go.ChangeShapes Go.WideShapes Go.ChangeAt Go.RowKit

set_option maxRecDepth 100000 in
theorem open_idl {H : Type} {enc : TypeId × Value → H} {W : World} {b0 base : Nat} {r : Reach} {spare : Nat → Bool} {held : Bool} {v : Value} {d : DataW H} {p : List MemPlace} (hv : Value.okWide Tryd.prog W r b0 23 v) (h : DataW.Trod enc Tryd.prog W base spare held 23 v d p) : ∃ x y : Int, v = .agg #[.int .i64 x, .int .i64 y] := by
  obtain ⟨v0, v1, y0, y1, n, rfl, -, -, t0, t1⟩ := Go.Joins.open_agg2 Tryd.underlying23 (by kernel_rfl) (by kernel_rfl) hv h
  obtain ⟨x, e0, -, -⟩ := DataW.trod_int Tryd.underlying3 t0
  obtain ⟨y, e1, -, -⟩ := DataW.trod_int Tryd.underlying3 t1
  simp only [List.cons.injEq, and_true] at e0 e1
  exact ⟨x, y, by rw [e0, e1]⟩

set_option maxRecDepth 100000 in
theorem open_list {H : Type} {enc : TypeId × Value → H} {W : World} {b0 base : Nat} {r : Reach} {spare : Nat → Bool} {held : Bool} {v : Value} {d : DataW H} {p : List MemPlace} (hv : Value.okWide Tryd.prog W r b0 35 v) (h : DataW.Trod enc Tryd.prog W base spare held 35 v d p) : ∃ zs : List Idn, RowAt W v zs := by
  obtain ⟨a, len, cap, rfl⟩ := okWide_slice Tryd.underlying35 hv
  obtain ⟨fuel, h⟩ := h
  have hc : (Value.slice a len cap).cells.toList = [.slice a len cap] := rfl
  rw [hc] at h
  rcases Go.Deep.open_slice_pairs Tryd.underlying35 Tryd.underlying23 (by kernel_rfl) rfl rfl (by kernel_rfl) (by kernel_rfl) h with ⟨h0, -⟩ | ⟨a', len', cap', m, n, V0, V1, D0, D1, P0, P1, h0, _, hl, hm, hmm, -, hall⟩
  · simp only [List.cons.injEq, and_true] at h0
    exact ⟨[], none, 0, h0, Nat.le_refl _, by omega, fun _ => rfl, fun h => absurd rfl h⟩
  · simp only [List.cons.injEq, and_true] at h0
    have hlm : len' ≤ m := by rw [hmm]; split <;> omega
    have key : ∀ i, i < len' → W.cell? (a'.add (i * 2)) = some (.int .i64 (Go.RowKit.intOf (V0 i))) ∧ W.cell? (a'.add (i * 2 + 1)) = some (.int .i64 (Go.RowKit.intOf (V1 i))) := fun i hi => by
      obtain ⟨c0, c1, t0, t1⟩ := hall i (by omega)
      obtain ⟨x, e0, -, -⟩ := DataW.trod_int Tryd.underlying3 t0
      obtain ⟨y, e1, -, -⟩ := DataW.trod_int Tryd.underlying3 t1
      simp only [List.cons.injEq, and_true] at e0 e1
      rw [e0] at c0 ⊢
      rw [e1] at c1 ⊢
      exact ⟨c0, c1⟩
    have hlen : ((List.range len').map fun i => ((Go.RowKit.intOf (V0 i), Go.RowKit.intOf (V1 i)) : Idn)).length = len' := by simp
    have hnth : ∀ j, j < len' → nth ((List.range len').map fun i => ((Go.RowKit.intOf (V0 i), Go.RowKit.intOf (V1 i)) : Idn)) j = (Go.RowKit.intOf (V0 j), Go.RowKit.intOf (V1 j)) := fun j hj => by
      unfold nth
      rw [List.getD_eq_getElem?_getD, List.getElem?_eq_getElem (by simpa using hj)]
      simp
    refine ⟨(List.range len').map fun i => (Go.RowKit.intOf (V0 i), Go.RowKit.intOf (V1 i)), some a', cap', by rw [hlen]; exact h0, by rw [hlen]; exact hl, by unfold maxLen at hm; omega, (fun e => by cases e), fun hz => ?_⟩
    have hpos : 0 < len' := by
      rcases Nat.eq_zero_or_pos len' with e | e
      · exact absurd (by rw [e]; rfl) hz
      · exact e
    have h00 := (key 0 hpos).1
    have ha : a'.add (0 * 2) = a' := by simp [Addr.add]
    rw [ha] at h00
    have hs := World.cell?_spot h00
    obtain ⟨b, off, sp⟩ := a'
    simp only at hs
    subst hs
    refine ⟨b, off, rfl, World.block_lt_of_cell? _ _ h00, fun j hj => ?_⟩
    rw [hlen] at hj
    have hk := key j hj
    have q : ∀ n, (⟨b, off, none⟩ : Addr).add n = ⟨b, off + n, none⟩ := fun n => Addr.add_lit _ _ _
    rw [q, q] at hk
    rw [hnth j hj]
    exact hk

namespace lawIdentLists
set_option maxRecDepth 100000 in
theorem lifted (os : Os) (started : os.Started) (H : Type) (enc : TypeId × Value → H) :
    ReturnsInHanded {} Tryd.checked os 5 .any (fun w args => (Rows.identListsSpec.pre enc Tryd.prog Tryd.f5 Rows.identListsRow.domain false w args ∧ laidMetH Tryd.prog Rows.identListsRow.laid w) ∧ sizedMet enc Tryd.prog Tryd.f5 (OpenSpec.ofChange Rows.identListsSpec) false w args)
      (Rows.identListsSpec.post enc Tryd.prog Tryd.f5 false true false false) := by
  refine returns_laid_shaped (C := Tryd.checked) (X := fun w _ => laidMetH Tryd.prog Rows.identListsRow.laid w) (fun _ _ _ hh h => h.of_heap hh) own started (by kernel_rfl) Tryd.func5
    (ChangeSpec.witness_at (enc := enc) (C := Tryd.checked) (os := os) (X := fun w _ => laidMetH Tryd.prog Rows.identListsRow.laid w) false (laidWorld os) #[.slice none 0 0, .agg #[.int .i64 0, .int .i64 0]] 8 rfl (by kernel_rfl) (by kernel_rfl) (by kernel_rfl) (by kernel_rfl) (by kernel_rfl) (laidWorld_met os _)) ?_
  intro W base args ds gs before hval0 hW hL hS
  have hE : Env W := env_of hL hS
  have hval : ∀ (j : Nat) t v, Tryd.f5.params[j]? = some t → args[j]? = some v → Value.okWide Tryd.prog W .any base t v := hval0
  have hW' := hW
  obtain ⟨p, q, hA0, hV, rfl, hfz, hnd⟩ := hW
  have hA : DataW.TrodAll enc Tryd.prog W 0 (fun _ => true) true Tryd.f5.params.toList args.toList ds p := hA0
  rw [Tryd.params5] at hA hval
  have hA2 := hA
  obtain ⟨v0, v1, d0, d1, p0, p1, rfl, rfl, rfl, h0, h1⟩ := trodAll_two hA
  obtain ⟨rfl, rfl⟩ := trodVars_none hV
  obtain ⟨zs, hrow⟩ := open_list (hval 0 35 v0 rfl rfl) h0
  obtain ⟨a, b, rfl⟩ := open_idl (hval 1 23 v1 rfl rfl) h1
  have hlt : ∀ x ∈ p0 ++ p1, x.block < W.heap.size := fun x hx => hW'.lt x (by simpa using hx)
  clear hA0 hval0
  simp only [List.append_nil] at hW'
  refine (lists_any v0 zs a b W hE hrow).mono fun e W' ⟨he, hl⟩ => ?_
  subst he
  have hb := hl.below
  have e1 : (Rows.identListsSpec.fn H ([d0, d1] ++ [])) = { results := [.lit (.bool true)], args := [d0, d1] } := rfl
  refine ⟨_, rfl, _, _, _, [], p0 ++ p1, [], hW', ?_, ?_, ?_, hb.frame _, fun h => by cases h⟩
  · rw [e1]; exact trodAll_mk1 (shut_bool Tryd.underlying4 _)
  · rw [e1]; exact trodAll_stays laidOut hb _ _ _ _ (fun t ht => by simp at ht; rcases ht with rfl | rfl <;> exact ⟨by kernel_rfl, of_decide_eq_true (by kernel_rfl)⟩) hA2 hlt
  · rw [e1]; rfl

theorem row_holds : Rows.IdentListsSaid :=
  OpenClaim.holds_of_wide 5 Tryd.f5 rfl rfl rfl rfl rfl rfl rfl ⟨rfl, rfl, rfl, rfl, rfl⟩ rfl rfl rfl rfl rfl (by kernel_rfl) Tryd.func5 (by kernel_rfl)
    (of_decide_eq_true (by kernel_rfl)) (by unfold Func.isWrapper; rw [if_neg (of_decide_eq_false (by kernel_rfl))]; exact ⟨rfl, rfl⟩)
    (fun os started H enc _ => lifted os started H enc)

theorem holds : Rows.IdentListsCardSaid :=
  Claim7.holds_tied_plain_at .later [] [.data, .data, .data, .sentinel, .sentinel] true (true, "1b52372a42a70e3fc79b2b0ee9b7dbb88a73f092ceae7437dd0054791e853ca4") true
    row_holds (fun _ h => by cases h) (by kernel_rfl) (fun _ h => by cases h) identLists_row_tie rfl ⟨rfl, rfl⟩ (by kernel_rfl) rfl
    (fun f fn hf hfn => by
      obtain rfl : f = 5 := Option.some.inj ((show Tryd.prog.funcNamed "cortege/cortegelaw03.IdentLists" = some 5 by kernel_rfl).symm.trans hf) |>.symm
      obtain rfl : fn = Tryd.f5 := (Option.some.inj (Tryd.func5.symm.trans hfn)).symm
      exact ⟨by kernel_rfl, fun j t ht => by
        rw [Tryd.params5] at ht
        have hm : t ∈ [35, 23] := by simpa using Array.mem_of_getElem? ht
        have hall : ([35, 23].all fun u => !Tryd.prog.wantsStandIn u) = true := by kernel_rfl
        exact (show Tryd.prog.wantsStandIn t = false by simpa using List.all_eq_true.1 hall t hm)⟩)
    (by kernel_rfl)
end lawIdentLists
end Go.Proofs.YtnjaoohgmfphgaaDoor
