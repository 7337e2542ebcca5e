/- What the developers' calls of layer 16 (reach) must give, said of any way to keep graphs; the small play of its statements: it returns true. No condition but those in each statement. (Written by tools/gen_reaw.py.) -/
import Derived.Test.YthcejcffnjhomaaGreatReaA
import Derived.Test.YthcejcffnjhomaaGreatGraW
namespace Go.Proofs.YthcejcffnjhomaaGreat.Rea
open Go.RowKit Cmd Bat Ids Rec Wid Gra
set_option linter.unusedVariables false
set_option linter.unusedSimpArgs false


/-! ### The play's records -/
def prs : List Rcd := [((0, 1), 1, [(0, 2)], []), ((0, 2), 1, [], []), ((0, 3), 1, [(0, 9)], [])]
theorem prs_err : gErr prs = 0 := by decide
theorem prs_lot : Lot prs := by
  have key : ∀ x ∈ prs, wfG x ∧ x.2.2.1.length ≤ 1000 ∧ x.2.2.2.length ≤ 1000 := fun x hx => by
    unfold prs at hx
    simp only [List.mem_cons, List.not_mem_nil, or_false] at hx
    rcases hx with rfl | rfl | rfl
    · exact ⟨⟨⟨by decide, by decide⟩, fun d hd => by rw [List.mem_singleton.1 hd]; exact ⟨by decide, by decide⟩, fun c hc => by cases hc⟩, by decide, by decide⟩
    · exact ⟨⟨⟨by decide, by decide⟩, fun d hd => (by cases hd), fun c hc => (by cases hc)⟩, by decide, by decide⟩
    · exact ⟨⟨⟨by decide, by decide⟩, fun d hd => by rw [List.mem_singleton.1 hd]; exact ⟨by decide, by decide⟩, fun c hc => by cases hc⟩, by decide, by decide⟩
  exact ⟨fun x hx => (key x hx).1, by decide, fun x hx => (key x hx).2⟩
theorem dp1 : dpG prs (0, 1) = [(0, 2)] := by decide
theorem dp2 : dpG prs (0, 2) = [] := by decide
theorem dp3 : dpG prs (0, 3) = [(0, 9)] := by decide
theorem rch2 {z : Idn} (h : Rch prs (0, 2) z) : z = (0, 2) := by
  induction h with
  | here => rfl
  | more _ hd ih => rw [ih, dp2] at hd; cases hd
theorem rch1 {z : Idn} (h : Rch prs (0, 1) z) : z = (0, 1) ∨ z = (0, 2) := by
  induction h with
  | here => exact .inl rfl
  | more _ hd ih =>
    rcases ih with ih | ih
    · rw [ih, dp1] at hd; exact .inr (List.mem_singleton.1 hd)
    · rw [ih, dp2] at hd; cases hd
theorem prs_closed : closedG prs = [(0, 1), (0, 2)] := by
  refine rise_eq (srt_rise _) (by decide) fun x => ?_
  rw [closed_mem]
  constructor
  · intro h
    have hx := h x (.here x)
    have hx : x ∈ [((0, 1) : Idn), (0, 2), (0, 3)] := hx
    simp only [List.mem_cons, List.not_mem_nil, or_false] at hx ⊢
    rcases hx with rfl | rfl | rfl
    · exact .inl rfl
    · exact .inr rfl
    · exact absurd (h (0, 9) (.more (.here _) (by rw [dp3]; exact List.mem_singleton.2 rfl))) (by decide)
  · intro h z hz
    simp only [List.mem_cons, List.not_mem_nil, or_false] at h
    rcases h with rfl | rfl
    · rcases rch1 hz with rfl | rfl <;> decide
    · rw [rch2 hz]; decide
theorem prs_path : ((0, 2) : Idn) ∈ fromG prs [(0, 1)] := from_mem.2 ⟨_, List.mem_singleton.2 rfl, .more (.here _) (by rw [dp1]; exact List.mem_singleton.2 rfl)⟩
theorem prs_not : ((0, 1) : Idn) ∉ fromG prs [(0, 2)] := fun h => by
  obtain ⟨a, ha, hr⟩ := from_mem.1 h
  rw [List.mem_singleton.1 ha] at hr
  have := rch2 hr
  revert this; decide
theorem prs_whole : wholeG prs [(0, 2)] = true := whole_iff.2 fun a ha z hz => by
  rw [List.mem_singleton.1 ha] at hz
  rw [rch2 hz]; exact ⟨by decide, by decide⟩
theorem two_id {W : World} {g : Nat} {x y a b : Int} (h : W.heap[g]? = some (.cells #[.int .i64 x, .int .i64 y, .int .i64 a, .int .i64 b] 41 (0, 0))) : RowAt W (.slice (some ⟨g, 0, none⟩) 2 2) [(x, y), (a, b)] := by
  refine ⟨_, 2, rfl, Nat.le_refl _, by omega, (fun e => by cases e), fun _ => ⟨g, 0, rfl, (Array.getElem?_eq_some_iff.1 h).1, fun j hj => ?_⟩⟩
  have hj2 : j = 0 ∨ j = 1 := by simp at hj; omega
  rcases hj2 with rfl | rfl
  · exact ⟨cell_row h rfl, cell_row h rfl⟩
  · exact ⟨cell_row h rfl, cell_row h rfl⟩
theorem three_rec {W : World} {g : Nat} {v1 v3 : Value} (h : W.heap[g]? = some (.cells #[.int .i64 0, .int .i64 1, .int .i64 1, v1, .slice none 0 0, .int .i64 0, .int .i64 2, .int .i64 1, .slice none 0 0, .slice none 0 0, .int .i64 0, .int .i64 3, .int .i64 1, v3, .slice none 0 0] 48 (0, 0)))
    (h1 : RowAt W v1 [(0, 2)]) (h3 : RowAt W v3 [(0, 9)]) : layG.Row W (.slice (some ⟨g, 0, none⟩) 3 3) prs := by
  have hn : RowAt W (.slice none 0 0) [] := ⟨none, 0, rfl, Nat.le_refl _, by omega, fun _ => rfl, fun h => absurd rfl h⟩
  refine ⟨_, 3, rfl, Nat.le_refl _, by omega, fun _ => ⟨g, 0, rfl, (Array.getElem?_eq_some_iff.1 h).1, fun j hj => ?_⟩⟩
  have hj3 : j = 0 ∨ j = 1 ∨ j = 2 := by have : j < 3 := hj; omega
  rcases hj3 with rfl | rfl | rfl
  · exact ⟨cell_row h rfl, cell_row h rfl, cell_row h rfl, ⟨v1, cell_row h rfl, h1⟩, _, cell_row h rfl, no_cmds W⟩
  · exact ⟨cell_row h rfl, cell_row h rfl, cell_row h rfl, ⟨_, cell_row h rfl, hn⟩, _, cell_row h rfl, no_cmds W⟩
  · exact ⟨cell_row h rfl, cell_row h rfl, cell_row h rfl, ⟨v3, cell_row h rfl, h3⟩, _, cell_row h rfl, no_cmds W⟩
end Go.Proofs.YthcejcffnjhomaaGreat.Rea
