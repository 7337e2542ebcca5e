/- Plain: the components part the closed ids: each in just one, two of one mutual, two of different ones not (layer 17, comps). -/
import Derived.Test.YtjokejcokgeeiaaGreatReg
import Derived.Test.YtjokejcokgeeiaaGreatCpsA
import Derived.Test.YtjokejcokgeeiaaGreatCpsS
import Derived.Test.YtjokejcokgeeiaaGreatGraG
import Derived.Test.YtjokejcokgeeiaaGreatRecD
namespace Go.Proofs.YtjokejcokgeeiaaGreat.Cps
open Go.RowKit Cmd Bat Ids Rec Wid Gra Rea
set_option linter.unusedVariables false
set_option linter.unusedSimpArgs false

theorem nth_in {l : List Idn} {k : Nat} (h : k < l.length) : nth l k ∈ l := by unfold nth; rw [List.getD_eq_getElem?_getD, List.getElem?_eq_getElem h]; exact List.getElem_mem h
theorem in_nth {l : List Idn} {z : Idn} (h : z ∈ l) : ∃ i, i < l.length ∧ nth l i = z := by
  obtain ⟨i, hi, e⟩ := List.getElem_of_mem h
  exact ⟨i, hi, by unfold nth; rw [List.getD_eq_getElem?_getD, List.getElem?_eq_getElem hi]; exact e⟩
theorem ofP_yes {rs : List Rcd} {all : List Idn} {k : Nat} (h : 0 ≤ atL (ofL rs all k) (nth all k)) : ofL rs all (k + 1) = ofL rs all k := if_pos h
theorem ofP_no {rs : List Rcd} {all : List Idn} {k : Nat} (h : ¬ 0 ≤ atL (ofL rs all k) (nth all k)) : ofL rs all (k + 1) = ofL rs all k ++ [(all.drop k).filter fun y => mutG rs (nth all k) y] := if_neg h
/-- What the components of the first k are. -/
structure Parts (rs : List Rcd) (all : List Idn) (L : List (List Idn)) (k : Nat) : Prop where
  cov : ∀ i, i < k → ∃ c ∈ L, nth all i ∈ c
  cls : ∀ c ∈ L, ∃ r, r ∈ all ∧ ∀ z, z ∈ c ↔ z ∈ all ∧ mutG rs r z = true
  nd : ∀ c ∈ L, c.Nodup
  dj : L.Pairwise fun c d => ∀ z, z ∈ c → z ∉ d
theorem parts_any {rs : List Rcd} {all : List Idn} (hid : ∀ z ∈ all, z ∈ idsG rs) (hnd : all.Nodup) : ∀ k, k ≤ all.length → Parts rs all (ofL rs all k) k
  | 0, _ => ⟨fun i hi => absurd hi (Nat.not_lt_zero _), fun c hc => absurd hc List.not_mem_nil, fun c hc => absurd hc List.not_mem_nil, List.Pairwise.nil⟩
  | k + 1, hk => by
    have ih := parts_any hid hnd k (by omega)
    by_cases h : 0 ≤ atL (ofL rs all k) (nth all k)
    · rw [ofP_yes h]
      refine ⟨fun i hi => ?_, ih.cls, ih.nd, ih.dj⟩
      by_cases e : i < k
      · exact ih.cov i e
      · obtain rfl : i = k := by omega
        exact (atL_ge _ _).1 (decide_eq_true h)
    · rw [ofP_no h]
      have hno : ∀ c ∈ ofL rs all k, nth all k ∉ c := fun c hc hx => h (of_decide_eq_true ((atL_ge _ _).2 ⟨c, hc, hx⟩))
      have hxa : nth all k ∈ all := nth_in (by omega)
      generalize hX : nth all k = x at *
      have over : ∀ c ∈ ofL rs all k, ∀ z, z ∈ c → mutG rs x z = true → False := fun c hc z hz hm => by
        obtain ⟨r, hr, hcl⟩ := ih.cls c hc
        exact hno c hc ((hcl x).2 ⟨hxa, mut_trans ((hcl z).1 hz).2 (by rw [mut_comm]; exact hm)⟩)
      have mem : ∀ z, z ∈ ((all.drop k).filter fun y => mutG rs x y) ↔ z ∈ all ∧ mutG rs x z = true := fun z => by
        rw [List.mem_filter]
        refine ⟨fun ⟨h1, h2⟩ => ⟨List.mem_of_mem_drop h1, h2⟩, fun ⟨h1, h2⟩ => ⟨?_, h2⟩⟩
        obtain ⟨i, hi, e⟩ := in_nth h1
        by_cases hik : i < k
        · obtain ⟨c, hc, hz⟩ := ih.cov i hik
          rw [e] at hz
          exact absurd h2 (fun h2 => over c hc z hz h2)
        · rw [List.mem_iff_getElem?]
          refine ⟨i - k, ?_⟩
          rw [List.getElem?_drop, show k + (i - k) = i by omega, List.getElem?_eq_getElem hi]
          unfold nth at e
          rw [List.getD_eq_getElem?_getD, List.getElem?_eq_getElem hi] at e
          exact congrArg some e
      refine ⟨fun i hi => ?_, fun c hc => ?_, fun c hc => ?_, ?_⟩
      · by_cases e : i < k
        · obtain ⟨c, hc, hz⟩ := ih.cov i e
          exact ⟨c, List.mem_append_left _ hc, hz⟩
        · obtain rfl : i = k := by omega
          rw [hX]
          exact ⟨_, List.mem_append_right _ (List.mem_singleton.2 rfl), (mem x).2 ⟨hxa, mut_self (hid x hxa)⟩⟩
      · rcases List.mem_append.1 hc with hc | hc
        · exact ih.cls c hc
        · rw [List.mem_singleton] at hc; subst hc
          exact ⟨x, hxa, mem⟩
      · rcases List.mem_append.1 hc with hc | hc
        · exact ih.nd c hc
        · rw [List.mem_singleton] at hc; subst hc
          exact (hnd.sublist (List.drop_sublist _ _)).sublist (List.filter_sublist)
      · refine List.pairwise_append.2 ⟨ih.dj, List.pairwise_singleton _ _, fun c hc d hd z hz hzd => ?_⟩
        rw [List.mem_singleton] at hd; subst hd
        exact over c hc z hz ((mem z).1 hzd).2
theorem parts_all {rs : List Rcd} {all : List Idn} (hid : ∀ z ∈ all, z ∈ idsG rs) (hnd : all.Nodup) : Parts rs all (ofL rs all all.length) all.length := parts_any hid hnd _ (Nat.le_refl _)
theorem all_mem {rs : List Rcd} {x : Idn} : x ∈ allR rs ↔ x ∈ closedG rs := by
  unfold allR
  rw [sortR_mem]
  exact ⟨fun h => h.1, fun h => ⟨h, closed_mem.1 h x (.here x)⟩⟩
theorem of_parts (rs : List Rcd) : Parts rs (allR rs) (ofG rs) (allR rs).length := parts_all (fun z hz => (sortR_mem.1 hz).2) (riseR_nodup (sortR_rise rs _))
end Go.Proofs.YtjokejcokgeeiaaGreat.Cps

/- What comps has to give (layer 17, comps), whatever way graphs are kept. -/
namespace Go.Proofs.YtjokejcokgeeiaaGreat.Cps
open Go.RowKit Cmd Bat Ids Rec Wid Gra Rea
set_option linter.unusedVariables false
set_option linter.unusedSimpArgs false

/-- A result that is a list of lists of ids. -/
def GivesLL (L : List (List Idn)) (w : World) : Ending → World → Prop := fun e W => ∃ v, e = .returned v ∧ layLL.Row W v L ∧ Below w.heap.size w W
theorem cnew_ok {G : Nat → Nat → List Rcd → World → Prop} (HG : Graphs G) {v : Value} {rs : List Rcd} {w : World} (h : layG.Row w v rs) (hlot : Lot rs) (he : gErr rs = 0) : Calls Tryz.prog 8 #[v] w (fun E w' => ∃ g, E = .returned (.tuple #[gptr g, .int .i64 0]) ∧ G w'.heap.size g rs w' ∧ Below w.heap.size w w') :=
  (HG.new v rs w h hlot).mono fun E w' ⟨h1, h2⟩ => by
    rcases h2 with ⟨-, g, h3, h4⟩ | ⟨h3, -⟩
    · exact ⟨g, h3, h4, h1⟩
    · exact absurd he h3
theorem clot_few {rs : List Rcd} {m : Nat} (hw : ∀ x ∈ rs, wfG x) (hl : fewG rs m = true) (hm : m ≤ 1000) : Lot rs := ⟨hw, by have := (few_out hl).1; omega, fun r hr => by have := (few_out hl).2 r hr; exact ⟨by omega, by omega⟩⟩
theorem cdeps_low : ∀ {rs : List Rcd}, (∀ r ∈ rs, r.2.2.1.length ≤ 20) → (depsG rs).length ≤ rs.length * 20
  | [], _ => by simp [depsG]
  | r :: rs, h => by
    have h1 := cdeps_low (rs := rs) fun x hx => h x (List.mem_cons_of_mem _ hx)
    have h2 := h r List.mem_cons_self
    have e : depsG (r :: rs) = r.2.2.1 ++ depsG rs := rfl
    rw [e, List.length_append, List.length_cons]; omega
end Go.Proofs.YtjokejcokgeeiaaGreat.Cps

/- Plain: the components of the play's two records (layer 17, comps). -/
namespace Go.Proofs.YtjokejcokgeeiaaGreat.Cps
open Go.RowKit Cmd Bat Ids Rec Wid Gra Rea
set_option linter.unusedVariables false
set_option linter.unusedSimpArgs false

end Go.Proofs.YtjokejcokgeeiaaGreat.Cps

/- The small play of layer 17's statements (comps): it returns true, whatever way graphs are kept (under Graphs and Comps). Conditions: those in each statement. (Written by tools/gen_cpsy.py.) -/
namespace Go.Proofs.YtjokejcokgeeiaaGreat.Cps
open Go.RowKit Cmd Bat Ids Rec Wid Gra Rea
set_option linter.unusedVariables false
set_option linter.unusedSimpArgs false

theorem one_id {W : World} {g : Nat} {a b : Int} (h : W.heap[g]? = some (.cells #[.int .i64 a, .int .i64 b] 43 (0, 0))) : RowAt W (.slice (some ⟨g, 0, none⟩) 1 1) [(a, b)] := by
  refine ⟨_, 1, rfl, Nat.le_refl _, by omega, (fun e => by cases e), fun _ => ⟨g, 0, rfl, (Array.getElem?_eq_some_iff.1 h).1, fun j hj => ?_⟩⟩
  obtain rfl : j = 0 := by simp at hj; omega
  exact ⟨cell_row h rfl, cell_row h rfl⟩
theorem ll_one {W : World} {g : Nat} {v : Value} {l : List Idn} (h : W.heap[g]? = some (.cells #[v] 38 (0, 0))) (hl : RowAt W v l) : layLL.Row W (.slice (some ⟨g, 0, none⟩) 1 1) [l] := by
  refine ⟨_, 1, rfl, Nat.le_refl _, by omega, fun _ => ⟨g, 0, rfl, (Array.getElem?_eq_some_iff.1 h).1, fun j hj => ?_⟩⟩
  obtain rfl : j = 0 := by simp at hj; omega
  exact ⟨v, cell_row h rfl, hl⟩
theorem ll_two {W : World} {g : Nat} {v u : Value} {l m : List Idn} (h : W.heap[g]? = some (.cells #[v, u] 38 (0, 0))) (hl : RowAt W v l) (hm : RowAt W u m) : layLL.Row W (.slice (some ⟨g, 0, none⟩) 2 2) [l, m] := by
  refine ⟨_, 2, rfl, Nat.le_refl _, by omega, fun _ => ⟨g, 0, rfl, (Array.getElem?_eq_some_iff.1 h).1, fun j hj => ?_⟩⟩
  have hj2 : j = 0 ∨ j = 1 := by simp at hj; omega
  rcases hj2 with rfl | rfl
  · exact ⟨v, cell_row h rfl, hl⟩
  · exact ⟨u, cell_row h rfl, hm⟩
theorem kll_same (v u : Value) (l : List (List Idn)) (w : World) (h : layLL.Row w v l) (h' : layLL.Row w u l) (hl : l.length ≤ 1000000) : Calls Tryz.prog 10 #[v, u] w (RetBelow (.bool true) w) := by
  have := refsamell_any v u l l w h h' hl
  rwa [decide_eq_true rfl] at this
end Go.Proofs.YtjokejcokgeeiaaGreat.Cps

/- The statement's function CompsTells of layer 17 (comps): it returns true, whatever way graphs are kept (under Graphs and Comps) and where the play returns true. Conditions: the records lie in memory as their cells say; numbers' words of 64 bits; texts of a length that Go reads. -/
namespace Go.Proofs.YtjokejcokgeeiaaGreat.Cps
open Go.RowKit Cmd Bat Ids Rec Wid Gra Rea
set_option linter.unusedVariables false
set_option linter.unusedSimpArgs false

theorem row_zeroL {w : World} {v : Value} (h : layLL.Row w v []) : ∃ p cap, v = .slice p 0 cap := by obtain ⟨p, cap, e, _⟩ := h; exact ⟨p, cap, e⟩
end Go.Proofs.YtjokejcokgeeiaaGreat.Cps
