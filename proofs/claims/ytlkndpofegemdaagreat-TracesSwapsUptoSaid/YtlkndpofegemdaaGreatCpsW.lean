/- Plain: the components part the closed ids: each in just one, two of one mutual, two of different ones not (layer 17, comps). -/
import Derived.Test.YtlkndpofegemdaaGreatReg
import Derived.Test.YtlkndpofegemdaaGreatCpsA
import Derived.Test.YtlkndpofegemdaaGreatCpsS
import Derived.Test.YtlkndpofegemdaaGreatGraG
import Derived.Test.YtlkndpofegemdaaGreatRecD
namespace Go.Proofs.YtlkndpofegemdaaGreat.Cps
open Go.RowKit Cmd Bat Ids Rec Wid Gra Rea
set_option linter.unusedVariables false
set_option linter.unusedSimpArgs false

theorem nth_in {l : List Idn} {k : Nat} (h : k < l.length) : nth l k ∈ l := by unfold nth; rw [List.getD_eq_getElem?_getD, List.getElem?_eq_getElem h]; exact List.getElem_mem h
theorem in_nth {l : List Idn} {z : Idn} (h : z ∈ l) : ∃ i, i < l.length ∧ nth l i = z := by
  obtain ⟨i, hi, e⟩ := List.getElem_of_mem h
  exact ⟨i, hi, by unfold nth; rw [List.getD_eq_getElem?_getD, List.getElem?_eq_getElem hi]; exact e⟩
theorem ofP_yes {rs : List Rcd} {all : List Idn} {k : Nat} (h : 0 ≤ atL (ofL rs all k) (nth all k)) : ofL rs all (k + 1) = ofL rs all k := if_pos h
theorem ofP_no {rs : List Rcd} {all : List Idn} {k : Nat} (h : ¬ 0 ≤ atL (ofL rs all k) (nth all k)) : ofL rs all (k + 1) = ofL rs all k ++ [(all.drop k).filter fun y => mutG rs (nth all k) y] := if_neg h
/-- What the components of the first k are. -/
structure Parts (rs : List Rcd) (all : List Idn) (L : List (List Idn)) (k : Nat) : Prop where
  cov : ∀ i, i < k → ∃ c ∈ L, nth all i ∈ c
  cls : ∀ c ∈ L, ∃ r, r ∈ all ∧ ∀ z, z ∈ c ↔ z ∈ all ∧ mutG rs r z = true
  nd : ∀ c ∈ L, c.Nodup
  dj : L.Pairwise fun c d => ∀ z, z ∈ c → z ∉ d
theorem parts_any {rs : List Rcd} {all : List Idn} (hid : ∀ z ∈ all, z ∈ idsG rs) (hnd : all.Nodup) : ∀ k, k ≤ all.length → Parts rs all (ofL rs all k) k
  | 0, _ => ⟨fun i hi => absurd hi (Nat.not_lt_zero _), fun c hc => absurd hc List.not_mem_nil, fun c hc => absurd hc List.not_mem_nil, List.Pairwise.nil⟩
  | k + 1, hk => by
    have ih := parts_any hid hnd k (by omega)
    by_cases h : 0 ≤ atL (ofL rs all k) (nth all k)
    · rw [ofP_yes h]
      refine ⟨fun i hi => ?_, ih.cls, ih.nd, ih.dj⟩
      by_cases e : i < k
      · exact ih.cov i e
      · obtain rfl : i = k := by omega
        exact (atL_ge _ _).1 (decide_eq_true h)
    · rw [ofP_no h]
      have hno : ∀ c ∈ ofL rs all k, nth all k ∉ c := fun c hc hx => h (of_decide_eq_true ((atL_ge _ _).2 ⟨c, hc, hx⟩))
      have hxa : nth all k ∈ all := nth_in (by omega)
      generalize hX : nth all k = x at *
      have over : ∀ c ∈ ofL rs all k, ∀ z, z ∈ c → mutG rs x z = true → False := fun c hc z hz hm => by
        obtain ⟨r, hr, hcl⟩ := ih.cls c hc
        exact hno c hc ((hcl x).2 ⟨hxa, mut_trans ((hcl z).1 hz).2 (by rw [mut_comm]; exact hm)⟩)
      have mem : ∀ z, z ∈ ((all.drop k).filter fun y => mutG rs x y) ↔ z ∈ all ∧ mutG rs x z = true := fun z => by
        rw [List.mem_filter]
        refine ⟨fun ⟨h1, h2⟩ => ⟨List.mem_of_mem_drop h1, h2⟩, fun ⟨h1, h2⟩ => ⟨?_, h2⟩⟩
        obtain ⟨i, hi, e⟩ := in_nth h1
        by_cases hik : i < k
        · obtain ⟨c, hc, hz⟩ := ih.cov i hik
          rw [e] at hz
          exact absurd h2 (fun h2 => over c hc z hz h2)
        · rw [List.mem_iff_getElem?]
          refine ⟨i - k, ?_⟩
          rw [List.getElem?_drop, show k + (i - k) = i by omega, List.getElem?_eq_getElem hi]
          unfold nth at e
          rw [List.getD_eq_getElem?_getD, List.getElem?_eq_getElem hi] at e
          exact congrArg some e
      refine ⟨fun i hi => ?_, fun c hc => ?_, fun c hc => ?_, ?_⟩
      · by_cases e : i < k
        · obtain ⟨c, hc, hz⟩ := ih.cov i e
          exact ⟨c, List.mem_append_left _ hc, hz⟩
        · obtain rfl : i = k := by omega
          rw [hX]
          exact ⟨_, List.mem_append_right _ (List.mem_singleton.2 rfl), (mem x).2 ⟨hxa, mut_self (hid x hxa)⟩⟩
      · rcases List.mem_append.1 hc with hc | hc
        · exact ih.cls c hc
        · rw [List.mem_singleton] at hc; subst hc
          exact ⟨x, hxa, mem⟩
      · rcases List.mem_append.1 hc with hc | hc
        · exact ih.nd c hc
        · rw [List.mem_singleton] at hc; subst hc
          exact (hnd.sublist (List.drop_sublist _ _)).sublist (List.filter_sublist)
      · refine List.pairwise_append.2 ⟨ih.dj, List.pairwise_singleton _ _, fun c hc d hd z hz hzd => ?_⟩
        rw [List.mem_singleton] at hd; subst hd
        exact over c hc z hz ((mem z).1 hzd).2
theorem parts_all {rs : List Rcd} {all : List Idn} (hid : ∀ z ∈ all, z ∈ idsG rs) (hnd : all.Nodup) : Parts rs all (ofL rs all all.length) all.length := parts_any hid hnd _ (Nat.le_refl _)
/-- Where an id is, is equal just where two are mutual. -/
theorem parts_at {rs : List Rcd} {all : List Idn} {L : List (List Idn)} (h : Parts rs all L all.length) {a b : Idn} (ha : a ∈ all) (hb : b ∈ all) : decide (atL L a = atL L b) = mutG rs a b := by
  have cov : ∀ {z}, z ∈ all → ∃ c ∈ L, z ∈ c := fun hz => by
    obtain ⟨i, hi, e⟩ := in_nth hz
    have := h.cov i hi
    rw [e] at this; exact this
  have cls : ∀ j, j < L.length → ∃ r, r ∈ all ∧ ∀ z, z ∈ L.getD j [] ↔ z ∈ all ∧ mutG rs r z = true := fun j hj => h.cls _ (by rw [List.getD_eq_getElem?_getD, List.getElem?_eq_getElem hj]; exact List.getElem_mem hj)
  have spot : ∀ {z}, z ∈ all → ∃ j, j < L.length ∧ z ∈ L.getD j [] ∧ (∀ i, i < j → z ∉ L.getD i []) ∧ atL L z = j := fun {z} hz => by
    rcases atL_cases L z with ⟨j, h1, h2, h3, h4⟩ | ⟨h1, -⟩
    · exact ⟨j, h1, h2, h3, h4⟩
    · have := (atL_ge L z).2 (cov hz)
      rw [h1] at this; exact absurd this (by decide)
  obtain ⟨i, i1, i2, i3, i4⟩ := spot ha
  obtain ⟨j, j1, j2, j3, j4⟩ := spot hb
  rw [i4, j4]
  cases hm : mutG rs a b with
  | true =>
    have move : ∀ {x y t}, t < L.length → y ∈ all → mutG rs x y = true → x ∈ L.getD t [] → y ∈ L.getD t [] := fun ht hy hxy hx => by
      obtain ⟨r, -, hcl⟩ := cls _ ht
      exact (hcl _).2 ⟨hy, mut_trans ((hcl _).1 hx).2 hxy⟩
    have hji : ¬ i < j := fun hl => j3 i hl (move i1 hb hm i2)
    have hij : ¬ j < i := fun hl => i3 j hl (move j1 ha (by rw [mut_comm]; exact hm) j2)
    exact decide_eq_true (by omega)
  | false =>
    refine decide_eq_false fun e => ?_
    obtain rfl : i = j := by omega
    obtain ⟨r, -, hcl⟩ := cls i i1
    have := mut_trans (show mutG rs a r = true by rw [mut_comm]; exact ((hcl a).1 i2).2) ((hcl b).1 j2).2
    rw [hm] at this; cases this
/-- All together are as many as the closed ones. -/
theorem parts_len {rs : List Rcd} {all : List Idn} {L : List (List Idn)} (h : Parts rs all L all.length) (hnd : all.Nodup) : L.flatten.length = all.length := by
  have h1 : L.flatten.Nodup := by
    unfold List.Nodup
    rw [List.pairwise_flatten]
    refine ⟨h.nd, List.Pairwise.imp (fun {c d} hcd => ?_) h.dj⟩
    intro x hx y hy e
    subst e
    exact hcd _ hx hy
  refine Nat.le_antisymm (nodup_lenI h1 fun z hz => ?_) (nodup_lenI hnd fun z hz => ?_)
  · obtain ⟨c, hc, hzc⟩ := List.mem_flatten.1 hz
    obtain ⟨r, -, hcl⟩ := h.cls c hc
    exact ((hcl z).1 hzc).1
  · obtain ⟨i, hi, e⟩ := in_nth hz
    obtain ⟨c, hc, hx⟩ := h.cov i hi
    rw [e] at hx
    exact List.mem_flatten.2 ⟨c, hc, hx⟩
theorem all_len (rs : List Rcd) : (allR rs).length = (closedG rs).length := by
  have h1 : (allR rs).Nodup := riseR_nodup (sortR_rise rs _)
  have h2 : (closedG rs).Nodup := rise_nodupI (by unfold closedG; exact srt_rise _)
  refine Nat.le_antisymm (nodup_lenI h1 fun z hz => (sortR_mem.1 hz).1) (nodup_lenI h2 fun z hz => sortR_mem.2 ⟨hz, closed_mem.1 hz z (.here z)⟩)
theorem all_mem {rs : List Rcd} {x : Idn} : x ∈ allR rs ↔ x ∈ closedG rs := by
  unfold allR
  rw [sortR_mem]
  exact ⟨fun h => h.1, fun h => ⟨h, closed_mem.1 h x (.here x)⟩⟩
theorem of_parts (rs : List Rcd) : Parts rs (allR rs) (ofG rs) (allR rs).length := parts_all (fun z hz => (sortR_mem.1 hz).2) (riseR_nodup (sortR_rise rs _))
theorem of_at {rs : List Rcd} {a b : Idn} (ha : a ∈ closedG rs) (hb : b ∈ closedG rs) : decide (atL (ofG rs) a = atL (ofG rs) b) = mutG rs a b := parts_at (of_parts rs) (all_mem.2 ha) (all_mem.2 hb)
theorem of_len (rs : List Rcd) : (ofG rs).flatten.length = (closedG rs).length := (parts_len (of_parts rs) (riseR_nodup (sortR_rise rs _))).trans (all_len rs)
end Go.Proofs.YtlkndpofegemdaaGreat.Cps

/- What comps has to give (layer 17, comps), whatever way graphs are kept. -/
namespace Go.Proofs.YtlkndpofegemdaaGreat.Cps
open Go.RowKit Cmd Bat Ids Rec Wid Gra Rea
set_option linter.unusedVariables false
set_option linter.unusedSimpArgs false

/-- A result that is a list of lists of ids. -/
def GivesLL (L : List (List Idn)) (w : World) : Ending → World → Prop := fun e W => ∃ v, e = .returned v ∧ layLL.Row W v L ∧ Below w.heap.size w W
theorem cnew_ok {G : Nat → Nat → List Rcd → World → Prop} (HG : Graphs G) {v : Value} {rs : List Rcd} {w : World} (h : layG.Row w v rs) (hlot : Lot rs) (he : gErr rs = 0) : Calls Tryz.prog 8 #[v] w (fun E w' => ∃ g, E = .returned (.tuple #[gptr g, .int .i64 0]) ∧ G w'.heap.size g rs w' ∧ Below w.heap.size w w') :=
  (HG.new v rs w h hlot).mono fun E w' ⟨h1, h2⟩ => by
    rcases h2 with ⟨-, g, h3, h4⟩ | ⟨h3, -⟩
    · exact ⟨g, h3, h4, h1⟩
    · exact absurd he h3
theorem clot_few {rs : List Rcd} {m : Nat} (hw : ∀ x ∈ rs, wfG x) (hl : fewG rs m = true) (hm : m ≤ 1000) : Lot rs := ⟨hw, by have := (few_out hl).1; omega, fun r hr => by have := (few_out hl).2 r hr; exact ⟨by omega, by omega⟩⟩
theorem cdeps_low : ∀ {rs : List Rcd}, (∀ r ∈ rs, r.2.2.1.length ≤ 20) → (depsG rs).length ≤ rs.length * 20
  | [], _ => by simp [depsG]
  | r :: rs, h => by
    have h1 := cdeps_low (rs := rs) fun x hx => h x (List.mem_cons_of_mem _ hx)
    have h2 := h r List.mem_cons_self
    have e : depsG (r :: rs) = r.2.2.1 ++ depsG rs := rfl
    rw [e, List.length_append, List.length_cons]; omega
theorem cdeps_few {rs : List Rcd} (hl : fewG rs 14 = true) : (depsG rs).length ≤ 280 ∧ rs.length ≤ 14 := by
  have h := few_out hl
  have := cdeps_low (rs := rs) fun r hr => (h.2 r hr).1
  exact ⟨by omega, h.1⟩
end Go.Proofs.YtlkndpofegemdaaGreat.Cps

/- Plain: the components of the play's two records (layer 17, comps). -/
namespace Go.Proofs.YtlkndpofegemdaaGreat.Cps
open Go.RowKit Cmd Bat Ids Rec Wid Gra Rea
set_option linter.unusedVariables false
set_option linter.unusedSimpArgs false

def krs : List Rcd := [((1, 1), 5, [(1, 2)], []), ((1, 2), 3, [(1, 1)], [])]
theorem krs_err : gErr krs = 0 := by decide
theorem kdp1 : dpG krs (1, 1) = [(1, 2)] := by decide
theorem kdp2 : dpG krs (1, 2) = [(1, 1)] := by decide
theorem kr12 : Rch krs (1, 1) (1, 2) := .more (.here _) (by rw [kdp1]; exact List.mem_singleton.2 rfl)
theorem kr21 : Rch krs (1, 2) (1, 1) := .more (.here _) (by rw [kdp2]; exact List.mem_singleton.2 rfl)
theorem kids {x : Idn} : x ∈ idsG krs ↔ x = (1, 1) ∨ x = (1, 2) := by unfold idsG krs; simp
theorem kin {x z : Idn} (h : Rch krs x z) (hx : x ∈ idsG krs) : z ∈ idsG krs := by
  induction h with
  | here => exact hx
  | more h1 h2 ih =>
    rcases kids.1 ih with rfl | rfl
    · rw [kdp1] at h2; exact kids.2 (.inr (List.mem_singleton.1 h2))
    · rw [kdp2] at h2; exact kids.2 (.inl (List.mem_singleton.1 h2))
theorem kall : allR krs = [(1, 2), (1, 1)] := by
  refine riseR_eq (sortR_rise krs _) (by unfold RiseR; decide) fun x => ?_
  show x ∈ allR krs ↔ _
  rw [all_mem]
  constructor
  · intro h
    rcases kids.1 (closed_mem.1 h x (.here x)) with rfl | rfl <;> simp
  · intro h
    refine closed_mem.2 fun z hz => kin hz (kids.2 ?_)
    simp only [List.mem_cons, List.not_mem_nil, or_false] at h
    exact h.symm
theorem kmut : mutG krs (1, 2) (1, 1) = true := mut_iff.2 ⟨by decide, by decide, kr21, kr12⟩
theorem kself : mutG krs (1, 2) (1, 2) = true := mut_self (by decide)
theorem kof : ofG krs = [[(1, 2), (1, 1)]] := by
  unfold ofG
  rw [kall]
  have e0 : ofL krs [(1, 2), (1, 1)] 0 = [] := rfl
  have e1 : ofL krs [(1, 2), (1, 1)] 1 = [[(1, 2), (1, 1)]] := by
    rw [ofP_no (by rw [e0]; decide), e0]
    show [] ++ [List.filter (fun y => mutG krs (1, 2) y) [(1, 2), (1, 1)]] = _
    rw [List.filter_cons_of_pos kself, List.filter_cons_of_pos kmut]; rfl
  show ofL krs [(1, 2), (1, 1)] (1 + 1) = _
  rw [ofP_yes (by rw [e1]; decide), e1]
end Go.Proofs.YtlkndpofegemdaaGreat.Cps

/- The small play of layer 17's statements (comps): it returns true, whatever way graphs are kept (under Graphs and Comps). Conditions: those in each statement. (Written by tools/gen_cpsy.py.) -/
namespace Go.Proofs.YtlkndpofegemdaaGreat.Cps
open Go.RowKit Cmd Bat Ids Rec Wid Gra Rea
set_option linter.unusedVariables false
set_option linter.unusedSimpArgs false

theorem krs_lot : Lot krs := by
  have key : ∀ x ∈ krs, wfG x ∧ x.2.2.1.length ≤ 1000 ∧ x.2.2.2.length ≤ 1000 := fun x hx => by
    unfold krs at hx
    simp only [List.mem_cons, List.not_mem_nil, or_false] at hx
    rcases hx with rfl | rfl
    · exact ⟨⟨⟨by decide, by decide⟩, fun d hd => by rw [List.mem_singleton.1 hd]; exact ⟨by decide, by decide⟩, fun c hc => by cases hc⟩, by decide, by decide⟩
    · exact ⟨⟨⟨by decide, by decide⟩, fun d hd => by rw [List.mem_singleton.1 hd]; exact ⟨by decide, by decide⟩, fun c hc => by cases hc⟩, by decide, by decide⟩
  exact ⟨fun x hx => (key x hx).1, by decide, fun x hx => (key x hx).2⟩
theorem two_rec {W : World} {g : Nat} {v1 v2 : Value} (h : W.heap[g]? = some (.cells #[.int .i64 1, .int .i64 1, .int .i64 5, v1, .slice none 0 0, .int .i64 1, .int .i64 2, .int .i64 3, v2, .slice none 0 0] 46 (0, 0)))
    (h1 : RowAt W v1 [(1, 2)]) (h2 : RowAt W v2 [(1, 1)]) : layG.Row W (.slice (some ⟨g, 0, none⟩) 2 2) krs := by
  refine ⟨_, 2, rfl, Nat.le_refl _, by omega, fun _ => ⟨g, 0, rfl, (Array.getElem?_eq_some_iff.1 h).1, fun j hj => ?_⟩⟩
  have hj2 : j = 0 ∨ j = 1 := by have : j < 2 := hj; omega
  rcases hj2 with rfl | rfl
  · exact ⟨cell_row h rfl, cell_row h rfl, cell_row h rfl, ⟨v1, cell_row h rfl, h1⟩, _, cell_row h rfl, no_cmds W⟩
  · exact ⟨cell_row h rfl, cell_row h rfl, cell_row h rfl, ⟨v2, cell_row h rfl, h2⟩, _, cell_row h rfl, no_cmds W⟩
theorem one_id {W : World} {g : Nat} {a b : Int} (h : W.heap[g]? = some (.cells #[.int .i64 a, .int .i64 b] 43 (0, 0))) : RowAt W (.slice (some ⟨g, 0, none⟩) 1 1) [(a, b)] := by
  refine ⟨_, 1, rfl, Nat.le_refl _, by omega, (fun e => by cases e), fun _ => ⟨g, 0, rfl, (Array.getElem?_eq_some_iff.1 h).1, fun j hj => ?_⟩⟩
  obtain rfl : j = 0 := by simp at hj; omega
  exact ⟨cell_row h rfl, cell_row h rfl⟩
theorem two_id {W : World} {g : Nat} {x y a b : Int} (h : W.heap[g]? = some (.cells #[.int .i64 x, .int .i64 y, .int .i64 a, .int .i64 b] 43 (0, 0))) : RowAt W (.slice (some ⟨g, 0, none⟩) 2 2) [(x, y), (a, b)] := by
  refine ⟨_, 2, rfl, Nat.le_refl _, by omega, (fun e => by cases e), fun _ => ⟨g, 0, rfl, (Array.getElem?_eq_some_iff.1 h).1, fun j hj => ?_⟩⟩
  have hj2 : j = 0 ∨ j = 1 := by simp at hj; omega
  rcases hj2 with rfl | rfl
  · exact ⟨cell_row h rfl, cell_row h rfl⟩
  · exact ⟨cell_row h rfl, cell_row h rfl⟩
theorem ll_one {W : World} {g : Nat} {v : Value} {l : List Idn} (h : W.heap[g]? = some (.cells #[v] 36 (0, 0))) (hl : RowAt W v l) : layLL.Row W (.slice (some ⟨g, 0, none⟩) 1 1) [l] := by
  refine ⟨_, 1, rfl, Nat.le_refl _, by omega, fun _ => ⟨g, 0, rfl, (Array.getElem?_eq_some_iff.1 h).1, fun j hj => ?_⟩⟩
  obtain rfl : j = 0 := by simp at hj; omega
  exact ⟨v, cell_row h rfl, hl⟩
theorem ll_two {W : World} {g : Nat} {v u : Value} {l m : List Idn} (h : W.heap[g]? = some (.cells #[v, u] 36 (0, 0))) (hl : RowAt W v l) (hm : RowAt W u m) : layLL.Row W (.slice (some ⟨g, 0, none⟩) 2 2) [l, m] := by
  refine ⟨_, 2, rfl, Nat.le_refl _, by omega, fun _ => ⟨g, 0, rfl, (Array.getElem?_eq_some_iff.1 h).1, fun j hj => ?_⟩⟩
  have hj2 : j = 0 ∨ j = 1 := by simp at hj; omega
  rcases hj2 with rfl | rfl
  · exact ⟨v, cell_row h rfl, hl⟩
  · exact ⟨u, cell_row h rfl, hm⟩
theorem kll_same (v u : Value) (l : List (List Idn)) (w : World) (h : layLL.Row w v l) (h' : layLL.Row w u l) (hl : l.length ≤ 1000000) : Calls Tryz.prog 16 #[v, u] w (RetBelow (.bool true) w) := by
  have := refsamell_any v u l l w h h' hl
  rwa [decide_eq_true rfl] at this
end Go.Proofs.YtlkndpofegemdaaGreat.Cps

/- The statement's function CompsTells of layer 17 (comps): it returns true, whatever way graphs are kept (under Graphs and Comps) and where the play returns true. Conditions: the records lie in memory as their cells say; numbers' words of 64 bits; texts of a length that Go reads. -/
namespace Go.Proofs.YtlkndpofegemdaaGreat.Cps
open Go.RowKit Cmd Bat Ids Rec Wid Gra Rea
set_option linter.unusedVariables false
set_option linter.unusedSimpArgs false

theorem row_zeroL {w : World} {v : Value} (h : layLL.Row w v []) : ∃ p cap, v = .slice p 0 cap := by obtain ⟨p, cap, e, _⟩ := h; exact ⟨p, cap, e⟩
end Go.Proofs.YtlkndpofegemdaaGreat.Cps
