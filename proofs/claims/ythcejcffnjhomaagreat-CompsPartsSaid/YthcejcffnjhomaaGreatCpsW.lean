/- Plain: the components part the closed ids: each in just one, two of one mutual, two of different ones not (layer 17, comps). -/
import Derived.Test.YthcejcffnjhomaaGreatCpsA
import Derived.Test.YthcejcffnjhomaaGreatCpsS
import Derived.Test.YthcejcffnjhomaaGreatGraW
import Derived.Test.YthcejcffnjhomaaGreatRecD
namespace Go.Proofs.YthcejcffnjhomaaGreat.Cps
open Go.RowKit Cmd Bat Ids Rec Wid Gra Rea
set_option linter.unusedVariables false
set_option linter.unusedSimpArgs false

theorem nth_in {l : List Idn} {k : Nat} (h : k < l.length) : nth l k ∈ l := by unfold nth; rw [List.getD_eq_getElem?_getD, List.getElem?_eq_getElem h]; exact List.getElem_mem h
theorem in_nth {l : List Idn} {z : Idn} (h : z ∈ l) : ∃ i, i < l.length ∧ nth l i = z := by
  obtain ⟨i, hi, e⟩ := List.getElem_of_mem h
  exact ⟨i, hi, by unfold nth; rw [List.getD_eq_getElem?_getD, List.getElem?_eq_getElem hi]; exact e⟩
theorem ofP_yes {rs : List Rcd} {all : List Idn} {k : Nat} (h : 0 ≤ atL (ofL rs all k) (nth all k)) : ofL rs all (k + 1) = ofL rs all k := if_pos h
theorem ofP_no {rs : List Rcd} {all : List Idn} {k : Nat} (h : ¬ 0 ≤ atL (ofL rs all k) (nth all k)) : ofL rs all (k + 1) = ofL rs all k ++ [(all.drop k).filter fun y => mutG rs (nth all k) y] := if_neg h
/-- What the components of the first k are. -/
structure Parts (rs : List Rcd) (all : List Idn) (L : List (List Idn)) (k : Nat) : Prop where
  cov : ∀ i, i < k → ∃ c ∈ L, nth all i ∈ c
  cls : ∀ c ∈ L, ∃ r, r ∈ all ∧ ∀ z, z ∈ c ↔ z ∈ all ∧ mutG rs r z = true
  nd : ∀ c ∈ L, c.Nodup
  dj : L.Pairwise fun c d => ∀ z, z ∈ c → z ∉ d
theorem parts_any {rs : List Rcd} {all : List Idn} (hid : ∀ z ∈ all, z ∈ idsG rs) (hnd : all.Nodup) : ∀ k, k ≤ all.length → Parts rs all (ofL rs all k) k
  | 0, _ => ⟨fun i hi => absurd hi (Nat.not_lt_zero _), fun c hc => absurd hc List.not_mem_nil, fun c hc => absurd hc List.not_mem_nil, List.Pairwise.nil⟩
  | k + 1, hk => by
    have ih := parts_any hid hnd k (by omega)
    by_cases h : 0 ≤ atL (ofL rs all k) (nth all k)
    · rw [ofP_yes h]
      refine ⟨fun i hi => ?_, ih.cls, ih.nd, ih.dj⟩
      by_cases e : i < k
      · exact ih.cov i e
      · obtain rfl : i = k := by omega
        exact (atL_ge _ _).1 (decide_eq_true h)
    · rw [ofP_no h]
      have hno : ∀ c ∈ ofL rs all k, nth all k ∉ c := fun c hc hx => h (of_decide_eq_true ((atL_ge _ _).2 ⟨c, hc, hx⟩))
      have hxa : nth all k ∈ all := nth_in (by omega)
      generalize hX : nth all k = x at *
      have over : ∀ c ∈ ofL rs all k, ∀ z, z ∈ c → mutG rs x z = true → False := fun c hc z hz hm => by
        obtain ⟨r, hr, hcl⟩ := ih.cls c hc
        exact hno c hc ((hcl x).2 ⟨hxa, mut_trans ((hcl z).1 hz).2 (by rw [mut_comm]; exact hm)⟩)
      have mem : ∀ z, z ∈ ((all.drop k).filter fun y => mutG rs x y) ↔ z ∈ all ∧ mutG rs x z = true := fun z => by
        rw [List.mem_filter]
        refine ⟨fun ⟨h1, h2⟩ => ⟨List.mem_of_mem_drop h1, h2⟩, fun ⟨h1, h2⟩ => ⟨?_, h2⟩⟩
        obtain ⟨i, hi, e⟩ := in_nth h1
        by_cases hik : i < k
        · obtain ⟨c, hc, hz⟩ := ih.cov i hik
          rw [e] at hz
          exact absurd h2 (fun h2 => over c hc z hz h2)
        · rw [List.mem_iff_getElem?]
          refine ⟨i - k, ?_⟩
          rw [List.getElem?_drop, show k + (i - k) = i by omega, List.getElem?_eq_getElem hi]
          unfold nth at e
          rw [List.getD_eq_getElem?_getD, List.getElem?_eq_getElem hi] at e
          exact congrArg some e
      refine ⟨fun i hi => ?_, fun c hc => ?_, fun c hc => ?_, ?_⟩
      · by_cases e : i < k
        · obtain ⟨c, hc, hz⟩ := ih.cov i e
          exact ⟨c, List.mem_append_left _ hc, hz⟩
        · obtain rfl : i = k := by omega
          rw [hX]
          exact ⟨_, List.mem_append_right _ (List.mem_singleton.2 rfl), (mem x).2 ⟨hxa, mut_self (hid x hxa)⟩⟩
      · rcases List.mem_append.1 hc with hc | hc
        · exact ih.cls c hc
        · rw [List.mem_singleton] at hc; subst hc
          exact ⟨x, hxa, mem⟩
      · rcases List.mem_append.1 hc with hc | hc
        · exact ih.nd c hc
        · rw [List.mem_singleton] at hc; subst hc
          exact (hnd.sublist (List.drop_sublist _ _)).sublist (List.filter_sublist)
      · refine List.pairwise_append.2 ⟨ih.dj, List.pairwise_singleton _ _, fun c hc d hd z hz hzd => ?_⟩
        rw [List.mem_singleton] at hd; subst hd
        exact over c hc z hz ((mem z).1 hzd).2
theorem parts_all {rs : List Rcd} {all : List Idn} (hid : ∀ z ∈ all, z ∈ idsG rs) (hnd : all.Nodup) : Parts rs all (ofL rs all all.length) all.length := parts_any hid hnd _ (Nat.le_refl _)
/-- Where an id is, is equal just where two are mutual. -/
theorem parts_at {rs : List Rcd} {all : List Idn} {L : List (List Idn)} (h : Parts rs all L all.length) {a b : Idn} (ha : a ∈ all) (hb : b ∈ all) : decide (atL L a = atL L b) = mutG rs a b := by
  have cov : ∀ {z}, z ∈ all → ∃ c ∈ L, z ∈ c := fun hz => by
    obtain ⟨i, hi, e⟩ := in_nth hz
    have := h.cov i hi
    rw [e] at this; exact this
  have cls : ∀ j, j < L.length → ∃ r, r ∈ all ∧ ∀ z, z ∈ L.getD j [] ↔ z ∈ all ∧ mutG rs r z = true := fun j hj => h.cls _ (by rw [List.getD_eq_getElem?_getD, List.getElem?_eq_getElem hj]; exact List.getElem_mem hj)
  have spot : ∀ {z}, z ∈ all → ∃ j, j < L.length ∧ z ∈ L.getD j [] ∧ (∀ i, i < j → z ∉ L.getD i []) ∧ atL L z = j := fun {z} hz => by
    rcases atL_cases L z with ⟨j, h1, h2, h3, h4⟩ | ⟨h1, -⟩
    · exact ⟨j, h1, h2, h3, h4⟩
    · have := (atL_ge L z).2 (cov hz)
      rw [h1] at this; exact absurd this (by decide)
  obtain ⟨i, i1, i2, i3, i4⟩ := spot ha
  obtain ⟨j, j1, j2, j3, j4⟩ := spot hb
  rw [i4, j4]
  cases hm : mutG rs a b with
  | true =>
    have move : ∀ {x y t}, t < L.length → y ∈ all → mutG rs x y = true → x ∈ L.getD t [] → y ∈ L.getD t [] := fun ht hy hxy hx => by
      obtain ⟨r, -, hcl⟩ := cls _ ht
      exact (hcl _).2 ⟨hy, mut_trans ((hcl _).1 hx).2 hxy⟩
    have hji : ¬ i < j := fun hl => j3 i hl (move i1 hb hm i2)
    have hij : ¬ j < i := fun hl => i3 j hl (move j1 ha (by rw [mut_comm]; exact hm) j2)
    exact decide_eq_true (by omega)
  | false =>
    refine decide_eq_false fun e => ?_
    obtain rfl : i = j := by omega
    obtain ⟨r, -, hcl⟩ := cls i i1
    have := mut_trans (show mutG rs a r = true by rw [mut_comm]; exact ((hcl a).1 i2).2) ((hcl b).1 j2).2
    rw [hm] at this; cases this
/-- All together are as many as the closed ones. -/
theorem parts_len {rs : List Rcd} {all : List Idn} {L : List (List Idn)} (h : Parts rs all L all.length) (hnd : all.Nodup) : L.flatten.length = all.length := by
  have h1 : L.flatten.Nodup := by
    unfold List.Nodup
    rw [List.pairwise_flatten]
    refine ⟨h.nd, List.Pairwise.imp (fun {c d} hcd => ?_) h.dj⟩
    intro x hx y hy e
    subst e
    exact hcd _ hx hy
  refine Nat.le_antisymm (nodup_lenI h1 fun z hz => ?_) (nodup_lenI hnd fun z hz => ?_)
  · obtain ⟨c, hc, hzc⟩ := List.mem_flatten.1 hz
    obtain ⟨r, -, hcl⟩ := h.cls c hc
    exact ((hcl z).1 hzc).1
  · obtain ⟨i, hi, e⟩ := in_nth hz
    obtain ⟨c, hc, hx⟩ := h.cov i hi
    rw [e] at hx
    exact List.mem_flatten.2 ⟨c, hc, hx⟩
theorem all_len (rs : List Rcd) : (allR rs).length = (closedG rs).length := by
  have h1 : (allR rs).Nodup := riseR_nodup (sortR_rise rs _)
  have h2 : (closedG rs).Nodup := rise_nodupI (by unfold closedG; exact srt_rise _)
  refine Nat.le_antisymm (nodup_lenI h1 fun z hz => (sortR_mem.1 hz).1) (nodup_lenI h2 fun z hz => sortR_mem.2 ⟨hz, closed_mem.1 hz z (.here z)⟩)
theorem all_mem {rs : List Rcd} {x : Idn} : x ∈ allR rs ↔ x ∈ closedG rs := by
  unfold allR
  rw [sortR_mem]
  exact ⟨fun h => h.1, fun h => ⟨h, closed_mem.1 h x (.here x)⟩⟩
theorem of_parts (rs : List Rcd) : Parts rs (allR rs) (ofG rs) (allR rs).length := parts_all (fun z hz => (sortR_mem.1 hz).2) (riseR_nodup (sortR_rise rs _))
theorem of_at {rs : List Rcd} {a b : Idn} (ha : a ∈ closedG rs) (hb : b ∈ closedG rs) : decide (atL (ofG rs) a = atL (ofG rs) b) = mutG rs a b := parts_at (of_parts rs) (all_mem.2 ha) (all_mem.2 hb)
theorem of_len (rs : List Rcd) : (ofG rs).flatten.length = (closedG rs).length := (parts_len (of_parts rs) (riseR_nodup (sortR_rise rs _))).trans (all_len rs)
end Go.Proofs.YthcejcffnjhomaaGreat.Cps

/- What comps has to give (layer 17, comps), whatever way graphs are kept. -/
namespace Go.Proofs.YthcejcffnjhomaaGreat.Cps
open Go.RowKit Cmd Bat Ids Rec Wid Gra Rea
set_option linter.unusedVariables false
set_option linter.unusedSimpArgs false

/-- A result that is a list of lists of ids. -/
def GivesLL (L : List (List Idn)) (w : World) : Ending → World → Prop := fun e W => ∃ v, e = .returned v ∧ layLL.Row W v L ∧ Below w.heap.size w W
structure Comps (G : Nat → Nat → List Rcd → World → Prop) : Prop where
  of_ : ∀ {N g : Nat} {rs : List Rcd} {W : World}, G N g rs W → Calls Tryz.prog 11 #[gptr g] W (GivesLL (ofG rs) W)
  mut_ : ∀ {N g : Nat} {rs : List Rcd} {W : World}, G N g rs W → ∀ a b c d : Int, wfId (a, b) → wfId (c, d) → Calls Tryz.prog 16 #[gptr g, .agg #[.int .i64 a, .int .i64 b], .agg #[.int .i64 c, .int .i64 d]] W (RetBelow (.bool (mutG rs (a, b) (c, d))) W)
  sorted : ∀ {N g : Nat} {rs : List Rcd} {W : World}, G N g rs W → ∀ (v : Value) (l : List Idn), RowAt W v l → l.length ≤ 1000 → (∀ x ∈ l, wfId x) → Calls Tryz.prog 14 #[gptr g, v] W (GivesRow (sortR rs l) W)
  at_ : ∀ (W : World) (v : Value) (l : List (List Idn)) (a b : Int), layLL.Row W v l → l.length ≤ 1000 → (∀ c ∈ l, ∀ x ∈ c, wfId x) → wfId (a, b) → Calls Tryz.prog 18 #[v, .agg #[.int .i64 a, .int .i64 b]] W (RetBelow (.int .i64 (atL l (a, b))) W)
  nof : ∀ W : World, Calls Tryz.prog 11 #[.pointer none] W (GivesLL [] W)
theorem cnew_ok {G : Nat → Nat → List Rcd → World → Prop} (HG : Graphs G) {v : Value} {rs : List Rcd} {w : World} (h : layG.Row w v rs) (hlot : Lot rs) (he : gErr rs = 0) : Calls Tryz.prog 9 #[v] w (fun E w' => ∃ g, E = .returned (.tuple #[gptr g, .int .i64 0]) ∧ G w'.heap.size g rs w' ∧ Below w.heap.size w w') :=
  (HG.new v rs w h hlot).mono fun E w' ⟨h1, h2⟩ => by
    rcases h2 with ⟨-, g, h3, h4⟩ | ⟨h3, -⟩
    · exact ⟨g, h3, h4, h1⟩
    · exact absurd he h3
theorem clot_few {rs : List Rcd} {m : Nat} (hw : ∀ x ∈ rs, wfG x) (hl : fewG rs m = true) (hm : m ≤ 1000) : Lot rs := ⟨hw, by have := (few_out hl).1; omega, fun r hr => by have := (few_out hl).2 r hr; exact ⟨by omega, by omega⟩⟩
theorem cdeps_low : ∀ {rs : List Rcd}, (∀ r ∈ rs, r.2.2.1.length ≤ 20) → (depsG rs).length ≤ rs.length * 20
  | [], _ => by simp [depsG]
  | r :: rs, h => by
    have h1 := cdeps_low (rs := rs) fun x hx => h x (List.mem_cons_of_mem _ hx)
    have h2 := h r List.mem_cons_self
    have e : depsG (r :: rs) = r.2.2.1 ++ depsG rs := rfl
    rw [e, List.length_append, List.length_cons]; omega
theorem cdeps_few {rs : List Rcd} (hl : fewG rs 14 = true) : (depsG rs).length ≤ 280 ∧ rs.length ≤ 14 := by
  have h := few_out hl
  have := cdeps_low (rs := rs) fun r hr => (h.2 r hr).1
  exact ⟨by omega, h.1⟩
end Go.Proofs.YthcejcffnjhomaaGreat.Cps

/- Plain: the components of the play's two records (layer 17, comps). -/
namespace Go.Proofs.YthcejcffnjhomaaGreat.Cps
open Go.RowKit Cmd Bat Ids Rec Wid Gra Rea
set_option linter.unusedVariables false
set_option linter.unusedSimpArgs false

def krs : List Rcd := [((1, 1), 5, [(1, 2)], []), ((1, 2), 3, [(1, 1)], [])]
theorem krs_err : gErr krs = 0 := by decide
theorem kdp1 : dpG krs (1, 1) = [(1, 2)] := by decide
theorem kdp2 : dpG krs (1, 2) = [(1, 1)] := by decide
theorem kr12 : Rch krs (1, 1) (1, 2) := .more (.here _) (by rw [kdp1]; exact List.mem_singleton.2 rfl)
theorem kr21 : Rch krs (1, 2) (1, 1) := .more (.here _) (by rw [kdp2]; exact List.mem_singleton.2 rfl)
theorem kids {x : Idn} : x ∈ idsG krs ↔ x = (1, 1) ∨ x = (1, 2) := by unfold idsG krs; simp
theorem kin {x z : Idn} (h : Rch krs x z) (hx : x ∈ idsG krs) : z ∈ idsG krs := by
  induction h with
  | here => exact hx
  | more h1 h2 ih =>
    rcases kids.1 ih with rfl | rfl
    · rw [kdp1] at h2; exact kids.2 (.inr (List.mem_singleton.1 h2))
    · rw [kdp2] at h2; exact kids.2 (.inl (List.mem_singleton.1 h2))
theorem kall : allR krs = [(1, 2), (1, 1)] := by
  refine riseR_eq (sortR_rise krs _) (by unfold RiseR; decide) fun x => ?_
  show x ∈ allR krs ↔ _
  rw [all_mem]
  constructor
  · intro h
    rcases kids.1 (closed_mem.1 h x (.here x)) with rfl | rfl <;> simp
  · intro h
    refine closed_mem.2 fun z hz => kin hz (kids.2 ?_)
    simp only [List.mem_cons, List.not_mem_nil, or_false] at h
    exact h.symm
theorem kmut : mutG krs (1, 2) (1, 1) = true := mut_iff.2 ⟨by decide, by decide, kr21, kr12⟩
theorem kself : mutG krs (1, 2) (1, 2) = true := mut_self (by decide)
theorem kof : ofG krs = [[(1, 2), (1, 1)]] := by
  unfold ofG
  rw [kall]
  have e0 : ofL krs [(1, 2), (1, 1)] 0 = [] := rfl
  have e1 : ofL krs [(1, 2), (1, 1)] 1 = [[(1, 2), (1, 1)]] := by
    rw [ofP_no (by rw [e0]; decide), e0]
    show [] ++ [List.filter (fun y => mutG krs (1, 2) y) [(1, 2), (1, 1)]] = _
    rw [List.filter_cons_of_pos kself, List.filter_cons_of_pos kmut]; rfl
  show ofL krs [(1, 2), (1, 1)] (1 + 1) = _
  rw [ofP_yes (by rw [e1]; decide), e1]
end Go.Proofs.YthcejcffnjhomaaGreat.Cps

/- The small play of layer 17's statements (comps): it returns true, whatever way graphs are kept (under Graphs and Comps). Conditions: those in each statement. (Written by tools/gen_cpsy.py.) -/
namespace Go.Proofs.YthcejcffnjhomaaGreat.Cps
open Go.RowKit Cmd Bat Ids Rec Wid Gra Rea
set_option linter.unusedVariables false
set_option linter.unusedSimpArgs false

theorem krs_lot : Lot krs := by
  have key : ∀ x ∈ krs, wfG x ∧ x.2.2.1.length ≤ 1000 ∧ x.2.2.2.length ≤ 1000 := fun x hx => by
    unfold krs at hx
    simp only [List.mem_cons, List.not_mem_nil, or_false] at hx
    rcases hx with rfl | rfl
    · exact ⟨⟨⟨by decide, by decide⟩, fun d hd => by rw [List.mem_singleton.1 hd]; exact ⟨by decide, by decide⟩, fun c hc => by cases hc⟩, by decide, by decide⟩
    · exact ⟨⟨⟨by decide, by decide⟩, fun d hd => by rw [List.mem_singleton.1 hd]; exact ⟨by decide, by decide⟩, fun c hc => by cases hc⟩, by decide, by decide⟩
  exact ⟨fun x hx => (key x hx).1, by decide, fun x hx => (key x hx).2⟩
theorem two_rec {W : World} {g : Nat} {v1 v2 : Value} (h : W.heap[g]? = some (.cells #[.int .i64 1, .int .i64 1, .int .i64 5, v1, .slice none 0 0, .int .i64 1, .int .i64 2, .int .i64 3, v2, .slice none 0 0] 48 (0, 0)))
    (h1 : RowAt W v1 [(1, 2)]) (h2 : RowAt W v2 [(1, 1)]) : layG.Row W (.slice (some ⟨g, 0, none⟩) 2 2) krs := by
  refine ⟨_, 2, rfl, Nat.le_refl _, by omega, fun _ => ⟨g, 0, rfl, (Array.getElem?_eq_some_iff.1 h).1, fun j hj => ?_⟩⟩
  have hj2 : j = 0 ∨ j = 1 := by have : j < 2 := hj; omega
  rcases hj2 with rfl | rfl
  · exact ⟨cell_row h rfl, cell_row h rfl, cell_row h rfl, ⟨v1, cell_row h rfl, h1⟩, _, cell_row h rfl, no_cmds W⟩
  · exact ⟨cell_row h rfl, cell_row h rfl, cell_row h rfl, ⟨v2, cell_row h rfl, h2⟩, _, cell_row h rfl, no_cmds W⟩
theorem one_id {W : World} {g : Nat} {a b : Int} (h : W.heap[g]? = some (.cells #[.int .i64 a, .int .i64 b] 41 (0, 0))) : RowAt W (.slice (some ⟨g, 0, none⟩) 1 1) [(a, b)] := by
  refine ⟨_, 1, rfl, Nat.le_refl _, by omega, (fun e => by cases e), fun _ => ⟨g, 0, rfl, (Array.getElem?_eq_some_iff.1 h).1, fun j hj => ?_⟩⟩
  obtain rfl : j = 0 := by simp at hj; omega
  exact ⟨cell_row h rfl, cell_row h rfl⟩
theorem two_id {W : World} {g : Nat} {x y a b : Int} (h : W.heap[g]? = some (.cells #[.int .i64 x, .int .i64 y, .int .i64 a, .int .i64 b] 41 (0, 0))) : RowAt W (.slice (some ⟨g, 0, none⟩) 2 2) [(x, y), (a, b)] := by
  refine ⟨_, 2, rfl, Nat.le_refl _, by omega, (fun e => by cases e), fun _ => ⟨g, 0, rfl, (Array.getElem?_eq_some_iff.1 h).1, fun j hj => ?_⟩⟩
  have hj2 : j = 0 ∨ j = 1 := by simp at hj; omega
  rcases hj2 with rfl | rfl
  · exact ⟨cell_row h rfl, cell_row h rfl⟩
  · exact ⟨cell_row h rfl, cell_row h rfl⟩
theorem ll_one {W : World} {g : Nat} {v : Value} {l : List Idn} (h : W.heap[g]? = some (.cells #[v] 35 (0, 0))) (hl : RowAt W v l) : layLL.Row W (.slice (some ⟨g, 0, none⟩) 1 1) [l] := by
  refine ⟨_, 1, rfl, Nat.le_refl _, by omega, fun _ => ⟨g, 0, rfl, (Array.getElem?_eq_some_iff.1 h).1, fun j hj => ?_⟩⟩
  obtain rfl : j = 0 := by simp at hj; omega
  exact ⟨v, cell_row h rfl, hl⟩
theorem ll_two {W : World} {g : Nat} {v u : Value} {l m : List Idn} (h : W.heap[g]? = some (.cells #[v, u] 35 (0, 0))) (hl : RowAt W v l) (hm : RowAt W u m) : layLL.Row W (.slice (some ⟨g, 0, none⟩) 2 2) [l, m] := by
  refine ⟨_, 2, rfl, Nat.le_refl _, by omega, fun _ => ⟨g, 0, rfl, (Array.getElem?_eq_some_iff.1 h).1, fun j hj => ?_⟩⟩
  have hj2 : j = 0 ∨ j = 1 := by simp at hj; omega
  rcases hj2 with rfl | rfl
  · exact ⟨v, cell_row h rfl, hl⟩
  · exact ⟨u, cell_row h rfl, hm⟩
theorem kll_same (v u : Value) (l : List (List Idn)) (w : World) (h : layLL.Row w v l) (h' : layLL.Row w u l) (hl : l.length ≤ 1000000) : Calls Tryz.prog 10 #[v, u] w (RetBelow (.bool true) w) := by
  have := refsamell_any v u l l w h h' hl
  rwa [decide_eq_true rfl] at this
set_option maxHeartbeats 16000000 in
set_option maxRecDepth 100000 in
theorem kplay_any {G : Nat → Nat → List Rcd → World → Prop} (HG : Graphs G) (RG : Comps G) (w : World) : Calls Tryz.prog 8 #[] w (RetBelow (.bool true) w) := by
  have HK := Lib.hid HG
  have HR := Lib.hid RG
  have b1 := Cmd.below_one w (.cells #[.int .i64 1, .int .i64 1] 41)
  have n1 := heap_alloc_new w (.cells #[.int .i64 1, .int .i64 1] 41)
  obtain ⟨w1, h1⟩ : ∃ w1, w1 = w.alloc (.cells #[.int .i64 1, .int .i64 1] 41) := ⟨_, rfl⟩
  have s1 : w1.heap.size = w.heap.size + 1 := by rw [h1]; simp
  rw [← h1] at b1 n1
  have b2 := Cmd.below_one w1 (.cells #[.int .i64 1, .int .i64 2] 41)
  have n2 := heap_alloc_new w1 (.cells #[.int .i64 1, .int .i64 2] 41)
  obtain ⟨w2, h2⟩ : ∃ w2, w2 = w1.alloc (.cells #[.int .i64 1, .int .i64 2] 41) := ⟨_, rfl⟩
  have s2 : w2.heap.size = w.heap.size + 1 + 1 := by rw [h2, World.size_alloc, s1]
  rw [← h2] at b2 n2
  have b3 := Cmd.below_one w2 (.cells #[.int .i64 1, .int .i64 2] 41)
  have n3 := heap_alloc_new w2 (.cells #[.int .i64 1, .int .i64 2] 41)
  obtain ⟨w3, h3⟩ : ∃ w3, w3 = w2.alloc (.cells #[.int .i64 1, .int .i64 2] 41) := ⟨_, rfl⟩
  have s3 : w3.heap.size = w.heap.size + 1 + 1 + 1 := by rw [h3, World.size_alloc, s2]
  rw [← h3] at b3 n3
  have b4 := Cmd.below_one w3 (.cells #[.int .i64 1, .int .i64 1] 41)
  have n4 := heap_alloc_new w3 (.cells #[.int .i64 1, .int .i64 1] 41)
  obtain ⟨w4, h4⟩ : ∃ w4, w4 = w3.alloc (.cells #[.int .i64 1, .int .i64 1] 41) := ⟨_, rfl⟩
  have s4 : w4.heap.size = w.heap.size + 1 + 1 + 1 + 1 := by rw [h4, World.size_alloc, s3]
  rw [← h4] at b4 n4
  rw [s1] at n2
  rw [s2] at n3
  rw [s3] at n4
  have b5 := Cmd.below_one w4 (.cells #[.int .i64 1, .int .i64 1, .int .i64 5, .slice (some ⟨w.heap.size + 1 + 1, 0, none⟩) 1 1, .slice none 0 0, .int .i64 1, .int .i64 2, .int .i64 3, .slice (some ⟨w.heap.size + 1 + 1 + 1, 0, none⟩) 1 1, .slice none 0 0] 48)
  have n5 := heap_alloc_new w4 (.cells #[.int .i64 1, .int .i64 1, .int .i64 5, .slice (some ⟨w.heap.size + 1 + 1, 0, none⟩) 1 1, .slice none 0 0, .int .i64 1, .int .i64 2, .int .i64 3, .slice (some ⟨w.heap.size + 1 + 1 + 1, 0, none⟩) 1 1, .slice none 0 0] 48)
  rw [s4] at n5
  have r5 := two_rec n5 ((one_id n3).on (b4.trans (b5.mono b4.size))) ((one_id n4).on b5)
  have HB0 := b1.trans ((b2.trans ((b3.trans ((b4.trans (b5.mono b4.size)).mono b3.size)).mono b2.size)).mono b1.size)
  have CN := HG.new _ krs _ r5 krs_lot
  have k1 := (b2.trans ((b3.trans ((b4.trans (b5.mono b4.size)).mono b3.size)).mono b2.size)).block w.heap.size (by omega)
  have k2 := (b3.trans ((b4.trans (b5.mono b4.size)).mono b3.size)).block (w.heap.size + 1) (by omega)
  have T1 := Lib.hid (And.intro (k1.trans n1) (k2.trans n2))
  have HB5 := Lib.hid HB0
  have HCN := Lib.hid CN
  subst h4; subst h3; subst h2; subst h1
  clear b1 n1 s1 b2 n2 s2 b3 n3 s3 b4 n4 s4 b5 n5 r5 HB0 CN k1 k2
  obtain ⟨c0, c1, c2, c3⟩ : True ∧ True ∧ True ∧ True := ⟨trivial, trivial, trivial, trivial⟩
  go_enter Tryz.func8, Tryz.ntmps8
  go_upto_region 3 with (first
    | (go_at_call 9; ((with_reducible refine HCN.out.mono ?_); rintro E w6 ⟨hb, (⟨-, g, rfl, hg⟩ | ⟨hne, -⟩)⟩; rotate_left; exact absurd krs_err hne; have G6 := Lib.hid hg; have T6 := Lib.hid (And.intro ((hb.block _ (Array.getElem?_eq_some_iff.1 T1.out.1).1).trans T1.out.1) ((hb.block _ (Array.getElem?_eq_some_iff.1 T1.out.2).1).trans T1.out.2)); have HB6 := Lib.hid (HB5.out.trans (hb.mono HB5.out.size)); clear hb hg)))
  have HOf : Hid (∀ X, Below w6.heap.size w6 X → Calls Tryz.prog 11 #[gptr g] X (GivesLL [[(1, 2), (1, 1)]] X)) := Lib.hid fun X hb => by
    have := HR.out.of_ (HK.out.on G6.out hb)
    rwa [kof] at this
  have HMu : Hid (∀ X, Below w6.heap.size w6 X → Calls Tryz.prog 16 #[gptr g, .agg #[.int .i64 1, .int .i64 1], .agg #[.int .i64 1, .int .i64 2]] X (RetBelow (.bool true) X)) := Lib.hid fun X hb => by
    have := HR.out.mut_ (HK.out.on G6.out hb) 1 1 1 2 ⟨by decide, by decide⟩ ⟨by decide, by decide⟩
    rwa [mut_comm, kmut] at this
  have HAt : Hid (∀ X, Below w6.heap.size w6 X → ∀ v, layLL.Row X v [[(1, 1)], [(1, 2)]] → Calls Tryz.prog 18 #[v, .agg #[.int .i64 1, .int .i64 2]] X (RetBelow (.int .i64 1) X)) := Lib.hid fun X hb v hv => by
    have hwf : ∀ c ∈ [[((1, 1) : Idn)], [(1, 2)]], ∀ x ∈ c, wfId x := fun c hc x hx => by
      simp only [List.mem_cons, List.not_mem_nil, or_false] at hc
      rcases hc with rfl | rfl <;> (rw [List.mem_singleton.1 hx]; exact ⟨by decide, by decide⟩)
    exact HR.out.at_ X v _ 1 2 hv (by decide) hwf ⟨by decide, by decide⟩
  have HS : Hid (∀ w', Below w6.heap.size w6 w' → w'.cell? ⟨w.heap.size, 0, none⟩ = some (.int .i64 1) ∧ w'.cell? ⟨w.heap.size, 1, none⟩ = some (.int .i64 1) ∧ w'.cell? ⟨w.heap.size + 1, 0, none⟩ = some (.int .i64 1) ∧ w'.cell? ⟨w.heap.size + 1, 1, none⟩ = some (.int .i64 2)) := Lib.hid fun w' hb => by
    have t1 := (hb.block _ (Array.getElem?_eq_some_iff.1 T6.out.1).1).trans T6.out.1
    have t2 := (hb.block _ (Array.getElem?_eq_some_iff.1 T6.out.2).1).trans T6.out.2
    exact ⟨cell_row (i := 0) t1 rfl, cell_row (i := 1) t1 rfl, cell_row (i := 0) t2 rfl, cell_row (i := 1) t2 rfl⟩
  have DY0 : Hid (Below w6.heap.size w6 w6.drew) := Lib.hid (Below.refl _ _).drew
  refine wp_region_held_drew (S := (fun w' => w'.cell? ⟨w.heap.size, 0, none⟩ = some (.int .i64 1) ∧ w'.cell? ⟨w.heap.size, 1, none⟩ = some (.int .i64 1) ∧ w'.cell? ⟨w.heap.size + 1, 0, none⟩ = some (.int .i64 1) ∧ w'.cell? ⟨w.heap.size + 1, 1, none⟩ = some (.int .i64 2))) (by kernel_rfl) (HS.out _ DY0.out) (fun hHeld => ?_)
  generalize w6.drew = Y0 at DY0 hHeld ⊢
  refine wpAnyH_take (i := 0) (v := ?_) rfl (by kernel_rfl) (by kernel_rfl) (by kernel_rfl) (fun _ _ _ h => h) (Or.inl ⟨by rfl, fun w hSw => ?_⟩) (by assumption) ?_
  rotate_left
  · (try dsimp only at hSw); go_simp; (try with_reducible rfl)
  try simp only [List.getElem_toArray, List.getElem_cons_succ, List.getElem_cons_zero, Act.put, List.setIfInBounds_toArray, List.set_cons_zero, List.set_cons_succ]
  refine wpAnyH_take (i := 1) (v := ?_) rfl (by kernel_rfl) (by kernel_rfl) (by kernel_rfl) (fun _ _ _ h => h) (Or.inl ⟨by rfl, fun w hSw => ?_⟩) (by assumption) ?_
  rotate_left
  · (try dsimp only at hSw); go_simp; (try with_reducible rfl)
  try simp only [List.getElem_toArray, List.getElem_cons_succ, List.getElem_cons_zero, Act.put, List.setIfInBounds_toArray, List.set_cons_zero, List.set_cons_succ]
  refine wpAnyH_take (i := 2) (v := ?_) rfl (by kernel_rfl) (by kernel_rfl) (by kernel_rfl) (fun _ _ _ h => h) (Or.inl ⟨by rfl, fun w hSw => ?_⟩) (by assumption) ?_
  rotate_left
  · (try dsimp only at hSw); go_simp; (try with_reducible rfl)
  try simp only [List.getElem_toArray, List.getElem_cons_succ, List.getElem_cons_zero, Act.put, List.setIfInBounds_toArray, List.set_cons_zero, List.set_cons_succ]
  refine wpAnyH_take (i := 3) (v := ?_) rfl (by kernel_rfl) (by kernel_rfl) (by kernel_rfl) (fun _ _ _ h => h) (Or.inl ⟨by rfl, fun w hSw => ?_⟩) (by assumption) ?_
  rotate_left
  · (try dsimp only at hSw); go_simp; (try with_reducible rfl)
  try simp only [List.getElem_toArray, List.getElem_cons_succ, List.getElem_cons_zero, Act.put, List.setIfInBounds_toArray, List.set_cons_zero, List.set_cons_succ]
  refine wpAnyH_take (i := 5) (v := ?_) rfl (by kernel_rfl) (by kernel_rfl) (by kernel_rfl) (fun _ _ _ h => h) (Or.inl ⟨by rfl, fun w hSw => ?_⟩) (by assumption) ?_
  rotate_left
  · (try dsimp only at hSw); go_simp; (try with_reducible rfl)
  try simp only [List.getElem_toArray, List.getElem_cons_succ, List.getElem_cons_zero, Act.put, List.setIfInBounds_toArray, List.set_cons_zero, List.set_cons_succ]
  refine wpAnyH_take (i := 6) (v := ?_) rfl (by kernel_rfl) (by kernel_rfl) (by kernel_rfl) (fun _ _ _ h => h) (Or.inl ⟨by rfl, fun w hSw => ?_⟩) (by assumption) ?_
  rotate_left
  · (try dsimp only at hSw); go_simp; (try with_reducible rfl)
  try simp only [List.getElem_toArray, List.getElem_cons_succ, List.getElem_cons_zero, Act.put, List.setIfInBounds_toArray, List.set_cons_zero, List.set_cons_succ]
  refine wpAnyH_ready (rs := [4, 7]) (by kernel_rfl) (by simp) ?_
  refine AllReadyH.cons rfl (fun K hK => ?_) ?_
  · go_simp
    (go_at_call 11; ((with_reducible refine (HOf.out _ DY0.out).mono ?_); rintro E Y1 ⟨v1, rfl, hr, hb⟩; have DY1 := Lib.hid (DY0.out.trans (hb.mono DY0.out.size)); have RC1 := Lib.hid hr; clear hb))
    refine hK.out _ _ ?_ (fun hHeld => ?_)
    · exact HS.out _ DY1.out
    clear hK K
    try simp only [List.getElem_toArray, List.getElem_cons_succ, List.getElem_cons_zero, Act.put, List.setIfInBounds_toArray, List.set_cons_zero, List.set_cons_succ]
    refine wpAnyH_ready (rs := [7]) (by kernel_rfl) (by simp) ?_
    refine AllReadyH.cons rfl (fun K hK => ?_) ?_
    · go_simp
      have hb := Cmd.below_one Y1 (.cells #[.int .i64 1, .int .i64 2, .int .i64 1, .int .i64 1] 41)
      have EY2 := Lib.hid (heap_alloc_new Y1 (.cells #[.int .i64 1, .int .i64 2, .int .i64 1, .int .i64 1] 41))
      have DY2 := Lib.hid (DY1.out.trans (hb.mono DY1.out.size))
      have RC2 := Lib.hid (RC1.out.on hb)
      clear hb
      refine hK.out _ _ ?_ (fun hHeld => ?_)
      · exact HS.out _ DY2.out
      clear hK K
      generalize Y1.alloc (.cells #[.int .i64 1, .int .i64 2, .int .i64 1, .int .i64 1] 41) = Y2 at EY2 DY2 RC2 hHeld ⊢
      try simp only [List.getElem_toArray, List.getElem_cons_succ, List.getElem_cons_zero, Act.put, List.setIfInBounds_toArray, List.set_cons_zero, List.set_cons_succ]
      refine wpAnyH_ready (rs := [8]) (by kernel_rfl) (by simp) ?_
      refine AllReadyH.cons rfl (fun K hK => ?_) ?_
      · go_simp
        have hb := Cmd.below_one Y2 (.cells #[.slice (some ⟨Y1.heap.size, 0, none⟩) 2 2] 35)
        have EY3 := Lib.hid (heap_alloc_new Y2 (.cells #[.slice (some ⟨Y1.heap.size, 0, none⟩) 2 2] 35))
        have DY3 := Lib.hid (DY2.out.trans (hb.mono DY2.out.size))
        have RC := Lib.hid (RC2.out.on hb)
        have RT := Lib.hid ((two_id EY2.out).on hb)
        clear hb
        refine hK.out _ _ ?_ (fun hHeld => ?_)
        · exact HS.out _ DY3.out
        clear hK K
        generalize Y2.alloc (.cells #[.slice (some ⟨Y1.heap.size, 0, none⟩) 2 2] 35) = Y3 at EY3 DY3 RC RT hHeld ⊢
        try simp only [List.getElem_toArray, List.getElem_cons_succ, List.getElem_cons_zero, Act.put, List.setIfInBounds_toArray, List.set_cons_zero, List.set_cons_succ]
        refine wpAnyH_ready (rs := [9]) (by kernel_rfl) (by simp) ?_
        refine AllReadyH.cons rfl (fun K hK => ?_) ?_
        · go_simp
          (go_at_call 10; ((with_reducible refine (kll_same _ _ _ _ RC.out (ll_one EY3.out RT.out) (by decide)).mono ?_); rintro E Y5 ⟨rfl, hb⟩; have DY5 := Lib.hid (DY3.out.trans (hb.mono DY3.out.size)); clear hb))
          refine hK.out _ _ ?_ (fun hHeld => ?_)
          · exact HS.out _ DY5.out
          clear hK K
          try simp only [List.getElem_toArray, List.getElem_cons_succ, List.getElem_cons_zero, Act.put, List.setIfInBounds_toArray, List.set_cons_zero, List.set_cons_succ]
          refine wpAnyH_take (i := 10) (v := ?_) rfl (by kernel_rfl) (by kernel_rfl) (by kernel_rfl) (fun _ _ _ h => h) (Or.inl ⟨by rfl, fun w hSw => ?_⟩) (by assumption) ?_
          rotate_left
          · (try dsimp only at hSw); go_simp; (try with_reducible rfl)
          try simp only [List.getElem_toArray, List.getElem_cons_succ, List.getElem_cons_zero, Act.put, List.setIfInBounds_toArray, List.set_cons_zero, List.set_cons_succ]
          refine wpAnyH_take (i := 11) (v := ?_) rfl (by kernel_rfl) (by kernel_rfl) (by kernel_rfl) (fun _ _ _ h => h) (Or.inl ⟨by rfl, fun w hSw => ?_⟩) (by assumption) ?_
          rotate_left
          · (try dsimp only at hSw); go_simp; (try with_reducible rfl)
          try simp only [List.getElem_toArray, List.getElem_cons_succ, List.getElem_cons_zero, Act.put, List.setIfInBounds_toArray, List.set_cons_zero, List.set_cons_succ]
          refine wpAnyH_take (i := 12) (v := ?_) rfl (by kernel_rfl) (by kernel_rfl) (by kernel_rfl) (fun _ _ _ h => h) (Or.inl ⟨by rfl, fun w hSw => ?_⟩) (by assumption) ?_
          rotate_left
          · (try dsimp only at hSw); go_simp; (try with_reducible rfl)
          try simp only [List.getElem_toArray, List.getElem_cons_succ, List.getElem_cons_zero, Act.put, List.setIfInBounds_toArray, List.set_cons_zero, List.set_cons_succ]
          refine wpAnyH_take (i := 13) (v := ?_) rfl (by kernel_rfl) (by kernel_rfl) (by kernel_rfl) (fun _ _ _ h => h) (Or.inl ⟨by rfl, fun w hSw => ?_⟩) (by assumption) ?_
          rotate_left
          · (try dsimp only at hSw); go_simp; (try with_reducible rfl)
          try simp only [List.getElem_toArray, List.getElem_cons_succ, List.getElem_cons_zero, Act.put, List.setIfInBounds_toArray, List.set_cons_zero, List.set_cons_succ]
          refine wpAnyH_take (i := 14) (v := ?_) rfl (by kernel_rfl) (by kernel_rfl) (by kernel_rfl) (fun _ _ _ h => h) (Or.inl ⟨by rfl, fun w hSw => ?_⟩) (by assumption) ?_
          rotate_left
          · (try dsimp only at hSw); go_simp; (try with_reducible rfl)
          try simp only [List.getElem_toArray, List.getElem_cons_succ, List.getElem_cons_zero, Act.put, List.setIfInBounds_toArray, List.set_cons_zero, List.set_cons_succ]
          refine wpAnyH_ready (rs := [15]) (by kernel_rfl) (by simp) ?_
          refine AllReadyH.cons rfl (fun K hK => ?_) ?_
          · go_simp
            (go_at_call 16; ((with_reducible refine (HMu.out _ DY5.out).mono ?_); rintro E Y6 ⟨rfl, hb⟩; have DY6 := Lib.hid (DY5.out.trans (hb.mono DY5.out.size)); clear hb))
            refine hK.out _ _ ?_ (fun hHeld => ?_)
            · exact HS.out _ DY6.out
            clear hK K
            try simp only [List.getElem_toArray, List.getElem_cons_succ, List.getElem_cons_zero, Act.put, List.setIfInBounds_toArray, List.set_cons_zero, List.set_cons_succ]
            refine wpAnyH_take (i := 16) (v := ?_) rfl (by kernel_rfl) (by kernel_rfl) (by kernel_rfl) (fun _ _ _ h => h) (Or.inl ⟨by rfl, fun w hSw => ?_⟩) (by assumption) ?_
            rotate_left
            · (try dsimp only at hSw); go_simp; (try with_reducible rfl)
            try simp only [List.getElem_toArray, List.getElem_cons_succ, List.getElem_cons_zero, Act.put, List.setIfInBounds_toArray, List.set_cons_zero, List.set_cons_succ]
            refine wpAnyH_take (i := 17) (v := ?_) rfl (by kernel_rfl) (by kernel_rfl) (by kernel_rfl) (fun _ _ _ h => h) (Or.inl ⟨by rfl, fun w hSw => ?_⟩) (by assumption) ?_
            rotate_left
            · (try dsimp only at hSw); go_simp; (try with_reducible rfl)
            try simp only [List.getElem_toArray, List.getElem_cons_succ, List.getElem_cons_zero, Act.put, List.setIfInBounds_toArray, List.set_cons_zero, List.set_cons_succ]
            refine wpAnyH_take (i := 18) (v := ?_) rfl (by kernel_rfl) (by kernel_rfl) (by kernel_rfl) (fun _ _ _ h => h) (Or.inl ⟨by rfl, fun w hSw => ?_⟩) (by assumption) ?_
            rotate_left
            · (try dsimp only at hSw); go_simp; (try with_reducible rfl)
            try simp only [List.getElem_toArray, List.getElem_cons_succ, List.getElem_cons_zero, Act.put, List.setIfInBounds_toArray, List.set_cons_zero, List.set_cons_succ]
            refine wpAnyH_take (i := 20) (v := ?_) rfl (by kernel_rfl) (by kernel_rfl) (by kernel_rfl) (fun _ _ _ h => h) (Or.inl ⟨by rfl, fun w hSw => ?_⟩) (by assumption) ?_
            rotate_left
            · (try dsimp only at hSw); go_simp; (try with_reducible rfl)
            try simp only [List.getElem_toArray, List.getElem_cons_succ, List.getElem_cons_zero, Act.put, List.setIfInBounds_toArray, List.set_cons_zero, List.set_cons_succ]
            refine wpAnyH_take (i := 23) (v := ?_) rfl (by kernel_rfl) (by kernel_rfl) (by kernel_rfl) (fun _ _ _ h => h) (Or.inl ⟨by rfl, fun w hSw => ?_⟩) (by assumption) ?_
            rotate_left
            · (try dsimp only at hSw); go_simp; (try with_reducible rfl)
            try simp only [List.getElem_toArray, List.getElem_cons_succ, List.getElem_cons_zero, Act.put, List.setIfInBounds_toArray, List.set_cons_zero, List.set_cons_succ]
            refine wpAnyH_ready (rs := [19, 21]) (by kernel_rfl) (by simp) ?_
            refine AllReadyH.cons rfl (fun K hK => ?_) ?_
            · go_simp
              have hb := Cmd.below_one Y6 (.cells #[.int .i64 1, .int .i64 1] 41)
              have EZ1 := Lib.hid (heap_alloc_new Y6 (.cells #[.int .i64 1, .int .i64 1] 41))
              have DZ1 := Lib.hid (DY6.out.trans (hb.mono DY6.out.size))
              clear hb
              refine hK.out _ _ ?_ (fun hHeld => ?_)
              · exact HS.out _ DZ1.out
              clear hK K
              generalize Y6.alloc (.cells #[.int .i64 1, .int .i64 1] 41) = Z1 at EZ1 DZ1 hHeld ⊢
              try simp only [List.getElem_toArray, List.getElem_cons_succ, List.getElem_cons_zero, Act.put, List.setIfInBounds_toArray, List.set_cons_zero, List.set_cons_succ]
              refine wpAnyH_ready (rs := [21]) (by kernel_rfl) (by simp) ?_
              refine AllReadyH.cons rfl (fun K hK => ?_) ?_
              · go_simp
                have hb := Cmd.below_one Z1 (.cells #[.int .i64 1, .int .i64 2] 41)
                have EZ2 := Lib.hid (heap_alloc_new Z1 (.cells #[.int .i64 1, .int .i64 2] 41))
                have DZ2 := Lib.hid (DZ1.out.trans (hb.mono DZ1.out.size))
                have RA2 := Lib.hid ((one_id EZ1.out).on hb)
                clear hb
                refine hK.out _ _ ?_ (fun hHeld => ?_)
                · exact HS.out _ DZ2.out
                clear hK K
                generalize Z1.alloc (.cells #[.int .i64 1, .int .i64 2] 41) = Z2 at EZ2 DZ2 RA2 hHeld ⊢
                try simp only [List.getElem_toArray, List.getElem_cons_succ, List.getElem_cons_zero, Act.put, List.setIfInBounds_toArray, List.set_cons_zero, List.set_cons_succ]
                have RB2 := Lib.hid (one_id EZ2.out)
                refine wpAnyH_ready (rs := [22]) (by kernel_rfl) (by simp) ?_
                refine AllReadyH.cons rfl (fun K hK => ?_) ?_
                · go_simp
                  have hb := Cmd.below_one Z2 (.cells #[.slice (some ⟨Y6.heap.size, 0, none⟩) 1 1, .slice (some ⟨Z1.heap.size, 0, none⟩) 1 1] 35)
                  have EZ3 := Lib.hid (heap_alloc_new Z2 (.cells #[.slice (some ⟨Y6.heap.size, 0, none⟩) 1 1, .slice (some ⟨Z1.heap.size, 0, none⟩) 1 1] 35))
                  have DZ3 := Lib.hid (DZ2.out.trans (hb.mono DZ2.out.size))
                  have RA3 := Lib.hid (RA2.out.on hb)
                  have RB3 := Lib.hid (RB2.out.on hb)
                  clear hb
                  refine hK.out _ _ ?_ (fun hHeld => ?_)
                  · exact HS.out _ DZ3.out
                  clear hK K
                  generalize Z2.alloc (.cells #[.slice (some ⟨Y6.heap.size, 0, none⟩) 1 1, .slice (some ⟨Z1.heap.size, 0, none⟩) 1 1] 35) = Z3 at EZ3 DZ3 RA3 RB3 hHeld ⊢
                  try simp only [List.getElem_toArray, List.getElem_cons_succ, List.getElem_cons_zero, Act.put, List.setIfInBounds_toArray, List.set_cons_zero, List.set_cons_succ]
                  refine wpAnyH_ready (rs := [24]) (by kernel_rfl) (by simp) ?_
                  refine AllReadyH.cons rfl (fun K hK => ?_) ?_
                  · go_simp
                    (go_at_call 18; ((with_reducible refine (HAt.out _ DZ3.out _ (ll_two EZ3.out RA3.out RB3.out)).mono ?_); rintro E Y9 ⟨rfl, hb⟩; have DY9 := Lib.hid (DZ3.out.trans (hb.mono DZ3.out.size)); clear hb))
                    refine hK.out _ _ ?_ (fun hHeld => ?_)
                    · exact HS.out _ DY9.out
                    clear hK K
                    try simp only [List.getElem_toArray, List.getElem_cons_succ, List.getElem_cons_zero, Act.put, List.setIfInBounds_toArray, List.set_cons_zero, List.set_cons_succ]
                    refine wpAnyH_take (i := 25) (v := ?_) rfl (by kernel_rfl) (by kernel_rfl) (by kernel_rfl) (fun _ _ _ h => h) (Or.inl ⟨by rfl, fun w hSw => ?_⟩) (by assumption) ?_
                    rotate_left
                    · (try dsimp only at hSw); go_simp; (try with_reducible rfl)
                    try simp only [List.getElem_toArray, List.getElem_cons_succ, List.getElem_cons_zero, Act.put, List.setIfInBounds_toArray, List.set_cons_zero, List.set_cons_succ]
                    refine wpAnyH_take (i := 26) (v := ?_) rfl (by kernel_rfl) (by kernel_rfl) (by kernel_rfl) (fun _ _ _ h => h) (Or.inl ⟨by rfl, fun w hSw => ?_⟩) (by assumption) ?_
                    rotate_left
                    · (try dsimp only at hSw); go_simp; (try with_reducible rfl)
                    try simp only [List.getElem_toArray, List.getElem_cons_succ, List.getElem_cons_zero, Act.put, List.setIfInBounds_toArray, List.set_cons_zero, List.set_cons_succ]
                    refine wpAnyH_take (i := 27) (v := ?_) rfl (by kernel_rfl) (by kernel_rfl) (by kernel_rfl) (fun _ _ _ h => h) (Or.inl ⟨by rfl, fun w hSw => ?_⟩) (by assumption) ?_
                    rotate_left
                    · (try dsimp only at hSw); go_simp; (try with_reducible rfl)
                    try simp only [List.getElem_toArray, List.getElem_cons_succ, List.getElem_cons_zero, Act.put, List.setIfInBounds_toArray, List.set_cons_zero, List.set_cons_succ]
                    refine wpAnyH_done (by kernel_rfl) ?_ _
                    go_wp2
                    go_ret
                    exact ⟨rfl, HB6.out.trans (DY9.out.mono HB6.out.size)⟩
                  exact AllReadyH.nil
                exact AllReadyH.nil
              exact AllReadyH.nil
            refine AllReadyH.cons rfl (fun K hK => ?_) ?_
            · go_simp
              have hb := Cmd.below_one Y6 (.cells #[.int .i64 1, .int .i64 2] 41)
              have EZ1 := Lib.hid (heap_alloc_new Y6 (.cells #[.int .i64 1, .int .i64 2] 41))
              have DZ1 := Lib.hid (DY6.out.trans (hb.mono DY6.out.size))
              clear hb
              refine hK.out _ _ ?_ (fun hHeld => ?_)
              · exact HS.out _ DZ1.out
              clear hK K
              generalize Y6.alloc (.cells #[.int .i64 1, .int .i64 2] 41) = Z1 at EZ1 DZ1 hHeld ⊢
              try simp only [List.getElem_toArray, List.getElem_cons_succ, List.getElem_cons_zero, Act.put, List.setIfInBounds_toArray, List.set_cons_zero, List.set_cons_succ]
              refine wpAnyH_ready (rs := [19]) (by kernel_rfl) (by simp) ?_
              refine AllReadyH.cons rfl (fun K hK => ?_) ?_
              · go_simp
                have hb := Cmd.below_one Z1 (.cells #[.int .i64 1, .int .i64 1] 41)
                have EZ2 := Lib.hid (heap_alloc_new Z1 (.cells #[.int .i64 1, .int .i64 1] 41))
                have DZ2 := Lib.hid (DZ1.out.trans (hb.mono DZ1.out.size))
                have RB2 := Lib.hid ((one_id EZ1.out).on hb)
                clear hb
                refine hK.out _ _ ?_ (fun hHeld => ?_)
                · exact HS.out _ DZ2.out
                clear hK K
                generalize Z1.alloc (.cells #[.int .i64 1, .int .i64 1] 41) = Z2 at EZ2 DZ2 RB2 hHeld ⊢
                try simp only [List.getElem_toArray, List.getElem_cons_succ, List.getElem_cons_zero, Act.put, List.setIfInBounds_toArray, List.set_cons_zero, List.set_cons_succ]
                have RA2 := Lib.hid (one_id EZ2.out)
                refine wpAnyH_ready (rs := [22]) (by kernel_rfl) (by simp) ?_
                refine AllReadyH.cons rfl (fun K hK => ?_) ?_
                · go_simp
                  have hb := Cmd.below_one Z2 (.cells #[.slice (some ⟨Z1.heap.size, 0, none⟩) 1 1, .slice (some ⟨Y6.heap.size, 0, none⟩) 1 1] 35)
                  have EZ3 := Lib.hid (heap_alloc_new Z2 (.cells #[.slice (some ⟨Z1.heap.size, 0, none⟩) 1 1, .slice (some ⟨Y6.heap.size, 0, none⟩) 1 1] 35))
                  have DZ3 := Lib.hid (DZ2.out.trans (hb.mono DZ2.out.size))
                  have RA3 := Lib.hid (RA2.out.on hb)
                  have RB3 := Lib.hid (RB2.out.on hb)
                  clear hb
                  refine hK.out _ _ ?_ (fun hHeld => ?_)
                  · exact HS.out _ DZ3.out
                  clear hK K
                  generalize Z2.alloc (.cells #[.slice (some ⟨Z1.heap.size, 0, none⟩) 1 1, .slice (some ⟨Y6.heap.size, 0, none⟩) 1 1] 35) = Z3 at EZ3 DZ3 RA3 RB3 hHeld ⊢
                  try simp only [List.getElem_toArray, List.getElem_cons_succ, List.getElem_cons_zero, Act.put, List.setIfInBounds_toArray, List.set_cons_zero, List.set_cons_succ]
                  refine wpAnyH_ready (rs := [24]) (by kernel_rfl) (by simp) ?_
                  refine AllReadyH.cons rfl (fun K hK => ?_) ?_
                  · go_simp
                    (go_at_call 18; ((with_reducible refine (HAt.out _ DZ3.out _ (ll_two EZ3.out RA3.out RB3.out)).mono ?_); rintro E Y9 ⟨rfl, hb⟩; have DY9 := Lib.hid (DZ3.out.trans (hb.mono DZ3.out.size)); clear hb))
                    refine hK.out _ _ ?_ (fun hHeld => ?_)
                    · exact HS.out _ DY9.out
                    clear hK K
                    try simp only [List.getElem_toArray, List.getElem_cons_succ, List.getElem_cons_zero, Act.put, List.setIfInBounds_toArray, List.set_cons_zero, List.set_cons_succ]
                    refine wpAnyH_take (i := 25) (v := ?_) rfl (by kernel_rfl) (by kernel_rfl) (by kernel_rfl) (fun _ _ _ h => h) (Or.inl ⟨by rfl, fun w hSw => ?_⟩) (by assumption) ?_
                    rotate_left
                    · (try dsimp only at hSw); go_simp; (try with_reducible rfl)
                    try simp only [List.getElem_toArray, List.getElem_cons_succ, List.getElem_cons_zero, Act.put, List.setIfInBounds_toArray, List.set_cons_zero, List.set_cons_succ]
                    refine wpAnyH_take (i := 26) (v := ?_) rfl (by kernel_rfl) (by kernel_rfl) (by kernel_rfl) (fun _ _ _ h => h) (Or.inl ⟨by rfl, fun w hSw => ?_⟩) (by assumption) ?_
                    rotate_left
                    · (try dsimp only at hSw); go_simp; (try with_reducible rfl)
                    try simp only [List.getElem_toArray, List.getElem_cons_succ, List.getElem_cons_zero, Act.put, List.setIfInBounds_toArray, List.set_cons_zero, List.set_cons_succ]
                    refine wpAnyH_take (i := 27) (v := ?_) rfl (by kernel_rfl) (by kernel_rfl) (by kernel_rfl) (fun _ _ _ h => h) (Or.inl ⟨by rfl, fun w hSw => ?_⟩) (by assumption) ?_
                    rotate_left
                    · (try dsimp only at hSw); go_simp; (try with_reducible rfl)
                    try simp only [List.getElem_toArray, List.getElem_cons_succ, List.getElem_cons_zero, Act.put, List.setIfInBounds_toArray, List.set_cons_zero, List.set_cons_succ]
                    refine wpAnyH_done (by kernel_rfl) ?_ _
                    go_wp2
                    go_ret
                    exact ⟨rfl, HB6.out.trans (DY9.out.mono HB6.out.size)⟩
                  exact AllReadyH.nil
                exact AllReadyH.nil
              exact AllReadyH.nil
            exact AllReadyH.nil
          exact AllReadyH.nil
        exact AllReadyH.nil
      exact AllReadyH.nil
    exact AllReadyH.nil
  refine AllReadyH.cons rfl (fun K hK => ?_) ?_
  · go_simp
    have hb := Cmd.below_one Y0 (.cells #[.int .i64 1, .int .i64 2, .int .i64 1, .int .i64 1] 41)
    have EY1 := Lib.hid (heap_alloc_new Y0 (.cells #[.int .i64 1, .int .i64 2, .int .i64 1, .int .i64 1] 41))
    have DY1 := Lib.hid (DY0.out.trans (hb.mono DY0.out.size))
    clear hb
    refine hK.out _ _ ?_ (fun hHeld => ?_)
    · exact HS.out _ DY1.out
    clear hK K
    generalize Y0.alloc (.cells #[.int .i64 1, .int .i64 2, .int .i64 1, .int .i64 1] 41) = Y1 at EY1 DY1 hHeld ⊢
    try simp only [List.getElem_toArray, List.getElem_cons_succ, List.getElem_cons_zero, Act.put, List.setIfInBounds_toArray, List.set_cons_zero, List.set_cons_succ]
    refine wpAnyH_ready (rs := [4, 8]) (by kernel_rfl) (by simp) ?_
    refine AllReadyH.cons rfl (fun K hK => ?_) ?_
    · go_simp
      (go_at_call 11; ((with_reducible refine (HOf.out _ DY1.out).mono ?_); rintro E Y2 ⟨v1, rfl, hr, hb⟩; have DY2 := Lib.hid (DY1.out.trans (hb.mono DY1.out.size)); have RC2 := Lib.hid hr; have RT2 := Lib.hid ((two_id EY1.out).on hb); clear hb))
      refine hK.out _ _ ?_ (fun hHeld => ?_)
      · exact HS.out _ DY2.out
      clear hK K
      try simp only [List.getElem_toArray, List.getElem_cons_succ, List.getElem_cons_zero, Act.put, List.setIfInBounds_toArray, List.set_cons_zero, List.set_cons_succ]
      refine wpAnyH_ready (rs := [8]) (by kernel_rfl) (by simp) ?_
      refine AllReadyH.cons rfl (fun K hK => ?_) ?_
      · go_simp
        have hb := Cmd.below_one Y2 (.cells #[.slice (some ⟨Y0.heap.size, 0, none⟩) 2 2] 35)
        have EY3 := Lib.hid (heap_alloc_new Y2 (.cells #[.slice (some ⟨Y0.heap.size, 0, none⟩) 2 2] 35))
        have DY3 := Lib.hid (DY2.out.trans (hb.mono DY2.out.size))
        have RC := Lib.hid (RC2.out.on hb)
        have RT := Lib.hid (RT2.out.on hb)
        clear hb
        refine hK.out _ _ ?_ (fun hHeld => ?_)
        · exact HS.out _ DY3.out
        clear hK K
        generalize Y2.alloc (.cells #[.slice (some ⟨Y0.heap.size, 0, none⟩) 2 2] 35) = Y3 at EY3 DY3 RC RT hHeld ⊢
        try simp only [List.getElem_toArray, List.getElem_cons_succ, List.getElem_cons_zero, Act.put, List.setIfInBounds_toArray, List.set_cons_zero, List.set_cons_succ]
        refine wpAnyH_ready (rs := [9]) (by kernel_rfl) (by simp) ?_
        refine AllReadyH.cons rfl (fun K hK => ?_) ?_
        · go_simp
          (go_at_call 10; ((with_reducible refine (kll_same _ _ _ _ RC.out (ll_one EY3.out RT.out) (by decide)).mono ?_); rintro E Y5 ⟨rfl, hb⟩; have DY5 := Lib.hid (DY3.out.trans (hb.mono DY3.out.size)); clear hb))
          refine hK.out _ _ ?_ (fun hHeld => ?_)
          · exact HS.out _ DY5.out
          clear hK K
          try simp only [List.getElem_toArray, List.getElem_cons_succ, List.getElem_cons_zero, Act.put, List.setIfInBounds_toArray, List.set_cons_zero, List.set_cons_succ]
          refine wpAnyH_take (i := 10) (v := ?_) rfl (by kernel_rfl) (by kernel_rfl) (by kernel_rfl) (fun _ _ _ h => h) (Or.inl ⟨by rfl, fun w hSw => ?_⟩) (by assumption) ?_
          rotate_left
          · (try dsimp only at hSw); go_simp; (try with_reducible rfl)
          try simp only [List.getElem_toArray, List.getElem_cons_succ, List.getElem_cons_zero, Act.put, List.setIfInBounds_toArray, List.set_cons_zero, List.set_cons_succ]
          refine wpAnyH_take (i := 11) (v := ?_) rfl (by kernel_rfl) (by kernel_rfl) (by kernel_rfl) (fun _ _ _ h => h) (Or.inl ⟨by rfl, fun w hSw => ?_⟩) (by assumption) ?_
          rotate_left
          · (try dsimp only at hSw); go_simp; (try with_reducible rfl)
          try simp only [List.getElem_toArray, List.getElem_cons_succ, List.getElem_cons_zero, Act.put, List.setIfInBounds_toArray, List.set_cons_zero, List.set_cons_succ]
          refine wpAnyH_take (i := 12) (v := ?_) rfl (by kernel_rfl) (by kernel_rfl) (by kernel_rfl) (fun _ _ _ h => h) (Or.inl ⟨by rfl, fun w hSw => ?_⟩) (by assumption) ?_
          rotate_left
          · (try dsimp only at hSw); go_simp; (try with_reducible rfl)
          try simp only [List.getElem_toArray, List.getElem_cons_succ, List.getElem_cons_zero, Act.put, List.setIfInBounds_toArray, List.set_cons_zero, List.set_cons_succ]
          refine wpAnyH_take (i := 13) (v := ?_) rfl (by kernel_rfl) (by kernel_rfl) (by kernel_rfl) (fun _ _ _ h => h) (Or.inl ⟨by rfl, fun w hSw => ?_⟩) (by assumption) ?_
          rotate_left
          · (try dsimp only at hSw); go_simp; (try with_reducible rfl)
          try simp only [List.getElem_toArray, List.getElem_cons_succ, List.getElem_cons_zero, Act.put, List.setIfInBounds_toArray, List.set_cons_zero, List.set_cons_succ]
          refine wpAnyH_take (i := 14) (v := ?_) rfl (by kernel_rfl) (by kernel_rfl) (by kernel_rfl) (fun _ _ _ h => h) (Or.inl ⟨by rfl, fun w hSw => ?_⟩) (by assumption) ?_
          rotate_left
          · (try dsimp only at hSw); go_simp; (try with_reducible rfl)
          try simp only [List.getElem_toArray, List.getElem_cons_succ, List.getElem_cons_zero, Act.put, List.setIfInBounds_toArray, List.set_cons_zero, List.set_cons_succ]
          refine wpAnyH_ready (rs := [15]) (by kernel_rfl) (by simp) ?_
          refine AllReadyH.cons rfl (fun K hK => ?_) ?_
          · go_simp
            (go_at_call 16; ((with_reducible refine (HMu.out _ DY5.out).mono ?_); rintro E Y6 ⟨rfl, hb⟩; have DY6 := Lib.hid (DY5.out.trans (hb.mono DY5.out.size)); clear hb))
            refine hK.out _ _ ?_ (fun hHeld => ?_)
            · exact HS.out _ DY6.out
            clear hK K
            try simp only [List.getElem_toArray, List.getElem_cons_succ, List.getElem_cons_zero, Act.put, List.setIfInBounds_toArray, List.set_cons_zero, List.set_cons_succ]
            refine wpAnyH_take (i := 16) (v := ?_) rfl (by kernel_rfl) (by kernel_rfl) (by kernel_rfl) (fun _ _ _ h => h) (Or.inl ⟨by rfl, fun w hSw => ?_⟩) (by assumption) ?_
            rotate_left
            · (try dsimp only at hSw); go_simp; (try with_reducible rfl)
            try simp only [List.getElem_toArray, List.getElem_cons_succ, List.getElem_cons_zero, Act.put, List.setIfInBounds_toArray, List.set_cons_zero, List.set_cons_succ]
            refine wpAnyH_take (i := 17) (v := ?_) rfl (by kernel_rfl) (by kernel_rfl) (by kernel_rfl) (fun _ _ _ h => h) (Or.inl ⟨by rfl, fun w hSw => ?_⟩) (by assumption) ?_
            rotate_left
            · (try dsimp only at hSw); go_simp; (try with_reducible rfl)
            try simp only [List.getElem_toArray, List.getElem_cons_succ, List.getElem_cons_zero, Act.put, List.setIfInBounds_toArray, List.set_cons_zero, List.set_cons_succ]
            refine wpAnyH_take (i := 18) (v := ?_) rfl (by kernel_rfl) (by kernel_rfl) (by kernel_rfl) (fun _ _ _ h => h) (Or.inl ⟨by rfl, fun w hSw => ?_⟩) (by assumption) ?_
            rotate_left
            · (try dsimp only at hSw); go_simp; (try with_reducible rfl)
            try simp only [List.getElem_toArray, List.getElem_cons_succ, List.getElem_cons_zero, Act.put, List.setIfInBounds_toArray, List.set_cons_zero, List.set_cons_succ]
            refine wpAnyH_take (i := 20) (v := ?_) rfl (by kernel_rfl) (by kernel_rfl) (by kernel_rfl) (fun _ _ _ h => h) (Or.inl ⟨by rfl, fun w hSw => ?_⟩) (by assumption) ?_
            rotate_left
            · (try dsimp only at hSw); go_simp; (try with_reducible rfl)
            try simp only [List.getElem_toArray, List.getElem_cons_succ, List.getElem_cons_zero, Act.put, List.setIfInBounds_toArray, List.set_cons_zero, List.set_cons_succ]
            refine wpAnyH_take (i := 23) (v := ?_) rfl (by kernel_rfl) (by kernel_rfl) (by kernel_rfl) (fun _ _ _ h => h) (Or.inl ⟨by rfl, fun w hSw => ?_⟩) (by assumption) ?_
            rotate_left
            · (try dsimp only at hSw); go_simp; (try with_reducible rfl)
            try simp only [List.getElem_toArray, List.getElem_cons_succ, List.getElem_cons_zero, Act.put, List.setIfInBounds_toArray, List.set_cons_zero, List.set_cons_succ]
            refine wpAnyH_ready (rs := [19, 21]) (by kernel_rfl) (by simp) ?_
            refine AllReadyH.cons rfl (fun K hK => ?_) ?_
            · go_simp
              have hb := Cmd.below_one Y6 (.cells #[.int .i64 1, .int .i64 1] 41)
              have EZ1 := Lib.hid (heap_alloc_new Y6 (.cells #[.int .i64 1, .int .i64 1] 41))
              have DZ1 := Lib.hid (DY6.out.trans (hb.mono DY6.out.size))
              clear hb
              refine hK.out _ _ ?_ (fun hHeld => ?_)
              · exact HS.out _ DZ1.out
              clear hK K
              generalize Y6.alloc (.cells #[.int .i64 1, .int .i64 1] 41) = Z1 at EZ1 DZ1 hHeld ⊢
              try simp only [List.getElem_toArray, List.getElem_cons_succ, List.getElem_cons_zero, Act.put, List.setIfInBounds_toArray, List.set_cons_zero, List.set_cons_succ]
              refine wpAnyH_ready (rs := [21]) (by kernel_rfl) (by simp) ?_
              refine AllReadyH.cons rfl (fun K hK => ?_) ?_
              · go_simp
                have hb := Cmd.below_one Z1 (.cells #[.int .i64 1, .int .i64 2] 41)
                have EZ2 := Lib.hid (heap_alloc_new Z1 (.cells #[.int .i64 1, .int .i64 2] 41))
                have DZ2 := Lib.hid (DZ1.out.trans (hb.mono DZ1.out.size))
                have RA2 := Lib.hid ((one_id EZ1.out).on hb)
                clear hb
                refine hK.out _ _ ?_ (fun hHeld => ?_)
                · exact HS.out _ DZ2.out
                clear hK K
                generalize Z1.alloc (.cells #[.int .i64 1, .int .i64 2] 41) = Z2 at EZ2 DZ2 RA2 hHeld ⊢
                try simp only [List.getElem_toArray, List.getElem_cons_succ, List.getElem_cons_zero, Act.put, List.setIfInBounds_toArray, List.set_cons_zero, List.set_cons_succ]
                have RB2 := Lib.hid (one_id EZ2.out)
                refine wpAnyH_ready (rs := [22]) (by kernel_rfl) (by simp) ?_
                refine AllReadyH.cons rfl (fun K hK => ?_) ?_
                · go_simp
                  have hb := Cmd.below_one Z2 (.cells #[.slice (some ⟨Y6.heap.size, 0, none⟩) 1 1, .slice (some ⟨Z1.heap.size, 0, none⟩) 1 1] 35)
                  have EZ3 := Lib.hid (heap_alloc_new Z2 (.cells #[.slice (some ⟨Y6.heap.size, 0, none⟩) 1 1, .slice (some ⟨Z1.heap.size, 0, none⟩) 1 1] 35))
                  have DZ3 := Lib.hid (DZ2.out.trans (hb.mono DZ2.out.size))
                  have RA3 := Lib.hid (RA2.out.on hb)
                  have RB3 := Lib.hid (RB2.out.on hb)
                  clear hb
                  refine hK.out _ _ ?_ (fun hHeld => ?_)
                  · exact HS.out _ DZ3.out
                  clear hK K
                  generalize Z2.alloc (.cells #[.slice (some ⟨Y6.heap.size, 0, none⟩) 1 1, .slice (some ⟨Z1.heap.size, 0, none⟩) 1 1] 35) = Z3 at EZ3 DZ3 RA3 RB3 hHeld ⊢
                  try simp only [List.getElem_toArray, List.getElem_cons_succ, List.getElem_cons_zero, Act.put, List.setIfInBounds_toArray, List.set_cons_zero, List.set_cons_succ]
                  refine wpAnyH_ready (rs := [24]) (by kernel_rfl) (by simp) ?_
                  refine AllReadyH.cons rfl (fun K hK => ?_) ?_
                  · go_simp
                    (go_at_call 18; ((with_reducible refine (HAt.out _ DZ3.out _ (ll_two EZ3.out RA3.out RB3.out)).mono ?_); rintro E Y9 ⟨rfl, hb⟩; have DY9 := Lib.hid (DZ3.out.trans (hb.mono DZ3.out.size)); clear hb))
                    refine hK.out _ _ ?_ (fun hHeld => ?_)
                    · exact HS.out _ DY9.out
                    clear hK K
                    try simp only [List.getElem_toArray, List.getElem_cons_succ, List.getElem_cons_zero, Act.put, List.setIfInBounds_toArray, List.set_cons_zero, List.set_cons_succ]
                    refine wpAnyH_take (i := 25) (v := ?_) rfl (by kernel_rfl) (by kernel_rfl) (by kernel_rfl) (fun _ _ _ h => h) (Or.inl ⟨by rfl, fun w hSw => ?_⟩) (by assumption) ?_
                    rotate_left
                    · (try dsimp only at hSw); go_simp; (try with_reducible rfl)
                    try simp only [List.getElem_toArray, List.getElem_cons_succ, List.getElem_cons_zero, Act.put, List.setIfInBounds_toArray, List.set_cons_zero, List.set_cons_succ]
                    refine wpAnyH_take (i := 26) (v := ?_) rfl (by kernel_rfl) (by kernel_rfl) (by kernel_rfl) (fun _ _ _ h => h) (Or.inl ⟨by rfl, fun w hSw => ?_⟩) (by assumption) ?_
                    rotate_left
                    · (try dsimp only at hSw); go_simp; (try with_reducible rfl)
                    try simp only [List.getElem_toArray, List.getElem_cons_succ, List.getElem_cons_zero, Act.put, List.setIfInBounds_toArray, List.set_cons_zero, List.set_cons_succ]
                    refine wpAnyH_take (i := 27) (v := ?_) rfl (by kernel_rfl) (by kernel_rfl) (by kernel_rfl) (fun _ _ _ h => h) (Or.inl ⟨by rfl, fun w hSw => ?_⟩) (by assumption) ?_
                    rotate_left
                    · (try dsimp only at hSw); go_simp; (try with_reducible rfl)
                    try simp only [List.getElem_toArray, List.getElem_cons_succ, List.getElem_cons_zero, Act.put, List.setIfInBounds_toArray, List.set_cons_zero, List.set_cons_succ]
                    refine wpAnyH_done (by kernel_rfl) ?_ _
                    go_wp2
                    go_ret
                    exact ⟨rfl, HB6.out.trans (DY9.out.mono HB6.out.size)⟩
                  exact AllReadyH.nil
                exact AllReadyH.nil
              exact AllReadyH.nil
            refine AllReadyH.cons rfl (fun K hK => ?_) ?_
            · go_simp
              have hb := Cmd.below_one Y6 (.cells #[.int .i64 1, .int .i64 2] 41)
              have EZ1 := Lib.hid (heap_alloc_new Y6 (.cells #[.int .i64 1, .int .i64 2] 41))
              have DZ1 := Lib.hid (DY6.out.trans (hb.mono DY6.out.size))
              clear hb
              refine hK.out _ _ ?_ (fun hHeld => ?_)
              · exact HS.out _ DZ1.out
              clear hK K
              generalize Y6.alloc (.cells #[.int .i64 1, .int .i64 2] 41) = Z1 at EZ1 DZ1 hHeld ⊢
              try simp only [List.getElem_toArray, List.getElem_cons_succ, List.getElem_cons_zero, Act.put, List.setIfInBounds_toArray, List.set_cons_zero, List.set_cons_succ]
              refine wpAnyH_ready (rs := [19]) (by kernel_rfl) (by simp) ?_
              refine AllReadyH.cons rfl (fun K hK => ?_) ?_
              · go_simp
                have hb := Cmd.below_one Z1 (.cells #[.int .i64 1, .int .i64 1] 41)
                have EZ2 := Lib.hid (heap_alloc_new Z1 (.cells #[.int .i64 1, .int .i64 1] 41))
                have DZ2 := Lib.hid (DZ1.out.trans (hb.mono DZ1.out.size))
                have RB2 := Lib.hid ((one_id EZ1.out).on hb)
                clear hb
                refine hK.out _ _ ?_ (fun hHeld => ?_)
                · exact HS.out _ DZ2.out
                clear hK K
                generalize Z1.alloc (.cells #[.int .i64 1, .int .i64 1] 41) = Z2 at EZ2 DZ2 RB2 hHeld ⊢
                try simp only [List.getElem_toArray, List.getElem_cons_succ, List.getElem_cons_zero, Act.put, List.setIfInBounds_toArray, List.set_cons_zero, List.set_cons_succ]
                have RA2 := Lib.hid (one_id EZ2.out)
                refine wpAnyH_ready (rs := [22]) (by kernel_rfl) (by simp) ?_
                refine AllReadyH.cons rfl (fun K hK => ?_) ?_
                · go_simp
                  have hb := Cmd.below_one Z2 (.cells #[.slice (some ⟨Z1.heap.size, 0, none⟩) 1 1, .slice (some ⟨Y6.heap.size, 0, none⟩) 1 1] 35)
                  have EZ3 := Lib.hid (heap_alloc_new Z2 (.cells #[.slice (some ⟨Z1.heap.size, 0, none⟩) 1 1, .slice (some ⟨Y6.heap.size, 0, none⟩) 1 1] 35))
                  have DZ3 := Lib.hid (DZ2.out.trans (hb.mono DZ2.out.size))
                  have RA3 := Lib.hid (RA2.out.on hb)
                  have RB3 := Lib.hid (RB2.out.on hb)
                  clear hb
                  refine hK.out _ _ ?_ (fun hHeld => ?_)
                  · exact HS.out _ DZ3.out
                  clear hK K
                  generalize Z2.alloc (.cells #[.slice (some ⟨Z1.heap.size, 0, none⟩) 1 1, .slice (some ⟨Y6.heap.size, 0, none⟩) 1 1] 35) = Z3 at EZ3 DZ3 RA3 RB3 hHeld ⊢
                  try simp only [List.getElem_toArray, List.getElem_cons_succ, List.getElem_cons_zero, Act.put, List.setIfInBounds_toArray, List.set_cons_zero, List.set_cons_succ]
                  refine wpAnyH_ready (rs := [24]) (by kernel_rfl) (by simp) ?_
                  refine AllReadyH.cons rfl (fun K hK => ?_) ?_
                  · go_simp
                    (go_at_call 18; ((with_reducible refine (HAt.out _ DZ3.out _ (ll_two EZ3.out RA3.out RB3.out)).mono ?_); rintro E Y9 ⟨rfl, hb⟩; have DY9 := Lib.hid (DZ3.out.trans (hb.mono DZ3.out.size)); clear hb))
                    refine hK.out _ _ ?_ (fun hHeld => ?_)
                    · exact HS.out _ DY9.out
                    clear hK K
                    try simp only [List.getElem_toArray, List.getElem_cons_succ, List.getElem_cons_zero, Act.put, List.setIfInBounds_toArray, List.set_cons_zero, List.set_cons_succ]
                    refine wpAnyH_take (i := 25) (v := ?_) rfl (by kernel_rfl) (by kernel_rfl) (by kernel_rfl) (fun _ _ _ h => h) (Or.inl ⟨by rfl, fun w hSw => ?_⟩) (by assumption) ?_
                    rotate_left
                    · (try dsimp only at hSw); go_simp; (try with_reducible rfl)
                    try simp only [List.getElem_toArray, List.getElem_cons_succ, List.getElem_cons_zero, Act.put, List.setIfInBounds_toArray, List.set_cons_zero, List.set_cons_succ]
                    refine wpAnyH_take (i := 26) (v := ?_) rfl (by kernel_rfl) (by kernel_rfl) (by kernel_rfl) (fun _ _ _ h => h) (Or.inl ⟨by rfl, fun w hSw => ?_⟩) (by assumption) ?_
                    rotate_left
                    · (try dsimp only at hSw); go_simp; (try with_reducible rfl)
                    try simp only [List.getElem_toArray, List.getElem_cons_succ, List.getElem_cons_zero, Act.put, List.setIfInBounds_toArray, List.set_cons_zero, List.set_cons_succ]
                    refine wpAnyH_take (i := 27) (v := ?_) rfl (by kernel_rfl) (by kernel_rfl) (by kernel_rfl) (fun _ _ _ h => h) (Or.inl ⟨by rfl, fun w hSw => ?_⟩) (by assumption) ?_
                    rotate_left
                    · (try dsimp only at hSw); go_simp; (try with_reducible rfl)
                    try simp only [List.getElem_toArray, List.getElem_cons_succ, List.getElem_cons_zero, Act.put, List.setIfInBounds_toArray, List.set_cons_zero, List.set_cons_succ]
                    refine wpAnyH_done (by kernel_rfl) ?_ _
                    go_wp2
                    go_ret
                    exact ⟨rfl, HB6.out.trans (DY9.out.mono HB6.out.size)⟩
                  exact AllReadyH.nil
                exact AllReadyH.nil
              exact AllReadyH.nil
            exact AllReadyH.nil
          exact AllReadyH.nil
        exact AllReadyH.nil
      exact AllReadyH.nil
    refine AllReadyH.cons rfl (fun K hK => ?_) ?_
    · go_simp
      have hb := Cmd.below_one Y1 (.cells #[.slice (some ⟨Y0.heap.size, 0, none⟩) 2 2] 35)
      have EY2 := Lib.hid (heap_alloc_new Y1 (.cells #[.slice (some ⟨Y0.heap.size, 0, none⟩) 2 2] 35))
      have DY2 := Lib.hid (DY1.out.trans (hb.mono DY1.out.size))
      have RL2 := Lib.hid (ll_one EY2.out ((two_id EY1.out).on hb))
      clear hb
      refine hK.out _ _ ?_ (fun hHeld => ?_)
      · exact HS.out _ DY2.out
      clear hK K
      generalize Y1.alloc (.cells #[.slice (some ⟨Y0.heap.size, 0, none⟩) 2 2] 35) = Y2 at EY2 DY2 RL2 hHeld ⊢
      try simp only [List.getElem_toArray, List.getElem_cons_succ, List.getElem_cons_zero, Act.put, List.setIfInBounds_toArray, List.set_cons_zero, List.set_cons_succ]
      refine wpAnyH_ready (rs := [4]) (by kernel_rfl) (by simp) ?_
      refine AllReadyH.cons rfl (fun K hK => ?_) ?_
      · go_simp
        (go_at_call 11; ((with_reducible refine (HOf.out _ DY2.out).mono ?_); rintro E Y3 ⟨v1, rfl, hr, hb⟩; have DY3 := Lib.hid (DY2.out.trans (hb.mono DY2.out.size)); have RC := Lib.hid hr; have RL := Lib.hid (RL2.out.on hb); clear hb))
        refine hK.out _ _ ?_ (fun hHeld => ?_)
        · exact HS.out _ DY3.out
        clear hK K
        try simp only [List.getElem_toArray, List.getElem_cons_succ, List.getElem_cons_zero, Act.put, List.setIfInBounds_toArray, List.set_cons_zero, List.set_cons_succ]
        refine wpAnyH_ready (rs := [9]) (by kernel_rfl) (by simp) ?_
        refine AllReadyH.cons rfl (fun K hK => ?_) ?_
        · go_simp
          (go_at_call 10; ((with_reducible refine (kll_same _ _ _ _ RC.out RL.out (by decide)).mono ?_); rintro E Y5 ⟨rfl, hb⟩; have DY5 := Lib.hid (DY3.out.trans (hb.mono DY3.out.size)); clear hb))
          refine hK.out _ _ ?_ (fun hHeld => ?_)
          · exact HS.out _ DY5.out
          clear hK K
          try simp only [List.getElem_toArray, List.getElem_cons_succ, List.getElem_cons_zero, Act.put, List.setIfInBounds_toArray, List.set_cons_zero, List.set_cons_succ]
          refine wpAnyH_take (i := 10) (v := ?_) rfl (by kernel_rfl) (by kernel_rfl) (by kernel_rfl) (fun _ _ _ h => h) (Or.inl ⟨by rfl, fun w hSw => ?_⟩) (by assumption) ?_
          rotate_left
          · (try dsimp only at hSw); go_simp; (try with_reducible rfl)
          try simp only [List.getElem_toArray, List.getElem_cons_succ, List.getElem_cons_zero, Act.put, List.setIfInBounds_toArray, List.set_cons_zero, List.set_cons_succ]
          refine wpAnyH_take (i := 11) (v := ?_) rfl (by kernel_rfl) (by kernel_rfl) (by kernel_rfl) (fun _ _ _ h => h) (Or.inl ⟨by rfl, fun w hSw => ?_⟩) (by assumption) ?_
          rotate_left
          · (try dsimp only at hSw); go_simp; (try with_reducible rfl)
          try simp only [List.getElem_toArray, List.getElem_cons_succ, List.getElem_cons_zero, Act.put, List.setIfInBounds_toArray, List.set_cons_zero, List.set_cons_succ]
          refine wpAnyH_take (i := 12) (v := ?_) rfl (by kernel_rfl) (by kernel_rfl) (by kernel_rfl) (fun _ _ _ h => h) (Or.inl ⟨by rfl, fun w hSw => ?_⟩) (by assumption) ?_
          rotate_left
          · (try dsimp only at hSw); go_simp; (try with_reducible rfl)
          try simp only [List.getElem_toArray, List.getElem_cons_succ, List.getElem_cons_zero, Act.put, List.setIfInBounds_toArray, List.set_cons_zero, List.set_cons_succ]
          refine wpAnyH_take (i := 13) (v := ?_) rfl (by kernel_rfl) (by kernel_rfl) (by kernel_rfl) (fun _ _ _ h => h) (Or.inl ⟨by rfl, fun w hSw => ?_⟩) (by assumption) ?_
          rotate_left
          · (try dsimp only at hSw); go_simp; (try with_reducible rfl)
          try simp only [List.getElem_toArray, List.getElem_cons_succ, List.getElem_cons_zero, Act.put, List.setIfInBounds_toArray, List.set_cons_zero, List.set_cons_succ]
          refine wpAnyH_take (i := 14) (v := ?_) rfl (by kernel_rfl) (by kernel_rfl) (by kernel_rfl) (fun _ _ _ h => h) (Or.inl ⟨by rfl, fun w hSw => ?_⟩) (by assumption) ?_
          rotate_left
          · (try dsimp only at hSw); go_simp; (try with_reducible rfl)
          try simp only [List.getElem_toArray, List.getElem_cons_succ, List.getElem_cons_zero, Act.put, List.setIfInBounds_toArray, List.set_cons_zero, List.set_cons_succ]
          refine wpAnyH_ready (rs := [15]) (by kernel_rfl) (by simp) ?_
          refine AllReadyH.cons rfl (fun K hK => ?_) ?_
          · go_simp
            (go_at_call 16; ((with_reducible refine (HMu.out _ DY5.out).mono ?_); rintro E Y6 ⟨rfl, hb⟩; have DY6 := Lib.hid (DY5.out.trans (hb.mono DY5.out.size)); clear hb))
            refine hK.out _ _ ?_ (fun hHeld => ?_)
            · exact HS.out _ DY6.out
            clear hK K
            try simp only [List.getElem_toArray, List.getElem_cons_succ, List.getElem_cons_zero, Act.put, List.setIfInBounds_toArray, List.set_cons_zero, List.set_cons_succ]
            refine wpAnyH_take (i := 16) (v := ?_) rfl (by kernel_rfl) (by kernel_rfl) (by kernel_rfl) (fun _ _ _ h => h) (Or.inl ⟨by rfl, fun w hSw => ?_⟩) (by assumption) ?_
            rotate_left
            · (try dsimp only at hSw); go_simp; (try with_reducible rfl)
            try simp only [List.getElem_toArray, List.getElem_cons_succ, List.getElem_cons_zero, Act.put, List.setIfInBounds_toArray, List.set_cons_zero, List.set_cons_succ]
            refine wpAnyH_take (i := 17) (v := ?_) rfl (by kernel_rfl) (by kernel_rfl) (by kernel_rfl) (fun _ _ _ h => h) (Or.inl ⟨by rfl, fun w hSw => ?_⟩) (by assumption) ?_
            rotate_left
            · (try dsimp only at hSw); go_simp; (try with_reducible rfl)
            try simp only [List.getElem_toArray, List.getElem_cons_succ, List.getElem_cons_zero, Act.put, List.setIfInBounds_toArray, List.set_cons_zero, List.set_cons_succ]
            refine wpAnyH_take (i := 18) (v := ?_) rfl (by kernel_rfl) (by kernel_rfl) (by kernel_rfl) (fun _ _ _ h => h) (Or.inl ⟨by rfl, fun w hSw => ?_⟩) (by assumption) ?_
            rotate_left
            · (try dsimp only at hSw); go_simp; (try with_reducible rfl)
            try simp only [List.getElem_toArray, List.getElem_cons_succ, List.getElem_cons_zero, Act.put, List.setIfInBounds_toArray, List.set_cons_zero, List.set_cons_succ]
            refine wpAnyH_take (i := 20) (v := ?_) rfl (by kernel_rfl) (by kernel_rfl) (by kernel_rfl) (fun _ _ _ h => h) (Or.inl ⟨by rfl, fun w hSw => ?_⟩) (by assumption) ?_
            rotate_left
            · (try dsimp only at hSw); go_simp; (try with_reducible rfl)
            try simp only [List.getElem_toArray, List.getElem_cons_succ, List.getElem_cons_zero, Act.put, List.setIfInBounds_toArray, List.set_cons_zero, List.set_cons_succ]
            refine wpAnyH_take (i := 23) (v := ?_) rfl (by kernel_rfl) (by kernel_rfl) (by kernel_rfl) (fun _ _ _ h => h) (Or.inl ⟨by rfl, fun w hSw => ?_⟩) (by assumption) ?_
            rotate_left
            · (try dsimp only at hSw); go_simp; (try with_reducible rfl)
            try simp only [List.getElem_toArray, List.getElem_cons_succ, List.getElem_cons_zero, Act.put, List.setIfInBounds_toArray, List.set_cons_zero, List.set_cons_succ]
            refine wpAnyH_ready (rs := [19, 21]) (by kernel_rfl) (by simp) ?_
            refine AllReadyH.cons rfl (fun K hK => ?_) ?_
            · go_simp
              have hb := Cmd.below_one Y6 (.cells #[.int .i64 1, .int .i64 1] 41)
              have EZ1 := Lib.hid (heap_alloc_new Y6 (.cells #[.int .i64 1, .int .i64 1] 41))
              have DZ1 := Lib.hid (DY6.out.trans (hb.mono DY6.out.size))
              clear hb
              refine hK.out _ _ ?_ (fun hHeld => ?_)
              · exact HS.out _ DZ1.out
              clear hK K
              generalize Y6.alloc (.cells #[.int .i64 1, .int .i64 1] 41) = Z1 at EZ1 DZ1 hHeld ⊢
              try simp only [List.getElem_toArray, List.getElem_cons_succ, List.getElem_cons_zero, Act.put, List.setIfInBounds_toArray, List.set_cons_zero, List.set_cons_succ]
              refine wpAnyH_ready (rs := [21]) (by kernel_rfl) (by simp) ?_
              refine AllReadyH.cons rfl (fun K hK => ?_) ?_
              · go_simp
                have hb := Cmd.below_one Z1 (.cells #[.int .i64 1, .int .i64 2] 41)
                have EZ2 := Lib.hid (heap_alloc_new Z1 (.cells #[.int .i64 1, .int .i64 2] 41))
                have DZ2 := Lib.hid (DZ1.out.trans (hb.mono DZ1.out.size))
                have RA2 := Lib.hid ((one_id EZ1.out).on hb)
                clear hb
                refine hK.out _ _ ?_ (fun hHeld => ?_)
                · exact HS.out _ DZ2.out
                clear hK K
                generalize Z1.alloc (.cells #[.int .i64 1, .int .i64 2] 41) = Z2 at EZ2 DZ2 RA2 hHeld ⊢
                try simp only [List.getElem_toArray, List.getElem_cons_succ, List.getElem_cons_zero, Act.put, List.setIfInBounds_toArray, List.set_cons_zero, List.set_cons_succ]
                have RB2 := Lib.hid (one_id EZ2.out)
                refine wpAnyH_ready (rs := [22]) (by kernel_rfl) (by simp) ?_
                refine AllReadyH.cons rfl (fun K hK => ?_) ?_
                · go_simp
                  have hb := Cmd.below_one Z2 (.cells #[.slice (some ⟨Y6.heap.size, 0, none⟩) 1 1, .slice (some ⟨Z1.heap.size, 0, none⟩) 1 1] 35)
                  have EZ3 := Lib.hid (heap_alloc_new Z2 (.cells #[.slice (some ⟨Y6.heap.size, 0, none⟩) 1 1, .slice (some ⟨Z1.heap.size, 0, none⟩) 1 1] 35))
                  have DZ3 := Lib.hid (DZ2.out.trans (hb.mono DZ2.out.size))
                  have RA3 := Lib.hid (RA2.out.on hb)
                  have RB3 := Lib.hid (RB2.out.on hb)
                  clear hb
                  refine hK.out _ _ ?_ (fun hHeld => ?_)
                  · exact HS.out _ DZ3.out
                  clear hK K
                  generalize Z2.alloc (.cells #[.slice (some ⟨Y6.heap.size, 0, none⟩) 1 1, .slice (some ⟨Z1.heap.size, 0, none⟩) 1 1] 35) = Z3 at EZ3 DZ3 RA3 RB3 hHeld ⊢
                  try simp only [List.getElem_toArray, List.getElem_cons_succ, List.getElem_cons_zero, Act.put, List.setIfInBounds_toArray, List.set_cons_zero, List.set_cons_succ]
                  refine wpAnyH_ready (rs := [24]) (by kernel_rfl) (by simp) ?_
                  refine AllReadyH.cons rfl (fun K hK => ?_) ?_
                  · go_simp
                    (go_at_call 18; ((with_reducible refine (HAt.out _ DZ3.out _ (ll_two EZ3.out RA3.out RB3.out)).mono ?_); rintro E Y9 ⟨rfl, hb⟩; have DY9 := Lib.hid (DZ3.out.trans (hb.mono DZ3.out.size)); clear hb))
                    refine hK.out _ _ ?_ (fun hHeld => ?_)
                    · exact HS.out _ DY9.out
                    clear hK K
                    try simp only [List.getElem_toArray, List.getElem_cons_succ, List.getElem_cons_zero, Act.put, List.setIfInBounds_toArray, List.set_cons_zero, List.set_cons_succ]
                    refine wpAnyH_take (i := 25) (v := ?_) rfl (by kernel_rfl) (by kernel_rfl) (by kernel_rfl) (fun _ _ _ h => h) (Or.inl ⟨by rfl, fun w hSw => ?_⟩) (by assumption) ?_
                    rotate_left
                    · (try dsimp only at hSw); go_simp; (try with_reducible rfl)
                    try simp only [List.getElem_toArray, List.getElem_cons_succ, List.getElem_cons_zero, Act.put, List.setIfInBounds_toArray, List.set_cons_zero, List.set_cons_succ]
                    refine wpAnyH_take (i := 26) (v := ?_) rfl (by kernel_rfl) (by kernel_rfl) (by kernel_rfl) (fun _ _ _ h => h) (Or.inl ⟨by rfl, fun w hSw => ?_⟩) (by assumption) ?_
                    rotate_left
                    · (try dsimp only at hSw); go_simp; (try with_reducible rfl)
                    try simp only [List.getElem_toArray, List.getElem_cons_succ, List.getElem_cons_zero, Act.put, List.setIfInBounds_toArray, List.set_cons_zero, List.set_cons_succ]
                    refine wpAnyH_take (i := 27) (v := ?_) rfl (by kernel_rfl) (by kernel_rfl) (by kernel_rfl) (fun _ _ _ h => h) (Or.inl ⟨by rfl, fun w hSw => ?_⟩) (by assumption) ?_
                    rotate_left
                    · (try dsimp only at hSw); go_simp; (try with_reducible rfl)
                    try simp only [List.getElem_toArray, List.getElem_cons_succ, List.getElem_cons_zero, Act.put, List.setIfInBounds_toArray, List.set_cons_zero, List.set_cons_succ]
                    refine wpAnyH_done (by kernel_rfl) ?_ _
                    go_wp2
                    go_ret
                    exact ⟨rfl, HB6.out.trans (DY9.out.mono HB6.out.size)⟩
                  exact AllReadyH.nil
                exact AllReadyH.nil
              exact AllReadyH.nil
            refine AllReadyH.cons rfl (fun K hK => ?_) ?_
            · go_simp
              have hb := Cmd.below_one Y6 (.cells #[.int .i64 1, .int .i64 2] 41)
              have EZ1 := Lib.hid (heap_alloc_new Y6 (.cells #[.int .i64 1, .int .i64 2] 41))
              have DZ1 := Lib.hid (DY6.out.trans (hb.mono DY6.out.size))
              clear hb
              refine hK.out _ _ ?_ (fun hHeld => ?_)
              · exact HS.out _ DZ1.out
              clear hK K
              generalize Y6.alloc (.cells #[.int .i64 1, .int .i64 2] 41) = Z1 at EZ1 DZ1 hHeld ⊢
              try simp only [List.getElem_toArray, List.getElem_cons_succ, List.getElem_cons_zero, Act.put, List.setIfInBounds_toArray, List.set_cons_zero, List.set_cons_succ]
              refine wpAnyH_ready (rs := [19]) (by kernel_rfl) (by simp) ?_
              refine AllReadyH.cons rfl (fun K hK => ?_) ?_
              · go_simp
                have hb := Cmd.below_one Z1 (.cells #[.int .i64 1, .int .i64 1] 41)
                have EZ2 := Lib.hid (heap_alloc_new Z1 (.cells #[.int .i64 1, .int .i64 1] 41))
                have DZ2 := Lib.hid (DZ1.out.trans (hb.mono DZ1.out.size))
                have RB2 := Lib.hid ((one_id EZ1.out).on hb)
                clear hb
                refine hK.out _ _ ?_ (fun hHeld => ?_)
                · exact HS.out _ DZ2.out
                clear hK K
                generalize Z1.alloc (.cells #[.int .i64 1, .int .i64 1] 41) = Z2 at EZ2 DZ2 RB2 hHeld ⊢
                try simp only [List.getElem_toArray, List.getElem_cons_succ, List.getElem_cons_zero, Act.put, List.setIfInBounds_toArray, List.set_cons_zero, List.set_cons_succ]
                have RA2 := Lib.hid (one_id EZ2.out)
                refine wpAnyH_ready (rs := [22]) (by kernel_rfl) (by simp) ?_
                refine AllReadyH.cons rfl (fun K hK => ?_) ?_
                · go_simp
                  have hb := Cmd.below_one Z2 (.cells #[.slice (some ⟨Z1.heap.size, 0, none⟩) 1 1, .slice (some ⟨Y6.heap.size, 0, none⟩) 1 1] 35)
                  have EZ3 := Lib.hid (heap_alloc_new Z2 (.cells #[.slice (some ⟨Z1.heap.size, 0, none⟩) 1 1, .slice (some ⟨Y6.heap.size, 0, none⟩) 1 1] 35))
                  have DZ3 := Lib.hid (DZ2.out.trans (hb.mono DZ2.out.size))
                  have RA3 := Lib.hid (RA2.out.on hb)
                  have RB3 := Lib.hid (RB2.out.on hb)
                  clear hb
                  refine hK.out _ _ ?_ (fun hHeld => ?_)
                  · exact HS.out _ DZ3.out
                  clear hK K
                  generalize Z2.alloc (.cells #[.slice (some ⟨Z1.heap.size, 0, none⟩) 1 1, .slice (some ⟨Y6.heap.size, 0, none⟩) 1 1] 35) = Z3 at EZ3 DZ3 RA3 RB3 hHeld ⊢
                  try simp only [List.getElem_toArray, List.getElem_cons_succ, List.getElem_cons_zero, Act.put, List.setIfInBounds_toArray, List.set_cons_zero, List.set_cons_succ]
                  refine wpAnyH_ready (rs := [24]) (by kernel_rfl) (by simp) ?_
                  refine AllReadyH.cons rfl (fun K hK => ?_) ?_
                  · go_simp
                    (go_at_call 18; ((with_reducible refine (HAt.out _ DZ3.out _ (ll_two EZ3.out RA3.out RB3.out)).mono ?_); rintro E Y9 ⟨rfl, hb⟩; have DY9 := Lib.hid (DZ3.out.trans (hb.mono DZ3.out.size)); clear hb))
                    refine hK.out _ _ ?_ (fun hHeld => ?_)
                    · exact HS.out _ DY9.out
                    clear hK K
                    try simp only [List.getElem_toArray, List.getElem_cons_succ, List.getElem_cons_zero, Act.put, List.setIfInBounds_toArray, List.set_cons_zero, List.set_cons_succ]
                    refine wpAnyH_take (i := 25) (v := ?_) rfl (by kernel_rfl) (by kernel_rfl) (by kernel_rfl) (fun _ _ _ h => h) (Or.inl ⟨by rfl, fun w hSw => ?_⟩) (by assumption) ?_
                    rotate_left
                    · (try dsimp only at hSw); go_simp; (try with_reducible rfl)
                    try simp only [List.getElem_toArray, List.getElem_cons_succ, List.getElem_cons_zero, Act.put, List.setIfInBounds_toArray, List.set_cons_zero, List.set_cons_succ]
                    refine wpAnyH_take (i := 26) (v := ?_) rfl (by kernel_rfl) (by kernel_rfl) (by kernel_rfl) (fun _ _ _ h => h) (Or.inl ⟨by rfl, fun w hSw => ?_⟩) (by assumption) ?_
                    rotate_left
                    · (try dsimp only at hSw); go_simp; (try with_reducible rfl)
                    try simp only [List.getElem_toArray, List.getElem_cons_succ, List.getElem_cons_zero, Act.put, List.setIfInBounds_toArray, List.set_cons_zero, List.set_cons_succ]
                    refine wpAnyH_take (i := 27) (v := ?_) rfl (by kernel_rfl) (by kernel_rfl) (by kernel_rfl) (fun _ _ _ h => h) (Or.inl ⟨by rfl, fun w hSw => ?_⟩) (by assumption) ?_
                    rotate_left
                    · (try dsimp only at hSw); go_simp; (try with_reducible rfl)
                    try simp only [List.getElem_toArray, List.getElem_cons_succ, List.getElem_cons_zero, Act.put, List.setIfInBounds_toArray, List.set_cons_zero, List.set_cons_succ]
                    refine wpAnyH_done (by kernel_rfl) ?_ _
                    go_wp2
                    go_ret
                    exact ⟨rfl, HB6.out.trans (DY9.out.mono HB6.out.size)⟩
                  exact AllReadyH.nil
                exact AllReadyH.nil
              exact AllReadyH.nil
            exact AllReadyH.nil
          exact AllReadyH.nil
        exact AllReadyH.nil
      exact AllReadyH.nil
    exact AllReadyH.nil
  exact AllReadyH.nil
end Go.Proofs.YthcejcffnjhomaaGreat.Cps
