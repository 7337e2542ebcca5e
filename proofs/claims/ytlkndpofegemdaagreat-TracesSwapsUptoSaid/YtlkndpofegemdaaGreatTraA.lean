/- Orders that are the same but for swaps (layer 19, traces), plain: which lists conflict; where the lists of one order stand in another one; the same but for swaps; the fewest swaps; an order is the same so as itself, and as what a swap makes of it. No condition but those in each statement. -/
import Derived.Test.YtlkndpofegemdaaGreatCpsA
namespace Go.Proofs.YtlkndpofegemdaaGreat.Tra
open Go.RowKit Cmd Bat Ids Rec Wid Gra Rea Cps
set_option linter.unusedVariables false
set_option linter.unusedSimpArgs false

/-- The commands of an id's record (none: there is no such record). -/
def csG (rs : List Rcd) (x : Idn) : List Cmdn := match rs.find? (fun r => decide (r.1 = x)) with
  | some r => r.2.2.2
  | none => []
theorem cs_at {rs : List Rcd} {x : Idn} {k : Nat} (hk : k < rs.length) (h : (layG.at rs k).1 = x) (hn : ∀ j, j < k → (layG.at rs j).1 ≠ x) : csG rs x = (layG.at rs k).2.2.2 := by
  have e : rs.find? (fun r => decide (r.1 = x)) = some (layG.at rs k) := by
    rw [List.find?_eq_some_iff_getElem]
    refine ⟨decide_eq_true h, k, hk, (layG.at_get hk).symm, fun j hj => ?_⟩
    have := hn j hj
    rw [layG.at_get (Nat.lt_trans hj hk)] at this
    simp [this]
  unfold csG
  rw [e]
theorem cs_no {rs : List Rcd} {x : Idn} (h : x ∉ idsG rs) : csG rs x = [] := by
  have e : rs.find? (fun r => decide (r.1 = x)) = none := by
    rw [List.find?_eq_none]
    intro r hr
    rw [decide_eq_true_iff]
    rintro rfl
    exact h (mem_ids.2 (by
      obtain ⟨j, hj, e⟩ := (Lay.mem (L := layG)).1 hr
      exact ⟨j, hj, by rw [e]⟩))
  unfold csG
  rw [e]
theorem conf_comm (x y : Cmdn) : conf x y = conf y x := by
  show cConf x.1 x.2.1 x.2.2 y.1 y.2.1 y.2.2 = cConf y.1 y.2.1 y.2.2 x.1 x.2.1 x.2.2
  unfold cConf
  rw [Bool.and_comm (cRight _ _ _) (cRight _ _ _), Bool.or_comm, show decide (x.2.1 = y.2.1) = decide (y.2.1 = x.2.1) from decide_eq_decide.2 eq_comm]
theorem bconf_iff {xs ys : List Cmdn} : bConf xs ys = true ↔ ∃ x ∈ xs, ∃ y ∈ ys, conf x y = true := by
  unfold bConf
  simp only [List.any_eq_true]
theorem bconf_comm (xs ys : List Cmdn) : bConf xs ys = bConf ys xs := by
  rw [Bool.eq_iff_iff, bconf_iff, bconf_iff]
  constructor
  · rintro ⟨x, hx, y, hy, h⟩; exact ⟨y, hy, x, hx, by rw [conf_comm]; exact h⟩
  · rintro ⟨x, hx, y, hy, h⟩; exact ⟨y, hy, x, hx, by rw [conf_comm]; exact h⟩
/-- Do two lists of ids conflict? -/
def confG (rs : List Rcd) (a b : List Idn) : Bool := a.any fun x => b.any fun y => bConf (csG rs x) (csG rs y)
theorem confG_iff {rs : List Rcd} {a b : List Idn} : confG rs a b = true ↔ ∃ x ∈ a, ∃ y ∈ b, bConf (csG rs x) (csG rs y) = true := by
  unfold confG
  simp only [List.any_eq_true]
theorem confG_comm (rs : List Rcd) (a b : List Idn) : confG rs a b = confG rs b a := by
  rw [Bool.eq_iff_iff, confG_iff, confG_iff]
  constructor
  · rintro ⟨x, hx, y, hy, h⟩; exact ⟨y, hy, x, hx, by rw [bconf_comm]; exact h⟩
  · rintro ⟨x, hx, y, hy, h⟩; exact ⟨y, hy, x, hx, by rw [bconf_comm]; exact h⟩
theorem confG_yes {rs : List Rcd} {a b : List Idn} {x y : Idn} (hx : x ∈ a) (hy : y ∈ b) (h : bConf (csG rs x) (csG rs y) = true) : confG rs a b = true := confG_iff.2 ⟨x, hx, y, hy, h⟩
theorem confG_no {rs : List Rcd} {a b : List Idn} (h : ∀ x ∈ a, ∀ y ∈ b, bConf (csG rs x) (csG rs y) = false) : confG rs a b = false := by
  cases e : confG rs a b with
  | false => rfl
  | true => obtain ⟨x, hx, y, hy, h'⟩ := confG_iff.1 e; rw [h x hx y hy] at h'; cases h'

/-! ### Where the lists of one order stand in another one -/
/-- The first place of a that is not taken and has c. -/
def firstAt (a : List (List Idn)) (ps : List Nat) (c : List Idn) : Option Nat := (List.range a.length).find? fun k => !decide (k ∈ ps) && decide (nthL a k = c)
theorem first_is {a : List (List Idn)} {ps : List Nat} {c : List Idn} {k : Nat} (hk : k < a.length) (h1 : k ∉ ps) (h2 : nthL a k = c) (h3 : ∀ j, j < k → j ∈ ps ∨ nthL a j ≠ c) : firstAt a ps c = some k := by
  unfold firstAt
  rw [List.find?_range_eq_some]
  refine ⟨by rw [decide_eq_false h1, decide_eq_true h2]; rfl, List.mem_range.2 hk, fun j hj => ?_⟩
  rcases h3 j hj with h | h
  · rw [decide_eq_true h]; rfl
  · rw [decide_eq_false h, Bool.and_false]; rfl
theorem first_no {a : List (List Idn)} {ps : List Nat} {c : List Idn} (h : ∀ j, j < a.length → j ∈ ps ∨ nthL a j ≠ c) : firstAt a ps c = none := by
  unfold firstAt
  rw [List.find?_eq_none]
  intro j hj
  rcases h j (List.mem_range.1 hj) with h | h
  · rw [decide_eq_true h]; exact Bool.false_ne_true
  · rw [decide_eq_false h, Bool.and_false]; exact Bool.false_ne_true
def placesN (a : List (List Idn)) : List (List Idn) → List Nat → Option (List Nat)
  | [], ps => some ps
  | c :: cs, ps => match firstAt a ps c with
    | some k => placesN a cs (ps ++ [k])
    | none => none
theorem places_yes {a b : List (List Idn)} {ps : List Nat} {i k : Nat} (hi : i < b.length) (h : firstAt a ps (nthL b i) = some k) : placesN a (b.drop i) ps = placesN a (b.drop (i + 1)) (ps ++ [k]) := by
  have e : b.drop i = nthL b i :: b.drop (i + 1) := by rw [List.drop_eq_getElem_cons hi]; unfold nthL; rw [List.getD_eq_getElem?_getD, List.getElem?_eq_getElem hi]; rfl
  rw [e, placesN, h]
theorem places_no {a b : List (List Idn)} {ps : List Nat} {i : Nat} (hi : i < b.length) (h : firstAt a ps (nthL b i) = none) : placesN a (b.drop i) ps = none := by
  have e : b.drop i = nthL b i :: b.drop (i + 1) := by rw [List.drop_eq_getElem_cons hi]; unfold nthL; rw [List.getD_eq_getElem?_getD, List.getElem?_eq_getElem hi]; rfl
  rw [e, placesN, h]
/-- Where the lists of b stand in a. -/
def placesG (a b : List (List Idn)) : Option (List Nat) := if a.length = b.length then placesN a b [] else none
abbrev nthN (ps : List Nat) (k : Nat) : Nat := ps.getD k 0
theorem places_by {a : List (List Idn)} : ∀ (cs : List (List Idn)) (qs ps : List Nat), qs.length = cs.length → (∀ j, j < cs.length → firstAt a (ps ++ qs.take j) (nthL cs j) = some (nthN qs j)) → placesN a cs ps = some (ps ++ qs)
  | [], [], ps, _, _ => by rw [placesN, List.append_nil]
  | [], _ :: _, _, h, _ => by cases h
  | _ :: _, [], _, h, _ => by cases h
  | c :: cs, q :: qs, ps, h, H => by
    have h0 : firstAt a ps c = some q := by
      have := H 0 (Nat.succ_pos _)
      rw [List.take_zero, List.append_nil] at this
      exact this
    rw [placesN, h0]
    show placesN a cs (ps ++ [q]) = _
    rw [places_by cs qs (ps ++ [q]) (Nat.succ.inj h) (fun j hj => by
      have := H (j + 1) (Nat.succ_lt_succ hj)
      rw [List.take_succ_cons] at this
      rw [List.append_assoc]
      exact this), List.append_assoc]
    rfl
theorem places_len {a : List (List Idn)} : ∀ (cs : List (List Idn)) (ps qs : List Nat), placesN a cs ps = some qs → qs.length = ps.length + cs.length
  | [], ps, qs, h => by rw [placesN] at h; injection h with h; rw [h]; rfl
  | c :: cs, ps, qs, h => by
    rw [placesN] at h
    cases e : firstAt a ps c with
    | none => rw [e] at h; cases h
    | some k =>
      rw [e] at h
      have := places_len cs _ _ h
      rw [List.length_append, List.length_singleton] at this
      rw [this, List.length_cons]; omega

/-! ### The same but for swaps; how many swaps -/
def SameP (rs : List Rcd) (b : List (List Idn)) (ps : List Nat) : Prop := ∀ i k, i < k → k < ps.length → nthN ps k < nthN ps i → confG rs (nthL b i) (nthL b k) = false
open Classical in
noncomputable def sameG (rs : List Rcd) (a b : List (List Idn)) : Bool := match placesG a b with
  | some ps => decide (SameP rs b ps)
  | none => false
open Classical in
theorem same_yes {rs : List Rcd} {a b : List (List Idn)} {ps : List Nat} (h : placesG a b = some ps) (h' : SameP rs b ps) : sameG rs a b = true := by unfold sameG; rw [h]; exact decide_eq_true h'
open Classical in
theorem same_bad {rs : List Rcd} {a b : List (List Idn)} {ps : List Nat} (h : placesG a b = some ps) (h' : ¬ SameP rs b ps) : sameG rs a b = false := by unfold sameG; rw [h]; exact decide_eq_false h'
theorem same_none {rs : List Rcd} {a b : List (List Idn)} (h : placesG a b = none) : sameG rs a b = false := by unfold sameG; rw [h]
/-- How many of the first k stand behind the i-th one, and ahead of it in the other order. -/
def invTo (ps : List Nat) (i : Nat) : Nat → Nat
  | 0 => 0
  | k + 1 => invTo ps i k + if i < k ∧ nthN ps k < nthN ps i then 1 else 0
theorem invTo_zero (ps : List Nat) (i : Nat) : ∀ k, k ≤ i + 1 → invTo ps i k = 0
  | 0, _ => rfl
  | k + 1, h => by rw [invTo, invTo_zero ps i k (by omega), if_neg (by omega)]
def inv (ps : List Nat) : Nat → Nat
  | 0 => 0
  | i + 1 => inv ps i + invTo ps i ps.length
theorem invTo_le (ps : List Nat) (i : Nat) : ∀ k, invTo ps i k ≤ k
  | 0 => Nat.le_refl _
  | k + 1 => by rw [invTo]; have := invTo_le ps i k; split <;> omega
theorem inv_le (ps : List Nat) : ∀ i, inv ps i ≤ i * ps.length
  | 0 => Nat.zero_le _
  | i + 1 => by rw [inv, Nat.succ_mul]; exact Nat.add_le_add (inv_le ps i) (invTo_le ps i _)
/-- The fewest swaps; -1: they are not the same lists. -/
def stepsG (a b : List (List Idn)) : Int := match placesG a b with
  | some ps => inv ps ps.length
  | none => -1
theorem steps_some {a b : List (List Idn)} {ps : List Nat} (h : placesG a b = some ps) : stepsG a b = inv ps ps.length := by unfold stepsG; rw [h]
theorem steps_none {a b : List (List Idn)} (h : placesG a b = none) : stepsG a b = -1 := by unfold stepsG; rw [h]

/-! ### Itself, and what a swap makes of it -/
theorem nthN_range {n j : Nat} (h : j < n) : nthN (List.range n) j = j := by unfold nthN; rw [List.getD_eq_getElem?_getD, List.getElem?_range h]; rfl
theorem places_self (a : List (List Idn)) : placesG a a = some (List.range a.length) := by
  unfold placesG
  rw [if_pos rfl, places_by a (List.range a.length) [] List.length_range, List.nil_append]
  intro j hj
  rw [List.nil_append, nthN_range hj, List.take_range, Nat.min_eq_left (Nat.le_of_lt hj)]
  exact first_is hj (by rw [List.mem_range]; omega) rfl fun i hi => .inl (List.mem_range.2 hi)
theorem same_self (rs : List Rcd) (a : List (List Idn)) : sameG rs a a = true := same_yes (places_self a) fun i k h1 h2 h3 => by
  rw [List.length_range] at h2
  rw [nthN_range h2, nthN_range (by omega)] at h3
  omega
def sw (i j : Nat) : Nat := if j = i then i + 1 else if j = i + 1 then i else j
theorem sw_sw (i j : Nat) : sw i (sw i j) = j := by unfold sw; (repeat' split) <;> omega
theorem sw_lt {i j n : Nat} (h : i + 1 < n) (hj : j < n) : sw i j < n := by unfold sw; (repeat' split) <;> omega
/-- The order with the lists at i and i + 1 swapped. -/
def swapG (a : List (List Idn)) (i : Nat) : List (List Idn) := (a.set i (nthL a (i + 1))).set (i + 1) (nthL a i)
theorem swap_len (a : List (List Idn)) (i : Nat) : (swapG a i).length = a.length := by unfold swapG; rw [List.length_set, List.length_set]
theorem swap_at {a : List (List Idn)} {i : Nat} (h : i + 1 < a.length) (j : Nat) : nthL (swapG a i) j = nthL a (sw i j) := by
  unfold swapG sw nthL
  simp only [List.getD_eq_getElem?_getD, List.getElem?_set, List.length_set]
  by_cases e : j = i
  · subst e
    rw [if_neg (by omega), if_pos rfl, if_pos (by omega), if_pos rfl]
    rfl
  · by_cases e' : j = i + 1
    · subst e'
      rw [if_pos rfl, if_pos (by omega), if_neg (by omega), if_pos rfl]
      rfl
    · rw [if_neg (Ne.symm e'), if_neg (Ne.symm e), if_neg e, if_neg e']
theorem swap_same {a : List (List Idn)} {i : Nat} (h : i + 1 < a.length) (e : nthL a i = nthL a (i + 1)) : swapG a i = a := ll_ext (swap_len a i) fun j hj => by
  show nthL (swapG a i) j = nthL a j
  rw [swap_at h]
  unfold sw
  split
  · rename_i h'; rw [h', e]
  · split
    · rename_i h'; rw [h', e]
    · rfl
theorem swap_swap {a : List (List Idn)} {i : Nat} (h : i + 1 < a.length) : swapG (swapG a i) i = a := ll_ext (by rw [swap_len, swap_len]) fun j hj => by
  show nthL (swapG (swapG a i) i) j = nthL a j
  rw [swap_at (by rw [swap_len]; exact h), swap_at h, sw_sw]
def qsw (n i : Nat) : List Nat := (List.range n).map (sw i)
theorem qsw_at {n i j : Nat} (hj : j < n) : nthN (qsw n i) j = sw i j := by unfold nthN qsw; rw [List.getD_eq_getElem?_getD, List.getElem?_map, List.getElem?_range hj]; rfl
theorem qsw_take {n i j : Nat} (hj : j ≤ n) {x : Nat} : x ∈ (qsw n i).take j ↔ sw i x < j := by
  unfold qsw
  rw [← List.map_take, List.take_range, Nat.min_eq_left hj, List.mem_map]
  constructor
  · rintro ⟨y, hy, rfl⟩; rw [sw_sw]; exact List.mem_range.1 hy
  · intro h; exact ⟨sw i x, List.mem_range.2 h, sw_sw i x⟩
theorem places_swap {a : List (List Idn)} {i : Nat} (h : i + 1 < a.length) (e : nthL a i ≠ nthL a (i + 1)) : placesG a (swapG a i) = some (qsw a.length i) := by
  unfold placesG
  rw [if_pos (swap_len a i).symm, places_by (swapG a i) (qsw a.length i) [] (by rw [swap_len]; unfold qsw; rw [List.length_map, List.length_range]), List.nil_append]
  intro j hj
  rw [swap_len] at hj
  rw [List.nil_append, qsw_at hj, swap_at h]
  refine first_is (sw_lt h hj) (by rw [qsw_take (Nat.le_of_lt hj), sw_sw]; omega) rfl fun k hk => ?_
  rw [qsw_take (Nat.le_of_lt hj)]
  by_cases hc : j = i ∧ k = i
  · obtain ⟨rfl, rfl⟩ := hc
    right
    rw [show sw k k = k + 1 from if_pos rfl]
    exact e
  · left
    revert hk
    unfold sw
    (repeat' split) <;> omega
theorem same_swap {rs : List Rcd} {a : List (List Idn)} {i : Nat} (h : i + 1 < a.length) (hc : confG rs (nthL a i) (nthL a (i + 1)) = false) : sameG rs a (swapG a i) = true := by
  by_cases e : nthL a i = nthL a (i + 1)
  · rw [swap_same h e]; exact same_self rs a
  · refine same_yes (places_swap h e) fun j k h1 h2 h3 => ?_
    have hl : (qsw a.length i).length = a.length := by unfold qsw; rw [List.length_map, List.length_range]
    rw [hl] at h2
    rw [qsw_at h2, qsw_at (by omega)] at h3
    have hj : j = i ∧ k = i + 1 := by
      revert h3
      unfold sw
      (repeat' split) <;> omega
    obtain ⟨rfl, rfl⟩ := hj
    rw [swap_at h, swap_at h, show sw j j = j + 1 from if_pos rfl, show sw j (j + 1) = j by unfold sw; rw [if_neg (by omega), if_pos rfl], confG_comm]
    exact hc
theorem same_swap' {rs : List Rcd} {a : List (List Idn)} {i : Nat} (h : i + 1 < a.length) (hc : confG rs (nthL a i) (nthL a (i + 1)) = false) : sameG rs (swapG a i) a = true := by
  have := same_swap (rs := rs) (a := swapG a i) (i := i) (by rw [swap_len]; exact h) (by
    rw [swap_at h, swap_at h, show sw i i = i + 1 from if_pos rfl, show sw i (i + 1) = i by unfold sw; rw [if_neg (by omega), if_pos rfl], confG_comm]
    exact hc)
  rw [swap_swap h] at this
  exact this
end Go.Proofs.YtlkndpofegemdaaGreat.Tra
