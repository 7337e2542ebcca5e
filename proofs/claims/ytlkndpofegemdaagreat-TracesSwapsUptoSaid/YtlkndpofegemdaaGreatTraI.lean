/- Orders that are the same but for swaps (layer 19, traces), plain: told either way round; lists that bear numbers; places that are still open; the keys that lists of ids have, and whether they are written. No condition but those in each statement. -/
import Derived.Test.YtlkndpofegemdaaGreatTraA
import Derived.Test.YtlkndpofegemdaaGreatMapG
import Derived.Test.YtlkndpofegemdaaGreatBatG
import Derived.Test.YtlkndpofegemdaaGreatBatF
import Derived.Test.YtlkndpofegemdaaGreatApp
namespace Go.Proofs.YtlkndpofegemdaaGreat.Tra
open Go.RowKit Cmd Bat Ids Rec Wid Gra Rea Cps
set_option linter.unusedVariables false
set_option linter.unusedSimpArgs false

/-! ### Either way round -/
theorem first_some {a : List (List Idn)} {ps : List Nat} {c : List Idn} {k : Nat} (h : firstAt a ps c = some k) : k < a.length ∧ k ∉ ps ∧ nthL a k = c ∧ ∀ j, j < k → j ∈ ps ∨ nthL a j ≠ c := by
  unfold firstAt at h
  rw [List.find?_range_eq_some] at h
  obtain ⟨h1, h2, h3⟩ := h
  rw [Bool.and_eq_true, Bool.not_eq_true', decide_eq_false_iff_not, decide_eq_true_iff] at h1
  refine ⟨List.mem_range.1 h2, h1.1, h1.2, fun j hj => ?_⟩
  have := h3 j hj
  rw [Bool.not_eq_true', Bool.and_eq_false_iff, Bool.not_eq_false', decide_eq_true_iff, decide_eq_false_iff_not] at this
  exact this
theorem nthN_get {p : List Nat} {i : Nat} (h : i < p.length) : nthN p i = p[i] := by unfold nthN; rw [List.getD_eq_getElem?_getD, List.getElem?_eq_getElem h]; rfl
theorem mem_takeN {p : List Nat} {i x : Nat} (hi : i ≤ p.length) : x ∈ p.take i ↔ ∃ k, k < i ∧ nthN p k = x := by
  rw [List.mem_take_iff_getElem]
  constructor
  · rintro ⟨k, hk, e⟩
    exact ⟨k, by omega, by rw [nthN_get (by omega)]; exact e⟩
  · rintro ⟨k, hk, e⟩
    exact ⟨k, by omega, by rw [nthN_get (by omega)] at e; exact e⟩
/-- p tells of each list of b where it stands in a: alike ones in their order. -/
structure Pl (a b : List (List Idn)) (p : List Nat) : Prop where
  len : p.length = b.length
  lt : ∀ i, i < b.length → nthN p i < a.length
  inj : ∀ i k, i < b.length → k < b.length → nthN p i = nthN p k → i = k
  at_ : ∀ i, i < b.length → nthL a (nthN p i) = nthL b i
  first : ∀ i j, i < b.length → j < nthN p i → nthL a j = nthL b i → ∃ k, k < i ∧ nthN p k = j
theorem placesN_spec {a : List (List Idn)} : ∀ (cs : List (List Idn)) (ps r : List Nat), placesN a cs ps = some r → ∃ qs, r = ps ++ qs ∧ qs.length = cs.length ∧ ∀ j, j < cs.length → firstAt a (ps ++ qs.take j) (nthL cs j) = some (nthN qs j)
  | [], ps, r, h => by rw [placesN] at h; injection h with h; exact ⟨[], by rw [List.append_nil, h], rfl, fun j hj => by cases hj⟩
  | c :: cs, ps, r, h => by
    rw [placesN] at h
    cases e : firstAt a ps c with
    | none => rw [e] at h; cases h
    | some k =>
      rw [e] at h
      obtain ⟨qs, rfl, hl, H⟩ := placesN_spec cs _ _ h
      refine ⟨k :: qs, by rw [List.append_assoc]; rfl, by rw [List.length_cons, List.length_cons, hl], fun j hj => ?_⟩
      cases j with
      | zero => rw [List.take_zero, List.append_nil]; exact e
      | succ j =>
        have := H j (by rw [List.length_cons] at hj; omega)
        rw [List.append_assoc] at this
        rw [List.take_succ_cons]
        exact this
theorem places_pl {a b : List (List Idn)} {p : List Nat} (h : placesG a b = some p) : a.length = b.length ∧ Pl a b p := by
  unfold placesG at h
  split at h
  · rename_i hl
    obtain ⟨qs, e, hq, H⟩ := placesN_spec _ _ _ h
    rw [List.nil_append] at e
    rw [← e] at hq H
    have key : ∀ j, j < b.length → nthN p j < a.length ∧ (∀ k, k < j → nthN p k ≠ nthN p j) ∧ nthL a (nthN p j) = nthL b j ∧ ∀ i, i < nthN p j → nthL a i = nthL b j → ∃ k, k < j ∧ nthN p k = i := fun j hj => by
      have h0 := H j hj
      rw [List.nil_append] at h0
      obtain ⟨h1, h2, h3, h4⟩ := first_some h0
      have hm : ∀ x, x ∈ p.take j ↔ ∃ k, k < j ∧ nthN p k = x := fun x => mem_takeN (by omega)
      refine ⟨h1, fun k hk e => h2 ((hm _).2 ⟨k, hk, e⟩), h3, fun i hi e => ?_⟩
      exact (hm _).1 ((h4 i hi).resolve_right (fun hn => hn e))
    refine ⟨hl, hq, fun i hi => (key i hi).1, fun i k hi hk e => ?_, fun i hi => (key i hi).2.2.1, fun i j hi hj e => (key i hi).2.2.2 j hj e⟩
    rcases Nat.lt_trichotomy i k with h1 | h1 | h1
    · exact absurd e ((key k hk).2.1 i h1)
    · exact h1
    · exact absurd e.symm ((key i hi).2.1 k h1)
  · cases h
theorem pl_places {a b : List (List Idn)} {p : List Nat} (hl : a.length = b.length) (h : Pl a b p) : placesG a b = some p := by
  unfold placesG
  rw [if_pos hl, places_by b p [] h.len, List.nil_append]
  intro j hj
  rw [List.nil_append]
  have hm : ∀ x, x ∈ p.take j ↔ ∃ k, k < j ∧ nthN p k = x := fun x => mem_takeN (by have := h.len; omega)
  refine first_is (h.lt j hj) (fun hx => ?_) (h.at_ j hj) fun i hi => ?_
  · obtain ⟨k, hk, e⟩ := (hm _).1 hx
    have := h.inj k j (by omega) hj e
    omega
  · by_cases e : nthL a i = nthL b j
    · exact .inl ((hm _).2 (h.first j i hj hi e))
    · exact .inr e
theorem pl_nodup {a b : List (List Idn)} {p : List Nat} (h : Pl a b p) : p.Nodup := by
  refine List.pairwise_iff_getElem.2 fun i k hi hk hik e => ?_
  rw [← nthN_get hi, ← nthN_get hk] at e
  have := h.len
  have := h.inj i k (by omega) (by omega) e
  omega
theorem pl_on {a b : List (List Idn)} {p : List Nat} (hl : a.length = b.length) (h : Pl a b p) {j : Nat} (hj : j < a.length) : ∃ i, i < b.length ∧ nthN p i = j := by
  have hm : j ∈ p := Mpg.nodup_all (b := List.range a.length) (pl_nodup h) (fun x hx => by
    obtain ⟨k, hk, e⟩ := List.getElem_of_mem hx
    rw [List.mem_range, ← e, ← nthN_get hk]
    exact h.lt k (by rw [← h.len]; exact hk)) (by rw [List.length_range, h.len, hl]; exact Nat.le_refl _) (List.mem_range.2 hj)
  obtain ⟨k, hk, e⟩ := List.getElem_of_mem hm
  exact ⟨k, by rw [← h.len]; exact hk, by rw [nthN_get hk]; exact e⟩
/-- The other way round. -/
structure Back (n : Nat) (p q : List Nat) : Prop where
  lp : p.length = n
  lq : q.length = n
  pl : ∀ i, i < n → nthN p i < n
  ql : ∀ i, i < n → nthN q i < n
  qp : ∀ i, i < n → nthN q (nthN p i) = i
  pq : ∀ i, i < n → nthN p (nthN q i) = i
theorem Back.symm {n : Nat} {p q : List Nat} (h : Back n p q) : Back n q p := ⟨h.lq, h.lp, h.ql, h.pl, h.pq, h.qp⟩
open Classical in
theorem places_back {a b : List (List Idn)} {p : List Nat} (h0 : placesG a b = some p) : ∃ q, placesG b a = some q ∧ Back a.length p q := by
  obtain ⟨hl, h⟩ := places_pl h0
  obtain ⟨f, hf⟩ : ∃ f : Nat → Nat, ∀ j, j < a.length → f j < b.length ∧ nthN p (f j) = j := ⟨fun j => if hj : j < a.length then Classical.choose (pl_on hl h hj) else 0, fun j hj => by
    simp only [dif_pos hj]
    exact Classical.choose_spec (pl_on hl h hj)⟩
  have hq : ∀ j, j < a.length → nthN ((List.range a.length).map f) j = f j := fun j hj => by unfold nthN; rw [List.getD_eq_getElem?_getD, List.getElem?_map, List.getElem?_range hj]; rfl
  have hpq : ∀ i, i < b.length → f (nthN p i) = i := fun i hi => h.inj _ _ (hf _ (h.lt i hi)).1 hi (hf _ (h.lt i hi)).2
  refine ⟨(List.range a.length).map f, pl_places hl.symm ⟨by rw [List.length_map, List.length_range], fun i hi => by rw [hq i hi]; exact (hf i hi).1, fun i k hi hk e => ?_, fun i hi => ?_, fun i j hi hj e => ?_⟩, ⟨by rw [h.len, hl], by rw [List.length_map, List.length_range], fun i hi => h.lt i (by omega), fun i hi => by rw [hq i hi]; have := (hf i hi).1; omega, fun i hi => ?_, fun i hi => ?_⟩⟩
  · rw [hq i hi, hq k hk] at e
    rw [← (hf i hi).2, ← (hf k hk).2, e]
  · rw [hq i hi, ← h.at_ _ (hf i hi).1, (hf i hi).2]
  · rw [hq i hi] at hj
    have hjb : j < b.length := by have := (hf i hi).1; omega
    refine ⟨nthN p j, ?_, by rw [hq _ (h.lt j hjb)]; exact hpq j hjb⟩
    rcases Nat.lt_trichotomy (nthN p j) i with h1 | h1 | h1
    · exact h1
    · exfalso
      rw [← (hf i hi).2] at h1
      have := h.inj _ _ hjb (hf i hi).1 h1
      omega
    · exfalso
      obtain ⟨k, hk, e2⟩ := h.first j i hjb h1 e.symm
      have := h.inj k (f i) (by omega) (hf i hi).1 (by rw [e2, (hf i hi).2])
      omega
  · rw [hq _ (h.lt i (by omega))]; exact hpq i (by omega)
  · rw [hq i hi]; exact (hf i hi).2
theorem sameP_back {rs : List Rcd} {a b : List (List Idn)} {p q : List Nat} (H : Pl a b p) (B : Back b.length p q) (h : SameP rs b p) : SameP rs a q := fun i k h1 h2 h3 => by
  rw [B.lq] at h2
  have hi : i < b.length := by omega
  have := h (nthN q k) (nthN q i) h3 (by rw [B.lp]; exact B.ql i hi) (by rw [B.pq i hi, B.pq k h2]; exact h1)
  rw [← H.at_ _ (B.ql k h2), ← H.at_ _ (B.ql i hi), B.pq k h2, B.pq i hi, confG_comm] at this
  exact this
theorem same_sym (rs : List Rcd) (a b : List (List Idn)) : sameG rs a b = sameG rs b a := by
  cases h : placesG a b with
  | none =>
    cases h' : placesG b a with
    | none => rw [same_none h, same_none h']
    | some q => obtain ⟨p, hp, -⟩ := places_back h'; rw [h] at hp; cases hp
  | some p =>
    obtain ⟨q, hq, B⟩ := places_back h
    obtain ⟨hl, H⟩ := places_pl h
    obtain ⟨-, H'⟩ := places_pl hq
    by_cases hs : SameP rs b p
    · rw [same_yes h hs, same_yes hq (sameP_back H (hl ▸ B) hs)]
    · rw [same_bad h hs, same_bad hq (fun k => hs (sameP_back H' B.symm k))]
/-! ### As many turned pairs either way round -/
def sumTo (f : Nat → Nat) : Nat → Nat
  | 0 => 0
  | n + 1 => sumTo f n + f n
theorem sum_ext {f g : Nat → Nat} : ∀ {n : Nat}, (∀ i, i < n → f i = g i) → sumTo f n = sumTo g n
  | 0, _ => rfl
  | n + 1, h => by rw [sumTo, sumTo, sum_ext (fun i hi => h i (by omega)), h n (by omega)]
theorem sum_zero : ∀ n, sumTo (fun _ => 0) n = 0
  | 0 => rfl
  | n + 1 => by rw [sumTo, sum_zero n]
theorem sum_add (f g : Nat → Nat) : ∀ n, sumTo (fun i => f i + g i) n = sumTo f n + sumTo g n
  | 0 => rfl
  | n + 1 => by rw [sumTo, sumTo, sumTo, sum_add f g n]; omega
theorem sum_swap (g : Nat → Nat → Nat) (m : Nat) : ∀ n, sumTo (fun i => sumTo (fun k => g i k) m) n = sumTo (fun k => sumTo (fun i => g i k) n) m
  | 0 => (sum_zero m).symm
  | n + 1 => by rw [sumTo, sum_swap g m n, ← sum_add]; rfl
theorem sum_list (f : Nat → Nat) : ∀ n, sumTo f n = ((List.range n).map f).sum
  | 0 => rfl
  | n + 1 => by rw [sumTo, sum_list f n, List.range_succ, List.map_append, List.sum_append]; simp
theorem perm_sum : ∀ {a b : List Nat}, a.Perm b → a.sum = b.sum := fun h => by
  induction h with
  | nil => rfl
  | cons x _ ih => rw [List.sum_cons, List.sum_cons, ih]
  | swap x y l => simp only [List.sum_cons]; omega
  | trans _ _ h1 h2 => exact h1.trans h2
theorem sum_by {n : Nat} {p q : List Nat} (B : Back n p q) (f : Nat → Nat) : sumTo f n = sumTo (fun i => f (nthN p i)) n := by
  rw [sum_list, sum_list]
  have e : (List.range n).map (fun i => f (nthN p i)) = ((List.range n).map (nthN p)).map f := by rw [List.map_map]; rfl
  rw [e]
  refine perm_sum (List.Perm.map f (((List.perm_ext_iff_of_nodup List.nodup_range ?_).2 fun x => ?_)))
  · refine List.pairwise_iff_getElem.2 fun i k hi hk hik e => ?_
    rw [List.length_map, List.length_range] at hk
    rw [List.getElem_map, List.getElem_map, List.getElem_range, List.getElem_range] at e
    have h1 := B.qp i (by omega)
    rw [e, B.qp k hk] at h1
    omega
  · rw [List.mem_map, List.mem_range]
    constructor
    · intro hx; exact ⟨nthN q x, List.mem_range.2 (B.ql x hx), B.pq x hx⟩
    · rintro ⟨i, hi, rfl⟩; exact B.pl i (List.mem_range.1 hi)
theorem invTo_sum (p : List Nat) (i : Nat) : ∀ k, invTo p i k = sumTo (fun k => if i < k ∧ nthN p k < nthN p i then 1 else 0) k
  | 0 => rfl
  | k + 1 => by rw [invTo, sumTo, invTo_sum p i k]
theorem inv_sum (p : List Nat) : ∀ n, inv p n = sumTo (fun i => sumTo (fun k => if i < k ∧ nthN p k < nthN p i then 1 else 0) p.length) n
  | 0 => rfl
  | n + 1 => by rw [inv, sumTo, inv_sum p n, invTo_sum]
theorem inv_back {n : Nat} {p q : List Nat} (B : Back n p q) : inv p p.length = inv q q.length := by
  rw [inv_sum, inv_sum, B.lp, B.lq, sum_swap]
  rw [sum_by B (fun i => sumTo (fun k => if i < k ∧ nthN q k < nthN q i then 1 else 0) n)]
  refine sum_ext fun i hi => ?_
  rw [sum_by B (fun k => if nthN p i < k ∧ nthN q k < nthN q (nthN p i) then 1 else 0)]
  refine sum_ext fun k hk => ?_
  rw [B.qp i hi, B.qp k hk]
  by_cases h : k < i ∧ nthN p i < nthN p k
  · rw [if_pos h, if_pos ⟨h.2, h.1⟩]
  · rw [if_neg h, if_neg (fun k => h ⟨k.2, k.1⟩)]
theorem steps_sym (a b : List (List Idn)) : stepsG a b = stepsG b a := by
  cases h : placesG a b with
  | none =>
    cases h' : placesG b a with
    | none => rw [steps_none h, steps_none h']
    | some q => obtain ⟨p, hp, -⟩ := places_back h'; rw [h] at hp; cases hp
  | some p =>
    obtain ⟨q, hq, B⟩ := places_back h
    rw [steps_some h, steps_some hq, inv_back B]

/-! ### Lists that bear numbers -/
/-- Who leads to whom, by what; number 0 is the list without an element. -/
def words (T : List (Nat × Idn)) : List (List Idn) := T.foldl (fun ws e => ws ++ [ws.getD e.1 [] ++ [e.2]]) [[]]
theorem words_snoc (T : List (Nat × Idn)) (e : Nat × Idn) : words (T ++ [e]) = words T ++ [(words T).getD e.1 [] ++ [e.2]] := by unfold words; rw [List.foldl_append]; rfl
theorem words_len : ∀ (T : List (Nat × Idn)), (words T).length = T.length + 1 := fun T => by
  have key : ∀ (T : List (Nat × Idn)) (ws : List (List Idn)), (T.foldl (fun ws e => ws ++ [ws.getD e.1 [] ++ [e.2]]) ws).length = ws.length + T.length := by
    intro T
    induction T with
    | nil => intro ws; rfl
    | cons e T ih => intro ws; rw [List.foldl_cons, ih, List.length_append, List.length_singleton, List.length_cons]; omega
  unfold words
  rw [key]; simp; omega
/-- The list of a number. -/
def wd (T : List (Nat × Idn)) (n : Nat) : List Idn := (words T).getD n []
theorem wd_zero : ∀ T, wd T 0 = [] := fun T => by
  have key : ∀ (T : List (Nat × Idn)) (ws : List (List Idn)), ws.getD 0 [] = [] → 0 < ws.length → (T.foldl (fun ws e => ws ++ [ws.getD e.1 [] ++ [e.2]]) ws).getD 0 [] = [] := by
    intro T
    induction T with
    | nil => intro ws h _; exact h
    | cons e T ih =>
      intro ws h hl
      rw [List.foldl_cons]
      refine ih _ ?_ (by simp)
      rw [List.getD_eq_getElem?_getD, List.getElem?_append_left hl, ← List.getD_eq_getElem?_getD]; exact h
  exact key T _ rfl (by simp)
theorem wd_old (T : List (Nat × Idn)) (e : Nat × Idn) {n : Nat} (h : n ≤ T.length) : wd (T ++ [e]) n = wd T n := by
  unfold wd
  rw [words_snoc, List.getD_eq_getElem?_getD, List.getElem?_append_left (by rw [words_len]; omega), ← List.getD_eq_getElem?_getD]
theorem wd_new (T : List (Nat × Idn)) (e : Nat × Idn) : wd (T ++ [e]) (T.length + 1) = wd T e.1 ++ [e.2] := by
  unfold wd
  rw [words_snoc, List.getD_eq_getElem?_getD, List.getElem?_append_right (by rw [words_len]; omega), words_len, Nat.sub_self]; rfl
/-- Each number has a list of its own. -/
structure Num (T : List (Nat × Idn)) : Prop where
  nodup : T.Nodup
  inj : ∀ m n, m ≤ T.length → n ≤ T.length → wd T m = wd T n → m = n
  succ : ∀ k e, T[k]? = some e → e.1 ≤ k ∧ wd T (k + 1) = wd T e.1 ++ [e.2]
theorem Num.nil : Num [] := ⟨.nil, fun m n h1 h2 _ => by simp at h1 h2; omega, fun k e h => by cases h⟩
theorem Num.snoc {T : List (Nat × Idn)} (h : Num T) (e : Nat × Idn) (h1 : e.1 ≤ T.length) (h2 : e ∉ T) : Num (T ++ [e]) := by
  have hl : (T ++ [e]).length = T.length + 1 := by simp
  have key : ∀ m, m ≤ T.length → wd T m ≠ wd T e.1 ++ [e.2] := fun m hm hw => by
    cases m with
    | zero => rw [wd_zero] at hw; simp at hw
    | succ m =>
      have hm' : m < T.length := by omega
      obtain ⟨h3, h4⟩ := h.succ m _ (List.getElem?_eq_getElem hm')
      rw [h4] at hw
      obtain ⟨e1, e2⟩ := List.append_inj' hw rfl
      have e3 := h.inj _ _ (by omega) h1 e1
      injection e2 with e2
      refine h2 ?_
      have : T[m] = e := Prod.ext e3 e2
      rw [← this]; exact List.getElem_mem hm'
  refine ⟨?_, fun m n hm hn hw => ?_, fun k x hk => ?_⟩
  · rw [List.nodup_append]
    exact ⟨h.nodup, by simp, fun x hx y hy e' => h2 (by rw [← List.mem_singleton.1 hy, ← e']; exact hx)⟩
  · rw [hl] at hm hn
    by_cases h3 : m = T.length + 1
    · by_cases h4 : n = T.length + 1
      · omega
      · rw [h3, wd_new, wd_old T e (by omega)] at hw
        exact absurd hw.symm (key n (by omega))
    · by_cases h4 : n = T.length + 1
      · rw [h4, wd_new, wd_old T e (by omega)] at hw
        exact absurd hw (key m (by omega))
      · rw [wd_old T e (by omega), wd_old T e (by omega)] at hw
        exact h.inj m n (by omega) (by omega) hw
  · by_cases h3 : k < T.length
    · rw [List.getElem?_append_left h3] at hk
      obtain ⟨h4, h5⟩ := h.succ k x hk
      refine ⟨h4, ?_⟩
      rw [wd_old T e (by omega), wd_old T e (by omega)]; exact h5
    · rw [List.getElem?_append_right (by omega)] at hk
      have h4 : k - T.length = 0 := by
        have := (List.getElem?_eq_some_iff.1 hk).1
        simp at this; omega
      rw [h4] at hk
      injection hk with hk
      subst hk
      have h5 : k = T.length := by omega
      subst h5
      refine ⟨h1, ?_⟩
      rw [wd_new, wd_old T e h1]
/-- T has grown into T'. -/
def Ext (T T' : List (Nat × Idn)) : Prop := ∃ S, T' = T ++ S
theorem Ext.refl (T : List (Nat × Idn)) : Ext T T := ⟨[], by simp⟩
theorem Ext.trans {A B C : List (Nat × Idn)} (h : Ext A B) (g : Ext B C) : Ext A C := by
  obtain ⟨S, rfl⟩ := h; obtain ⟨R, rfl⟩ := g; exact ⟨S ++ R, by rw [List.append_assoc]⟩
theorem Ext.le {A B : List (Nat × Idn)} (h : Ext A B) : A.length ≤ B.length := by obtain ⟨S, rfl⟩ := h; simp
theorem Ext.wd {A B : List (Nat × Idn)} (h : Ext A B) : ∀ {n : Nat}, n ≤ A.length → wd B n = wd A n := by
  obtain ⟨S, rfl⟩ := h
  have key : ∀ (S : List (Nat × Idn)) {A : List (Nat × Idn)} {n : Nat}, n ≤ A.length → Tra.wd (A ++ S) n = Tra.wd A n := by
    intro S
    induction S with
    | nil => intro A n _; rw [List.append_nil]
    | cons e S ih =>
      intro A n hn
      have : A ++ e :: S = (A ++ [e]) ++ S := by simp
      rw [this, ih (by simp; omega), wd_old A e hn]
  intro n hn
  exact key S hn

/-! ### Places that are still open -/
/-- Where c stands in b, but for the places ps. -/
def queue (b : List (List Idn)) (ps : List Nat) (c : List Idn) : List Nat := (List.range b.length).filter fun k => !decide (k ∈ ps) && decide (nthL b k = c)
/-- Where c stands among the first m of b. -/
def queTo (b : List (List Idn)) (m : Nat) (c : List Idn) : List Nat := (List.range m).filter fun k => decide (nthL b k = c)
theorem que_all (b : List (List Idn)) (c : List Idn) : queTo b b.length c = queue b [] c := by unfold queTo queue; congr 1
theorem que_yes {b : List (List Idn)} {m : Nat} : queTo b (m + 1) (nthL b m) = queTo b m (nthL b m) ++ [m] := by
  unfold queTo
  rw [List.range_succ, List.filter_append, List.filter_cons_of_pos (by simp), List.filter_nil]
theorem que_no {b : List (List Idn)} {m : Nat} {c : List Idn} (h : nthL b m ≠ c) : queTo b (m + 1) c = queTo b m c := by
  unfold queTo
  rw [List.range_succ, List.filter_append, List.filter_cons_of_neg (by show ¬ decide (nthL b m = c) = true; rw [decide_eq_false h]; exact Bool.false_ne_true), List.filter_nil, List.append_nil]
theorem que_len (b : List (List Idn)) (m : Nat) (c : List Idn) : (queTo b m c).length ≤ m := by
  unfold queTo
  have := List.length_filter_le (fun k => decide (nthL b k = c)) (List.range m)
  rw [List.length_range] at this
  exact this
theorem queue_len (b : List (List Idn)) (ps : List Nat) (c : List Idn) : (queue b ps c).length ≤ b.length := by
  unfold queue
  have := List.length_filter_le (fun k => !decide (k ∈ ps) && decide (nthL b k = c)) (List.range b.length)
  rw [List.length_range] at this
  exact this
theorem queue_head (b : List (List Idn)) (ps : List Nat) (c : List Idn) : firstAt b ps c = (queue b ps c).head? := by
  unfold firstAt queue
  rw [List.head?_filter]
theorem queue_mem {b : List (List Idn)} {ps : List Nat} {c : List Idn} {k : Nat} : k ∈ queue b ps c ↔ k < b.length ∧ k ∉ ps ∧ nthL b k = c := by
  unfold queue
  rw [List.mem_filter, List.mem_range, Bool.and_eq_true, Bool.not_eq_true', decide_eq_false_iff_not, decide_eq_true_iff]
theorem queue_nodup (b : List (List Idn)) (ps : List Nat) (c : List Idn) : (queue b ps c).Nodup := List.Pairwise.filter _ List.nodup_range
theorem queue_snoc (b : List (List Idn)) (ps : List Nat) (c : List Idn) (k : Nat) : queue b (ps ++ [k]) c = (queue b ps c).filter fun j => !decide (j = k) := by
  unfold queue
  rw [List.filter_filter]
  congr 1
  funext j
  by_cases h1 : j ∈ ps <;> by_cases h2 : j = k <;> simp [h1, h2]
theorem queue_tail {b : List (List Idn)} {ps : List Nat} {c : List Idn} {k : Nat} {r : List Nat} (h : queue b ps c = k :: r) : queue b (ps ++ [k]) c = r := by
  have hn := queue_nodup b ps c
  rw [h] at hn
  obtain ⟨h1, -⟩ := List.nodup_cons.1 hn
  rw [queue_snoc, h, List.filter_cons_of_neg (by simp), List.filter_eq_self]
  intro j hj
  rw [Bool.not_eq_true', decide_eq_false_iff_not]
  rintro rfl
  exact h1 hj
theorem queue_other {b : List (List Idn)} {ps : List Nat} {c d : List Idn} {k : Nat} (h : nthL b k = c) (hd : c ≠ d) : queue b (ps ++ [k]) d = queue b ps d := by
  rw [queue_snoc, List.filter_eq_self]
  intro j hj
  rw [Bool.not_eq_true', decide_eq_false_iff_not]
  rintro rfl
  exact hd (h.symm.trans (queue_mem.1 hj).2.2)

/-! ### The keys that lists of ids have, and whether they are written -/
def allC (rs : List Rcd) (l : List Idn) : List Cmdn := l.flatMap (csG rs)
def wrk (cs : List Cmdn) (k : Text) : Bool := cs.any fun c => decide (c.2.1 = k) && wrt c
def usesG (cs : List Cmdn) : List (Text × Bool) := (kset (keys cs)).map fun k => (k, wrk cs k)
/-- The one that goes over both lists of keys, in order. -/
def clashB : List (Text × Bool) → List (Text × Bool) → Bool
  | [], _ => false
  | _ :: _, [] => false
  | (k, b) :: xs, (k', b') :: ys => if k < k' then clashB xs ((k', b') :: ys) else if k' < k then clashB ((k, b) :: xs) ys else if (b || b') = true then true else clashB xs ys
  termination_by xs ys => xs.length + ys.length
theorem clash_nil (xs : List (Text × Bool)) : clashB xs [] = false := by cases xs <;> rw [clashB]
theorem clash_iff : ∀ (n : Nat) (xs ys : List (Text × Bool)), xs.length + ys.length ≤ n → (xs.map (·.1)).Pairwise (fun x y => x < y) → (ys.map (·.1)).Pairwise (fun x y => x < y) → (clashB xs ys = true ↔ ∃ k b b', (k, b) ∈ xs ∧ (k, b') ∈ ys ∧ (b || b') = true)
  | _, [], ys, _, _, _ => by rw [clashB]; exact ⟨fun h => (by cases h), fun ⟨k, b, b', h, _⟩ => (by cases h)⟩
  | _, _ :: _, [], _, _, _ => by rw [clashB]; exact ⟨fun h => (by cases h), fun ⟨k, b, b', _, h, _⟩ => (by cases h)⟩
  | 0, _ :: _, _ :: _, h, _, _ => by simp at h
  | n + 1, (k, b) :: xs, (k', b') :: ys, hl, hx, hy => by
    rw [List.map_cons, List.pairwise_cons] at hx hy
    rw [List.length_cons, List.length_cons] at hl
    have hx1 : ∀ t c, (t, c) ∈ xs → k < t := fun t c h => hx.1 t (List.mem_map.2 ⟨(t, c), h, rfl⟩)
    have hy1 : ∀ t c, (t, c) ∈ ys → k' < t := fun t c h => hy.1 t (List.mem_map.2 ⟨(t, c), h, rfl⟩)
    rw [clashB]
    by_cases h1 : k < k'
    · rw [if_pos h1, clash_iff n xs ((k', b') :: ys) (by rw [List.length_cons]; omega) hx.2 (by rw [List.map_cons, List.pairwise_cons]; exact hy)]
      constructor
      · rintro ⟨t, c, c', h2, h3, h4⟩; exact ⟨t, c, c', List.mem_cons_of_mem _ h2, h3, h4⟩
      · rintro ⟨t, c, c', h2, h3, h4⟩
        refine ⟨t, c, c', ?_, h3, h4⟩
        rcases List.mem_cons.1 h2 with e | e
        · exfalso
          injection e with e1 e2
          subst e1
          rcases List.mem_cons.1 h3 with e | e
          · injection e with e1 e2; rw [e1] at h1; exact tlt_irr _ h1
          · exact tlt_irr _ (tlt_tr h1 (hy1 _ _ e))
        · exact e
    · rw [if_neg h1]
      by_cases h2 : k' < k
      · rw [if_pos h2, clash_iff n ((k, b) :: xs) ys (by rw [List.length_cons]; omega) (by rw [List.map_cons, List.pairwise_cons]; exact hx) hy.2]
        constructor
        · rintro ⟨t, c, c', h3, h4, h5⟩; exact ⟨t, c, c', h3, List.mem_cons_of_mem _ h4, h5⟩
        · rintro ⟨t, c, c', h3, h4, h5⟩
          refine ⟨t, c, c', h3, ?_, h5⟩
          rcases List.mem_cons.1 h4 with e | e
          · exfalso
            injection e with e1 e2
            subst e1
            rcases List.mem_cons.1 h3 with e | e
            · injection e with e1 e2; rw [e1] at h2; exact tlt_irr _ h2
            · exact tlt_irr _ (tlt_tr h2 (hx1 _ _ e))
          · exact e
      · rw [if_neg h2]
        have hk : k = k' := Classical.byContradiction fun hn => h2 (tlt_tot h1 hn)
        subst hk
        by_cases h3 : (b || b') = true
        · rw [if_pos h3]
          exact ⟨fun _ => ⟨k, b, b', List.mem_cons_self, List.mem_cons_self, h3⟩, fun _ => rfl⟩
        · rw [if_neg h3, clash_iff n xs ys (by omega) hx.2 hy.2]
          constructor
          · rintro ⟨t, c, c', h4, h5, h6⟩; exact ⟨t, c, c', List.mem_cons_of_mem _ h4, List.mem_cons_of_mem _ h5, h6⟩
          · rintro ⟨t, c, c', h4, h5, h6⟩
            rcases List.mem_cons.1 h4 with e | e
            · injection e with e1 e2
              subst e1; subst e2
              rcases List.mem_cons.1 h5 with e | e
              · injection e with e1 e2; subst e2; exact absurd h6 h3
              · exact absurd (hy1 _ _ e) (tlt_irr _)
            · rcases List.mem_cons.1 h5 with e' | e'
              · injection e' with e1 e2; subst e1; exact absurd (hx1 _ _ e) (tlt_irr _)
              · exact ⟨t, c, c', e, e', h6⟩
theorem uses_keys (cs : List Cmdn) : (usesG cs).map (·.1) = kset (keys cs) := by unfold usesG; rw [List.map_map]; exact List.map_id' _
theorem uses_mem {cs : List Cmdn} {k : Text} {b : Bool} : (k, b) ∈ usesG cs ↔ k ∈ keys cs ∧ b = wrk cs k := by
  unfold usesG
  rw [List.mem_map]
  constructor
  · rintro ⟨t, ht, e⟩
    injection e with e1 e2
    subst e1
    exact ⟨(kset_mem _ _).1 ht, e2.symm⟩
  · rintro ⟨h1, h2⟩; exact ⟨k, (kset_mem _ _).2 h1, by rw [h2]⟩
theorem wrk_iff {cs : List Cmdn} {k : Text} : wrk cs k = true ↔ ∃ c ∈ cs, c.2.1 = k ∧ wrt c = true := by
  unfold wrk
  rw [List.any_eq_true]
  constructor
  · rintro ⟨c, hc, h⟩; rw [Bool.and_eq_true, decide_eq_true_iff] at h; exact ⟨c, hc, h⟩
  · rintro ⟨c, hc, h⟩; exact ⟨c, hc, by rw [Bool.and_eq_true, decide_eq_true_iff]; exact h⟩
theorem keys_mem {cs : List Cmdn} {k : Text} : k ∈ keys cs ↔ ∃ c ∈ cs, c.2.1 = k := by unfold keys; rw [List.mem_map]
/-- Whether two lists conflict, told by their keys. -/
theorem conf_uses {rs : List Rcd} {a b : List Idn} (hr : ∀ x, ∀ c ∈ csG rs x, right c = true) : confG rs a b = clashB (usesG (allC rs a)) (usesG (allC rs b)) := by
  have hR : ∀ (l : List Idn) (c : Cmdn), c ∈ allC rs l → right c = true := fun l c hc => by
    obtain ⟨x, _, h⟩ := List.mem_flatMap.1 hc
    exact hr x c h
  have hW : ∀ c : Cmdn, right c = true → wrt c = decide (c.1 ≠ 1) := fun c hc => by
    show (right c && decide (c.1 ≠ 1)) = _
    rw [hc]; rfl
  have hC : ∀ c d : Cmdn, right c = true → right d = true → (conf c d = true ↔ c.2.1 = d.2.1 ∧ (wrt c || wrt d) = true) := fun c d hc hd => by
    show (right c && right d && decide (c.2.1 = d.2.1) && (decide (c.1 ≠ 1) || decide (d.1 ≠ 1))) = true ↔ _
    rw [hc, hd, hW c hc, hW d hd]
    simp only [Bool.true_and, Bool.and_eq_true, decide_eq_true_iff]
  rw [Bool.eq_iff_iff, clash_iff _ _ _ (Nat.le_refl _) (by rw [uses_keys]; exact kset_rise _) (by rw [uses_keys]; exact kset_rise _), confG_iff]
  constructor
  · rintro ⟨x, hx, y, hy, h⟩
    obtain ⟨c, hc, d, hd, h⟩ := bconf_iff.1 h
    have hca : c ∈ allC rs a := List.mem_flatMap.2 ⟨x, hx, hc⟩
    have hdb : d ∈ allC rs b := List.mem_flatMap.2 ⟨y, hy, hd⟩
    obtain ⟨e, hw⟩ := (hC c d (hR _ _ hca) (hR _ _ hdb)).1 h
    refine ⟨c.2.1, _, _, uses_mem.2 ⟨keys_mem.2 ⟨c, hca, rfl⟩, rfl⟩, uses_mem.2 ⟨keys_mem.2 ⟨d, hdb, e.symm⟩, rfl⟩, ?_⟩
    rw [Bool.or_eq_true] at hw ⊢
    rcases hw with hw | hw
    · exact .inl (wrk_iff.2 ⟨c, hca, rfl, hw⟩)
    · exact .inr (wrk_iff.2 ⟨d, hdb, e.symm, hw⟩)
  · rintro ⟨k, b1, b2, h1, h2, h3⟩
    obtain ⟨h4, rfl⟩ := uses_mem.1 h1
    obtain ⟨h5, rfl⟩ := uses_mem.1 h2
    have fin : ∀ c d : Cmdn, c ∈ allC rs a → d ∈ allC rs b → c.2.1 = d.2.1 → (wrt c || wrt d) = true → ∃ x ∈ a, ∃ y ∈ b, bConf (csG rs x) (csG rs y) = true := fun c d hc hd e hw => by
      obtain ⟨x, hx, hcx⟩ := List.mem_flatMap.1 hc
      obtain ⟨y, hy, hdy⟩ := List.mem_flatMap.1 hd
      exact ⟨x, hx, y, hy, bconf_iff.2 ⟨c, hcx, d, hdy, (hC c d (hR _ _ hc) (hR _ _ hd)).2 ⟨e, hw⟩⟩⟩
    rw [Bool.or_eq_true] at h3
    rcases h3 with h3 | h3
    · obtain ⟨c, hc, e1, hw⟩ := wrk_iff.1 h3
      obtain ⟨d, hd, e2⟩ := keys_mem.1 h5
      exact fin c d hc hd (e1.trans e2.symm) (by rw [hw]; rfl)
    · obtain ⟨d, hd, e1, hw⟩ := wrk_iff.1 h3
      obtain ⟨c, hc, e2⟩ := keys_mem.1 h4
      exact fin c d hc hd (e2.trans e1.symm) (by rw [hw, Bool.or_true])
end Go.Proofs.YtlkndpofegemdaaGreat.Tra

/- What the program's clash tells of two rows of keys (layer 19, traces). Conditions: the rows lie in memory as their cells say. -/
namespace Go.Proofs.YtlkndpofegemdaaGreat.Tra
open Go.RowKit Cmd Bat Ids Rec Wid Gra Rea Cps
set_option linter.unusedVariables false
set_option linter.unusedSimpArgs false

/-! ### Rows of keys, each with whether it is written -/
def layU : Lay (Text × Bool) := ⟨([], false), fun o j => o + j * 2, fun w b o x => w.cell? ⟨b, o, none⟩ = some (.string (str x.1)) ∧ w.cell? ⟨b, o + 1, none⟩ = some (.bool x.2),
  fun {w w' b o x} hb h ⟨h0, h1⟩ => ⟨(h.cell (p := ⟨b, o, none⟩) hb).trans h0, (h.cell (p := ⟨b, o + 1, none⟩) hb).trans h1⟩⟩
def wdU : Wd (Text × Bool) where
  L := layU
  enc x := [.string (str x.1), .bool x.2]
  c := 2
  cpos := by decide
  pos _ _ := rfl
  len _ := rfl
  one x u hu := by
    simp only [List.mem_cons, List.not_mem_nil, or_false] at hu
    rcases hu with rfl | rfl <;> rfl
  lies h := ⟨h 0 _ rfl, h 1 _ rfl⟩
  cells h := fun i u hu => by
    match i, hu with
    | 0, hu => injection hu with hu; subst hu; exact h.1
    | 1, hu => injection hu with hu; subst hu; exact h.2
    | i + 2, hu => simp at hu
theorem wtU : Wt wdU 62 91 (.agg #[.string ⟨#[]⟩, .bool false]) 24 := ⟨Tryz.underlying62, by kernel_rfl, by kernel_rfl, by kernel_rfl, by decide⟩
theorem cutU (p : Option Addr) (n c : Nat) (h : 1 ≤ n) (w : World) : (Instr.slice 62 (.slice p n c) (some (.int .i64 1)) none none).run Tryz.prog w = .ok (.slice (cutl p 1 c 2) (n - 1) (c - 1)) w := from_wide wtU p n c 1 h w
def lenV : Value → Nat
  | .slice _ n _ => n
  | _ => 0
theorem rowU_cons {w : World} {v : Value} {k : Text} {b : Bool} {xs : List (Text × Bool)} (h : layU.Row w v ((k, b) :: xs)) : ∃ B off c, v = .slice (some ⟨B, off, none⟩) (xs.length + 1) c ∧ B < w.heap.size ∧ w.cell? ⟨B, off, none⟩ = some (.string (str k)) ∧ w.cell? ⟨B, off + 1, none⟩ = some (.bool b) ∧ layU.Row w (.slice (cutl (some ⟨B, off, none⟩) 1 c 2) xs.length (c - 1)) xs := by
  obtain ⟨p, c, rfl, h1, h2, h3⟩ := h
  obtain ⟨B, off, rfl, hi⟩ := h3 (by simp)
  have hr : layU.Row w (.slice (some ⟨B, off, none⟩) (xs.length + 1) c) ((k, b) :: xs) := ⟨_, c, rfl, h1, h2, fun _ => ⟨B, off, rfl, hi⟩⟩
  have h0 := hi.cell 0 (by simp)
  have e : layU.pos off 0 = off := by show off + 0 * 2 = off; omega
  rw [e] at h0
  exact ⟨B, off, c, rfl, hi.lt, h0.1, h0.2, row_drop (D := wdU) hr 1 (by simp)⟩
theorem gtr_text (s x : Text) (w : World) : (binOp .gtr 9 (.string (str s)) (.string (str x))).run Tryz.prog w = .ok (.bool (lts x s)) w := by
  have hk : (!(lts s x || (s == x))) = lts x s := by
    by_cases h1 : s < x
    · rw [show lts s x = true from decide_eq_true h1, show lts x s = false from decide_eq_false fun h2 => tlt_irr _ (tlt_tr h1 h2)]; rfl
    · rw [show lts s x = false from decide_eq_false h1]
      by_cases h2 : s = x
      · subst h2; rw [show lts s s = false from decide_eq_false (tlt_irr _), beq_self_eq_true]; rfl
      · rw [show lts x s = true from decide_eq_true (tlt_tot h1 h2), beq_eq_false_iff_ne.2 h2]; rfl
  show (Op.stringOp .gtr (str s) (str x)).run Tryz.prog w = _
  unfold Op.stringOp
  simp only [Sem.run_pure]
  rw [less_run, str_beq, hk]
set_option maxRecDepth 100000 in
set_option maxHeartbeats 4000000 in
theorem clash_any (v u : Value) (xs ys : List (Text × Bool)) (w : World) (h : layU.Row w v xs) (g : layU.Row w u ys) : Calls Tryz.prog 24 #[v, u] w (RetBelow (.bool (clashB xs ys)) w) := by
  have H := Lib.hid h
  have G := Lib.hid g
  have D0 : Hid (Below w.heap.size w w) := Lib.hid (Below.refl _ _)
  have E0 : Hid (clashB xs ys = clashB xs ys) := Lib.hid rfl
  generalize hr : clashB xs ys = r at E0 ⊢
  rw [← hr] at E0
  have HR := Lib.hid hr
  clear h g hr
  go_enter Tryz.func24, Tryz.ntmps24
  go_wp2
  go_loopw [0, 1] (fun p q W => ∃ xs' ys', Hid (layU.Row w p xs') ∧ Hid (layU.Row w q ys') ∧ Hid (clashB xs' ys' = r) ∧ Hid (Below w.heap.size w W)) (fun p q _ => lenV p + lenV q)
  case atStart => exact ⟨xs, ys, H, G, HR, D0⟩
  case round =>
    clear H G E0 HR D0
    obtain ⟨xs', ys', H, G, HR, HB⟩ := hrel
    cases xs' with
    | nil =>
      obtain ⟨p, c, rfl, h1, -⟩ := H.out.parts
      have hr : Hid (Value.bool false = .bool r) := Lib.hid (by rw [← HR.out, clashB])
      have nn : ¬ (0 : Int) < (([] : List (Text × Bool)).length : Nat) := by simp
      clear h1 H
      generalize ([] : List (Text × Bool)).length = n at nn ⊢
      go_wp2
      go_ret
      exact ⟨by rw [hr.out]; rfl, HB.out⟩
    | cons x xt =>
      obtain ⟨k, b⟩ := x
      obtain ⟨B, off, c, rfl, lt, c0, c1, ht⟩ := rowU_cons H.out
      have hc0 := (HB.out.cell (p := ⟨B, off, none⟩) lt).trans c0
      have hc1 := (HB.out.cell (p := ⟨B, off + 1, none⟩) lt).trans c1
      have n0 : (0 : Int) < ((xt.length + 1 : Nat) : Int) := by omega
      have HT := Lib.hid ht
      have HH := Lib.hid H.out
      have cu := cutU (some ⟨B, off, none⟩) (xt.length + 1) c (by omega)
      obtain ⟨n, hn⟩ : ∃ n, n = xt.length := ⟨_, rfl⟩
      have HN := Lib.hid hn
      rw [← hn] at n0 cu ⊢
      clear lt c0 c1 ht hn H
      cases ys' with
      | nil =>
        obtain ⟨p, c', rfl, h1, -⟩ := G.out.parts
        have hr : Hid (Value.bool false = .bool r) := Lib.hid (by rw [← HR.out, clashB])
        have nn : ¬ (0 : Int) < (([] : List (Text × Bool)).length : Nat) := by simp
        clear h1 G
        generalize ([] : List (Text × Bool)).length = m at nn ⊢
        go_wp2
        go_ret
        exact ⟨by rw [hr.out]; rfl, HB.out⟩
      | cons y yt =>
        obtain ⟨k', b'⟩ := y
        obtain ⟨B', off', c', rfl, lt, d0, d1, hy⟩ := rowU_cons G.out
        have hd0 := (HB.out.cell (p := ⟨B', off', none⟩) lt).trans d0
        have hd1 := (HB.out.cell (p := ⟨B', off' + 1, none⟩) lt).trans d1
        have m0 : (0 : Int) < ((yt.length + 1 : Nat) : Int) := by omega
        have HY := Lib.hid hy
        have HG := Lib.hid G.out
        have cv := cutU (some ⟨B', off', none⟩) (yt.length + 1) c' (by omega)
        obtain ⟨m, hm⟩ : ∃ m, m = yt.length := ⟨_, rfl⟩
        have HM := Lib.hid hm
        rw [← hm] at m0 cv ⊢
        have l1 := less_run k k'
        have l2 := gtr_text k k'
        clear lt d0 d1 hy hm G
        have HE := Lib.hid HR.out
        clear HR
        by_cases h1 : k < k'
        · rw [show lts k k' = true from decide_eq_true h1] at l1
          have HE2 : Hid (clashB xt ((k', b') :: yt) = r) := Lib.hid (by rw [← HE.out, clashB, if_pos h1])
          clear h1 l2 HE
          go_wp2
          go_quiet (fail)
          go_wp2
          go_roundw
          case rel => exact ⟨xt, (k', b') :: yt, Lib.hid (by have := HT.out; rw [← HN.out] at this; exact this), Lib.hid (by have := HG.out; rw [← HM.out] at this; exact this), HE2, Lib.hid (Bat.below_drN HB.out _)⟩
          case measure => simp [lenV]
        · rw [show lts k k' = false from decide_eq_false h1] at l1
          by_cases h2 : k' < k
          · rw [show lts k' k = true from decide_eq_true h2] at l2
            have HE2 : Hid (clashB ((k, b) :: xt) yt = r) := Lib.hid (by rw [← HE.out, clashB, if_neg h1, if_pos h2])
            clear h1 h2 HE
            go_wp2
            go_quiet (fail)
            go_wp2
            go_quiet (fail)
            go_wp2
            go_roundw
            case rel => exact ⟨(k, b) :: xt, yt, Lib.hid (by have := HH.out; rw [← HN.out] at this; exact this), Lib.hid (by have := HY.out; rw [← HM.out] at this; exact this), HE2, Lib.hid (Bat.below_drN HB.out _)⟩
            case measure => simp [lenV]
          · rw [show lts k' k = false from decide_eq_false h2] at l2
            by_cases h3 : (b || b') = true
            · have hr : Hid (Value.bool true = .bool r) := Lib.hid (by rw [← HE.out, clashB, if_neg h1, if_neg h2, if_pos h3])
              clear h1 h2 HE
              cases b with
              | true =>
                go_wp2
                go_quiet (fail)
                go_wp2
                go_quiet (fail)
                go_wp2
                go_ret
                exact ⟨by rw [hr.out]; rfl, Bat.below_drN HB.out _⟩
              | false =>
                cases b' with
                | false => cases h3
                | true =>
                  go_wp2
                  go_quiet (fail)
                  go_wp2
                  go_quiet (fail)
                  go_wp2
                  go_ret
                  exact ⟨by rw [hr.out]; rfl, Bat.below_drN HB.out _⟩
            · have HE2 : Hid (clashB xt yt = r) := Lib.hid (by rw [← HE.out, clashB, if_neg h1, if_neg h2, if_neg h3])
              clear h1 h2 HE
              cases b with
              | true => exact absurd rfl h3
              | false =>
                cases b' with
                | true => exact absurd rfl h3
                | false =>
                  go_wp2
                  go_quiet (fail)
                  go_wp2
                  go_quiet (fail)
                  go_wp2
                  go_quiet (fail)
                  go_wp2
                  go_roundw
                  case rel => exact ⟨xt, yt, Lib.hid (by have := HT.out; rw [← HN.out] at this; exact this), Lib.hid (by have := HY.out; rw [← HM.out] at this; exact this), HE2, Lib.hid (Bat.below_drN (Bat.below_drN HB.out _) _)⟩
                  case measure => simp [lenV]; omega
end Go.Proofs.YtlkndpofegemdaaGreat.Tra
