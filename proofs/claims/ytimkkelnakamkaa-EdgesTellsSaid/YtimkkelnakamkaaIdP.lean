/- Plain facts on lists of ids: the order is strict and total; one more put in; two rising lists with the same ids are the same; one of each run of the same. No condition but those in each statement. -/
import Derived.Test.YtimkkelnakamkaaIdB
import Derived.Sort.Statements
namespace Go.Proofs.Ytimkkelnakamkaa.Ids
set_option linter.unusedVariables false

theorem lt_irr (x : Idn) : idLt x x = false := by unfold idLt; simp
theorem lt_tr {x y z : Idn} (h : idLt x y = true) (k : idLt y z = true) : idLt x z = true := by
  unfold idLt at *
  split at h <;> split at k <;> split <;> simp only [decide_eq_true_eq] at * <;> omega
theorem lt_tot {x y : Idn} (h : idLt x y = false) (k : idLt y x = false) : x = y := by
  unfold idLt at *
  have : x.1 = y.1 ∧ x.2 = y.2 := by
    split at h <;> split at k <;> simp only [decide_eq_false_iff_not] at * <;> omega
  exact Prod.ext this.1 this.2
theorem lt_as {x y : Idn} (h : idLt x y = true) : idLt y x = false := by
  cases hk : idLt y x with
  | false => rfl
  | true => have := lt_tr h hk; rw [lt_irr] at this; cases this
abbrev Rise (l : List Idn) : Prop := l.Pairwise fun x y => idLt x y = true

theorem nth_bang (zs : List Idn) (j : Nat) : zs[j]! = nth zs j := by
  unfold nth
  rw [List.getElem!_eq_getElem?_getD, List.getD_eq_getElem?_getD]; rfl
theorem nth_cons_zero (x : Idn) (l : List Idn) : nth (x :: l) 0 = x := rfl
theorem nth_cons_succ (x : Idn) (l : List Idn) (j : Nat) : nth (x :: l) (j + 1) = nth l j := by unfold nth; simp
theorem rises_rise : ∀ {zs : List Idn}, rises zs = true ↔ Rise zs
  | [] => ⟨fun _ => .nil, fun _ => rfl⟩
  | [x] => ⟨fun _ => by simp [Rise], fun _ => rfl⟩
  | x :: y :: l => by
    have ih := rises_rise (zs := y :: l)
    rw [rises_iff] at ih ⊢
    constructor
    · intro h
      have h1 := ih.1 fun j hj => by
        have := h (j + 1) (by simp at hj ⊢; omega)
        rwa [nth_cons_succ, nth_cons_succ] at this
      refine List.Pairwise.cons (fun z hz => ?_) h1
      have h2 : idLt x y = true := h 0 (by simp)
      rcases List.mem_cons.1 hz with rfl | hz
      · exact h2
      · exact lt_tr h2 ((List.pairwise_cons.1 h1).1 z hz)
    · intro h j hj
      obtain ⟨h1, h2⟩ := List.pairwise_cons.1 h
      match j with
      | 0 => exact h1 y (by simp)
      | j + 1 =>
        rw [nth_cons_succ, nth_cons_succ]
        exact ih.2 h2 j (by simp at hj ⊢; omega)

theorem rise_eq : ∀ {a b : List Idn}, Rise a → Rise b → (∀ x, x ∈ a ↔ x ∈ b) → a = b
  | [], [], _, _, _ => rfl
  | [], y :: b, _, _, h => by have := (h y).2 (by simp); cases this
  | x :: a, [], _, _, h => by have := (h x).1 (by simp); cases this
  | x :: a, y :: b, ha, hb, h => by
    obtain ⟨a1, a2⟩ := List.pairwise_cons.1 ha
    obtain ⟨b1, b2⟩ := List.pairwise_cons.1 hb
    have e : x = y := by
      rcases List.mem_cons.1 ((h x).1 (by simp)) with e | hx
      · exact e
      · rcases List.mem_cons.1 ((h y).2 (by simp)) with e | hy
        · exact e.symm
        · have := lt_tr (a1 y hy) (b1 x hx)
          rw [lt_irr] at this; cases this
    subst e
    have ht : a = b := rise_eq a2 b2 fun z => by
      have hz := h z
      rw [List.mem_cons, List.mem_cons] at hz
      constructor
      · intro hm
        rcases hz.1 (.inr hm) with rfl | h2
        · have := a1 z hm; rw [lt_irr] at this; cases this
        · exact h2
      · intro hm
        rcases hz.2 (.inr hm) with rfl | h2
        · have := b1 z hm; rw [lt_irr] at this; cases this
        · exact h2
    rw [ht]

/-! ### One more -/
def ins (x : Idn) : List Idn → List Idn
  | [] => [x]
  | y :: t => if idLt x y then x :: y :: t else y :: ins x t
def put (l : List Idn) (x : Idn) : List Idn := if x ∈ l then l else ins x l
def srt (l : List Idn) : List Idn := l.foldl put []
theorem ins_mem (x z : Idn) : ∀ l, z ∈ ins x l ↔ z = x ∨ z ∈ l
  | [] => by simp [ins]
  | y :: t => by
    unfold ins
    split
    · simp
    · rw [List.mem_cons, ins_mem x z t, List.mem_cons]
      constructor
      · rintro (h | h | h) <;> simp [h]
      · rintro (h | h | h) <;> simp [h]
theorem ins_length (x : Idn) : ∀ l, (ins x l).length = l.length + 1
  | [] => rfl
  | y :: t => by
    unfold ins
    split
    · rfl
    · rw [List.length_cons, ins_length x t]; rfl
theorem ins_rise {x : Idn} : ∀ {l}, Rise l → x ∉ l → Rise (ins x l)
  | [], _, _ => by simp [ins, Rise]
  | y :: t, h, hx => by
    obtain ⟨h1, h2⟩ := List.pairwise_cons.1 h
    unfold ins
    split
    · rename_i hl
      refine List.Pairwise.cons (fun z hz => ?_) h
      rcases List.mem_cons.1 hz with rfl | hz
      · exact hl
      · exact lt_tr hl (h1 z hz)
    · rename_i hl
      refine List.Pairwise.cons (fun z hz => ?_) (ins_rise h2 fun hm => hx (List.mem_cons_of_mem _ hm))
      rcases (ins_mem x z t).1 hz with rfl | hz
      · cases hk : idLt y z with
        | true => rfl
        | false => exact absurd (lt_tot (by simpa using hl) hk) fun e => hx (by rw [e]; simp)
      · exact h1 z hz
theorem put_mem (l : List Idn) (x z : Idn) : z ∈ put l x ↔ z = x ∨ z ∈ l := by
  unfold put
  split
  · rename_i h
    exact ⟨.inr, fun hz => hz.elim (fun e => e ▸ h) id⟩
  · exact ins_mem x z l
theorem put_rise {l : List Idn} {x : Idn} (h : Rise l) : Rise (put l x) := by
  unfold put
  split
  · exact h
  · rename_i hx; exact ins_rise h hx
theorem put_length (l : List Idn) (x : Idn) : (put l x).length ≤ l.length + 1 := by
  unfold put
  split
  · omega
  · rw [ins_length]; exact Nat.le_refl _
theorem fold_put : ∀ (l a : List Idn), Rise a → Rise (l.foldl put a) ∧ ∀ z, z ∈ l.foldl put a ↔ z ∈ a ∨ z ∈ l
  | [], a, h => ⟨h, fun z => by simp⟩
  | x :: l, a, h => by
    obtain ⟨h1, h2⟩ := fold_put l (put a x) (put_rise h)
    refine ⟨h1, fun z => ?_⟩
    rw [List.foldl_cons, h2, put_mem, List.mem_cons]
    constructor
    · rintro ((h | h) | h) <;> simp [h]
    · rintro (h | h | h) <;> simp [h]
theorem srt_rise (l : List Idn) : Rise (srt l) := (fold_put l [] .nil).1
theorem srt_mem (l : List Idn) (z : Idn) : z ∈ srt l ↔ z ∈ l := by
  have := (fold_put l [] .nil).2 z
  unfold srt; simpa using this
theorem srt_take (l : List Idn) (k : Nat) (h : k < l.length) : srt (l.take (k + 1)) = put (srt (l.take k)) (nth l k) := by
  unfold srt nth
  rw [List.take_succ_eq_append_getElem h, List.foldl_append, List.getD_eq_getElem?_getD, List.getElem?_eq_getElem h]
  rfl
theorem srt_length (l : List Idn) : (srt l).length ≤ l.length := by
  have : ∀ (l a : List Idn), (l.foldl put a).length ≤ a.length + l.length := by
    intro l
    induction l with
    | nil => intro a; simp
    | cons x l ih =>
      intro a
      rw [List.foldl_cons]
      have := ih (put a x)
      have := put_length a x
      simp only [List.length_cons]; omega
  have := this l []
  unfold srt; simpa using this

/-! ### One of each run -/
/-- What is left of a list whose first element was kept: those that differ from the one ahead. -/
def cpt : List Idn → List Idn
  | [] => []
  | [x] => [x]
  | x :: y :: t => if x = y then cpt (y :: t) else x :: cpt (y :: t)
theorem cpt_mem (z : Idn) : ∀ l, z ∈ cpt l ↔ z ∈ l
  | [] => Iff.rfl
  | [x] => Iff.rfl
  | x :: y :: t => by
    have ih := cpt_mem z (y :: t)
    unfold cpt
    split
    · rename_i e
      subst e
      rw [ih]
      simp
    · rw [List.mem_cons, ih, List.mem_cons, List.mem_cons, List.mem_cons]
/-- Not falling. -/
abbrev Flat (l : List Idn) : Prop := l.Pairwise fun x y => idLt y x = false
theorem cpt_rise : ∀ {l}, Flat l → Rise (cpt l)
  | [], _ => .nil
  | [x], _ => by simp [cpt, Rise]
  | x :: y :: t, h => by
    obtain ⟨h1, h2⟩ := List.pairwise_cons.1 h
    have ih := cpt_rise h2
    unfold cpt
    split
    · exact ih
    · rename_i e
      refine List.Pairwise.cons (fun z hz => ?_) ih
      have hz := (cpt_mem z _).1 hz
      have hy : idLt x y = true := by
        cases hk : idLt x y with
        | true => rfl
        | false => exact absurd (lt_tot hk (h1 y (by simp))) e
      rcases List.mem_cons.1 hz with rfl | hz
      · exact hy
      · have h3 := (List.pairwise_cons.1 h2).1 z hz
        cases hk : idLt x z with
        | true => rfl
        | false =>
          have e2 := lt_tot hk (h1 z (by simp [hz]))
          subst e2
          rw [hy] at h3; cases h3
theorem cpt_srt {l s : List Idn} (h : Flat s) (hm : ∀ z, z ∈ s ↔ z ∈ l) : cpt s = srt l :=
  rise_eq (cpt_rise h) (srt_rise l) fun z => by rw [cpt_mem, srt_mem, hm]
end Go.Proofs.Ytimkkelnakamkaa.Ids
