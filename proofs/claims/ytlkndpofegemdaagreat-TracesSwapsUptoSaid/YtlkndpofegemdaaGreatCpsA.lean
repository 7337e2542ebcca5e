/- Components (layer 17, comps), plain: the order of records; ids put in it; which two are mutual; all components. No condition but those in each statement. -/
import Derived.Test.YtlkndpofegemdaaGreatReg
import Derived.Test.YtlkndpofegemdaaGreatReaA
import Derived.Test.YtlkndpofegemdaaGreatRecA
import Derived.Test.YtlkndpofegemdaaGreatGraG
namespace Go.Proofs.YtlkndpofegemdaaGreat.Cps
open Go.RowKit Cmd Bat Ids Rec Wid Gra Rea
set_option linter.unusedVariables false
set_option linter.unusedSimpArgs false

/-! ### The order of records -/
/-- The number of an id's record. -/
def seqG (rs : List Rcd) (x : Idn) : Int := match rs.find? (fun r => decide (r.1 = x)) with
  | some r => r.2.1
  | none => 0
theorem seq_at {rs : List Rcd} {x : Idn} {k : Nat} (hk : k < rs.length) (h : (layG.at rs k).1 = x) (hn : ∀ j, j < k → (layG.at rs j).1 ≠ x) : seqG rs x = (layG.at rs k).2.1 := by
  have e : rs.find? (fun r => decide (r.1 = x)) = some (layG.at rs k) := by
    rw [List.find?_eq_some_iff_getElem]
    refine ⟨decide_eq_true h, k, hk, (layG.at_get hk).symm, fun j hj => ?_⟩
    have := hn j hj
    rw [layG.at_get (by omega)] at this
    simp [this]
  unfold seqG
  rw [e]
/-- Which of two ids' records stands ahead. -/
def ltR (rs : List Rcd) (x y : Idn) : Bool := rLess x.1 x.2 (seqG rs x) y.1 y.2 (seqG rs y)
theorem ltR_irr (rs : List Rcd) (x : Idn) : ltR rs x x = false := by unfold ltR rLess; rw [if_pos rfl]; exact lt_irr x
theorem ltR_tr {rs : List Rcd} {x y z : Idn} (h : ltR rs x y = true) (k : ltR rs y z = true) : ltR rs x z = true := by
  unfold ltR rLess at *
  split at h
  · rename_i e1
    split at k
    · rename_i e2
      rw [if_pos (e1.trans e2)]; exact lt_tr h k
    · rename_i e2
      rw [if_neg (fun e => e2 (e1.symm.trans e))]
      rw [e1]; exact k
  · rename_i e1
    split at k
    · rename_i e2
      rw [if_neg (fun e => e1 (e.trans e2.symm)), ← e2]; exact h
    · have h := of_decide_eq_true h
      have k := of_decide_eq_true k
      rw [if_neg (by omega)]; exact decide_eq_true (by omega)
theorem ltR_tot {rs : List Rcd} {x y : Idn} (h : ltR rs x y = false) (k : ltR rs y x = false) : x = y := by
  unfold ltR rLess at *
  split at h
  · rename_i e1
    rw [if_pos e1.symm] at k
    exact lt_tot h k
  · rename_i e1
    rw [if_neg (fun e => e1 e.symm)] at k
    have h := of_decide_eq_false h
    have k := of_decide_eq_false k
    omega
theorem ltR_as {rs : List Rcd} {x y : Idn} (h : ltR rs x y = true) : ltR rs y x = false := by
  cases hk : ltR rs y x with
  | false => rfl
  | true => have := ltR_tr h hk; rw [ltR_irr] at this; cases this
abbrev RiseR (rs : List Rcd) (l : List Idn) : Prop := l.Pairwise fun x y => ltR rs x y = true
theorem riseR_eq {rs : List Rcd} : ∀ {a b : List Idn}, RiseR rs a → RiseR rs b → (∀ x, x ∈ a ↔ x ∈ b) → a = b
  | [], [], _, _, _ => rfl
  | [], y :: b, _, _, h => by have := (h y).2 (by simp); cases this
  | x :: a, [], _, _, h => by have := (h x).1 (by simp); cases this
  | x :: a, y :: b, ha, hb, h => by
    obtain ⟨a1, a2⟩ := List.pairwise_cons.1 ha
    obtain ⟨b1, b2⟩ := List.pairwise_cons.1 hb
    have e : x = y := by
      rcases List.mem_cons.1 ((h x).1 (by simp)) with e | hx
      · exact e
      · rcases List.mem_cons.1 ((h y).2 (by simp)) with e | hy
        · exact e.symm
        · have h1 := b1 x hx
          have h2 := a1 y hy
          rw [ltR_as h1] at h2; cases h2
    subst e
    have hxa : x ∉ a := fun hx => by have := a1 x hx; rw [ltR_irr] at this; cases this
    have hxb : x ∉ b := fun hx => by have := b1 x hx; rw [ltR_irr] at this; cases this
    rw [riseR_eq a2 b2 fun z => by
      constructor
      · intro hz
        rcases List.mem_cons.1 ((h z).1 (List.mem_cons_of_mem _ hz)) with e | hz'
        · subst e; exact absurd hz hxa
        · exact hz'
      · intro hz
        rcases List.mem_cons.1 ((h z).2 (List.mem_cons_of_mem _ hz)) with e | hz'
        · subst e; exact absurd hz hxb
        · exact hz']
theorem riseR_nodup {rs : List Rcd} {l : List Idn} (h : RiseR rs l) : l.Nodup := by
  refine List.Pairwise.imp (fun {a b} hab e => ?_) h
  subst e
  rw [ltR_irr] at hab; cases hab
/-- One more, in its place. -/
def insR (rs : List Rcd) (x : Idn) : List Idn → List Idn
  | [] => [x]
  | y :: t => if ltR rs x y then x :: y :: t else y :: insR rs x t
theorem insR_mem {rs : List Rcd} {x z : Idn} : ∀ {l : List Idn}, z ∈ insR rs x l ↔ z = x ∨ z ∈ l
  | [] => by simp [insR]
  | y :: t => by
    unfold insR
    split
    · simp
    · rw [List.mem_cons, insR_mem (l := t), List.mem_cons]
      constructor
      · rintro (h | h | h)
        · exact .inr (.inl h)
        · exact .inl h
        · exact .inr (.inr h)
      · rintro (h | h | h)
        · exact .inr (.inl h)
        · exact .inl h
        · exact .inr (.inr h)
theorem insR_rise {rs : List Rcd} {x : Idn} : ∀ {l : List Idn}, RiseR rs l → x ∉ l → RiseR rs (insR rs x l)
  | [], _, _ => by simp [insR]
  | y :: t, h, hx => by
    obtain ⟨h1, h2⟩ := List.pairwise_cons.1 h
    unfold insR
    split
    · rename_i hl
      refine List.Pairwise.cons (fun z hz => ?_) h
      rcases List.mem_cons.1 hz with rfl | hz
      · exact hl
      · exact ltR_tr hl (h1 z hz)
    · rename_i hl
      have hyx : ltR rs y x = true := by
        cases hc : ltR rs y x with
        | true => rfl
        | false => exact absurd (ltR_tot (by simpa using hl) hc) (fun e => hx (by rw [e]; exact List.mem_cons_self))
      refine List.Pairwise.cons (fun z hz => ?_) (insR_rise h2 fun hm => hx (List.mem_cons_of_mem _ hm))
      rcases insR_mem.1 hz with rfl | hz
      · exact hyx
      · exact h1 z hz
theorem insR_len {rs : List Rcd} {x : Idn} : ∀ {l : List Idn}, (insR rs x l).length = l.length + 1
  | [] => rfl
  | y :: t => by
    unfold insR
    split
    · rfl
    · rw [List.length_cons, insR_len, List.length_cons]
/-- How the document puts one in: what has been gone over, and whether it is in already. -/
def half (rs : List Rcd) (x : Idn) : List Idn → List Idn × Bool
  | [] => ([], false)
  | l => l.foldl (fun s y => if !s.2 && ltR rs x y then (s.1 ++ [x, y], true) else (s.1 ++ [y], s.2)) ([], false)
theorem half_snoc (rs : List Rcd) (x : Idn) (l : List Idn) (y : Idn) : half rs x (l ++ [y]) = if !(half rs x l).2 && ltR rs x y then ((half rs x l).1 ++ [x, y], true) else ((half rs x l).1 ++ [y], (half rs x l).2) := by
  cases l with
  | nil => rfl
  | cons a t =>
    show (a :: t ++ [y]).foldl _ _ = _
    rw [List.foldl_append]; rfl
theorem half_true {rs : List Rcd} {x : Idn} : ∀ (t : List Idn) (s : List Idn), t.foldl (fun s y => if !s.2 && ltR rs x y then (s.1 ++ [x, y], true) else (s.1 ++ [y], s.2)) (s, true) = (s ++ t, true)
  | [], s => by simp
  | y :: t, s => by
    rw [List.foldl_cons]
    simp only [Bool.not_true, Bool.false_and, Bool.false_eq_true, if_false]
    rw [half_true t (s ++ [y])]; simp
theorem half_false {rs : List Rcd} {x : Idn} : ∀ (t : List Idn) (s : List Idn), (let r := t.foldl (fun s y => if !s.2 && ltR rs x y then (s.1 ++ [x, y], true) else (s.1 ++ [y], s.2)) (s, false); if r.2 then r.1 else r.1 ++ [x]) = s ++ insR rs x t
  | [], s => by simp [insR]
  | y :: t, s => by
    rw [List.foldl_cons]
    unfold insR
    by_cases h : ltR rs x y
    · simp only [h, Bool.not_false, Bool.true_and, if_true]
      rw [half_true]; simp
    · simp only [h, Bool.not_false, Bool.true_and, Bool.false_eq_true, if_false]
      have h9 := half_false (rs := rs) (x := x) t (s ++ [y])
      simp only at h9
      rw [h9]; simp
theorem half_done (rs : List Rcd) (x : Idn) (l : List Idn) : (if (half rs x l).2 then (half rs x l).1 else (half rs x l).1 ++ [x]) = insR rs x l := by
  cases l with
  | nil => rfl
  | cons a t => exact half_false (rs := rs) (x := x) (a :: t) []
/-- Ids that are there, in the order of their records. -/
def sortR (rs : List Rcd) (l : List Idn) : List Idn := l.foldl (fun out x => if x ∈ idsG rs ∧ x ∉ out then insR rs x out else out) []
theorem sortR_snoc (rs : List Rcd) (l : List Idn) (x : Idn) : sortR rs (l ++ [x]) = if x ∈ idsG rs ∧ x ∉ sortR rs l then insR rs x (sortR rs l) else sortR rs l := by unfold sortR; rw [List.foldl_append]; rfl
theorem sortR_both (rs : List Rcd) : ∀ (l : List Idn) (out : List Idn), RiseR rs out → RiseR rs (l.foldl (fun out x => if x ∈ idsG rs ∧ x ∉ out then insR rs x out else out) out) ∧ ∀ z, z ∈ l.foldl (fun out x => if x ∈ idsG rs ∧ x ∉ out then insR rs x out else out) out ↔ z ∈ out ∨ (z ∈ l ∧ z ∈ idsG rs)
  | [], out, h => ⟨h, fun z => by simp⟩
  | x :: l, out, h => by
    rw [List.foldl_cons]
    by_cases hx : x ∈ idsG rs ∧ x ∉ out
    · rw [if_pos hx]
      obtain ⟨h1, h2⟩ := sortR_both rs l (insR rs x out) (insR_rise h hx.2)
      refine ⟨h1, fun z => ?_⟩
      rw [h2 z, insR_mem, List.mem_cons]
      constructor
      · rintro ((rfl | h) | h)
        · exact .inr ⟨.inl rfl, hx.1⟩
        · exact .inl h
        · exact .inr ⟨.inr h.1, h.2⟩
      · rintro (h | ⟨rfl | h, h'⟩)
        · exact .inl (.inr h)
        · exact .inl (.inl rfl)
        · exact .inr ⟨h, h'⟩
    · rw [if_neg hx]
      obtain ⟨h1, h2⟩ := sortR_both rs l out h
      refine ⟨h1, fun z => ?_⟩
      rw [h2 z, List.mem_cons]
      constructor
      · rintro (h | h)
        · exact .inl h
        · exact .inr ⟨.inr h.1, h.2⟩
      · rintro (h | ⟨rfl | h, h'⟩)
        · exact .inl h
        · exact .inl (Classical.byContradiction fun hn => hx ⟨h', hn⟩)
        · exact .inr ⟨h, h'⟩
theorem sortR_rise (rs : List Rcd) (l : List Idn) : RiseR rs (sortR rs l) := (sortR_both rs l [] .nil).1
theorem sortR_mem {rs : List Rcd} {l : List Idn} {z : Idn} : z ∈ sortR rs l ↔ z ∈ l ∧ z ∈ idsG rs := by rw [show z ∈ sortR rs l ↔ _ from (sortR_both rs l [] .nil).2 z]; simp
theorem sortR_len (rs : List Rcd) (l : List Idn) : (sortR rs l).length ≤ l.length := nodup_lenI (riseR_nodup (sortR_rise rs l)) fun z hz => (sortR_mem.1 hz).1

/-! ### Mutual -/
open Classical in
noncomputable def mutG (rs : List Rcd) (a b : Idn) : Bool := decide (a ∈ idsG rs) && decide (b ∈ idsG rs) && decide (b ∈ fromG rs [a]) && decide (a ∈ fromG rs [b])
theorem from_one {rs : List Rcd} {a z : Idn} : z ∈ fromG rs [a] ↔ Rch rs a z := by
  rw [from_mem]
  exact ⟨fun ⟨x, hx, h⟩ => by rw [List.mem_singleton.1 hx] at h; exact h, fun h => ⟨a, List.mem_singleton.2 rfl, h⟩⟩
theorem mut_iff {rs : List Rcd} {a b : Idn} : mutG rs a b = true ↔ a ∈ idsG rs ∧ b ∈ idsG rs ∧ Rch rs a b ∧ Rch rs b a := by
  unfold mutG
  simp only [Bool.and_eq_true, decide_eq_true_eq, from_one]
  exact ⟨fun ⟨⟨⟨h1, h2⟩, h3⟩, h4⟩ => ⟨h1, h2, h3, h4⟩, fun ⟨h1, h2, h3, h4⟩ => ⟨⟨⟨h1, h2⟩, h3⟩, h4⟩⟩
theorem mut_comm (rs : List Rcd) (a b : Idn) : mutG rs a b = mutG rs b a := by
  rw [Bool.eq_iff_iff, mut_iff, mut_iff]
  exact ⟨fun ⟨h1, h2, h3, h4⟩ => ⟨h2, h1, h4, h3⟩, fun ⟨h1, h2, h3, h4⟩ => ⟨h2, h1, h4, h3⟩⟩
theorem mut_trans {rs : List Rcd} {a b c : Idn} (h : mutG rs a b = true) (k : mutG rs b c = true) : mutG rs a c = true := by
  rw [mut_iff] at *
  exact ⟨h.1, k.2.1, h.2.2.1.trans k.2.2.1, k.2.2.2.trans h.2.2.2⟩
theorem mut_self {rs : List Rcd} {a : Idn} (h : a ∈ idsG rs) : mutG rs a a = true := mut_iff.2 ⟨h, h, .here a, .here a⟩

/-! ### All components -/
/-- The place of the first list that has an id; -1: none has. -/
def atL (l : List (List Idn)) (x : Idn) : Int := match (List.range l.length).find? (fun j => decide (x ∈ l.getD j [])) with
  | some j => (j : Int)
  | none => -1
theorem atL_at {l : List (List Idn)} {x : Idn} {k : Nat} (hk : k < l.length) (h : x ∈ l.getD k []) (hn : ∀ j, j < k → x ∉ l.getD j []) : atL l x = k := by
  have : (List.range l.length).find? (fun j => decide (x ∈ l.getD j [])) = some k := by
    rw [List.find?_range_eq_some]
    exact ⟨decide_eq_true h, List.mem_range.2 hk, fun j hj => by rw [decide_eq_false (hn j hj)]; decide⟩
  unfold atL
  rw [this]
theorem atL_no {l : List (List Idn)} {x : Idn} (h : ∀ j, j < l.length → x ∉ l.getD j []) : atL l x = -1 := by
  have : (List.range l.length).find? (fun j => decide (x ∈ l.getD j [])) = none := by
    rw [List.find?_eq_none]
    intro j hj
    rw [decide_eq_false (h j (List.mem_range.1 hj))]; decide
  unfold atL
  rw [this]
theorem atL_cases (l : List (List Idn)) (x : Idn) : (∃ k, k < l.length ∧ x ∈ l.getD k [] ∧ (∀ j, j < k → x ∉ l.getD j []) ∧ atL l x = k) ∨ (atL l x = -1 ∧ ∀ j, j < l.length → x ∉ l.getD j []) := by
  cases hf : (List.range l.length).find? (fun j => decide (x ∈ l.getD j [])) with
  | some k =>
    rw [List.find?_range_eq_some] at hf
    obtain ⟨h1, h2, h3⟩ := hf
    have h1 := of_decide_eq_true h1
    have h2 := List.mem_range.1 h2
    have h4 : ∀ j, j < k → x ∉ l.getD j [] := fun j hj e => by have := h3 j hj; rw [decide_eq_true e] at this; cases this
    exact .inl ⟨k, h2, h1, h4, atL_at h2 h1 h4⟩
  | none =>
    rw [List.find?_eq_none] at hf
    have h4 : ∀ j, j < l.length → x ∉ l.getD j [] := fun j hj e => by have := hf j (List.mem_range.2 hj); rw [decide_eq_true e] at this; exact this rfl
    exact .inr ⟨atL_no h4, h4⟩
theorem atL_ge (l : List (List Idn)) (x : Idn) : decide (0 ≤ atL l x) = true ↔ ∃ c ∈ l, x ∈ c := by
  rcases atL_cases l x with ⟨k, h1, h2, -, h4⟩ | ⟨h1, h2⟩
  · rw [h4]
    refine ⟨fun _ => ⟨l.getD k [], ?_, h2⟩, fun _ => decide_eq_true (by omega)⟩
    rw [List.getD_eq_getElem?_getD, List.getElem?_eq_getElem h1]; exact List.getElem_mem h1
  · rw [h1]
    refine ⟨fun h => by simp at h, fun ⟨c, hc, hx⟩ => ?_⟩
    obtain ⟨j, hj, e⟩ := List.getElem_of_mem hc
    exact absurd (by rw [List.getD_eq_getElem?_getD, List.getElem?_eq_getElem hj]; show x ∈ l[j]; rw [e]; exact hx) (h2 j hj)
/-- All closed ids, in the order of their records. -/
noncomputable def allR (rs : List Rcd) : List Idn := sortR rs (closedG rs)
/-- The components of the first k of all. -/
noncomputable def ofL (rs : List Rcd) (all : List Idn) : Nat → List (List Idn)
  | 0 => []
  | k + 1 => if 0 ≤ atL (ofL rs all k) (nth all k) then ofL rs all k else ofL rs all k ++ [(all.drop k).filter fun y => mutG rs (nth all k) y]
noncomputable def ofG (rs : List Rcd) : List (List Idn) := ofL rs (allR rs) (allR rs).length
end Go.Proofs.YtlkndpofegemdaaGreat.Cps

/- Lists of lists of ids in memory; what the document's At and Same give (layer 17, comps). Conditions: the lists lie in memory as their cells say. -/
namespace Go.Proofs.YtlkndpofegemdaaGreat.Cps
open Go.RowKit Cmd Bat Ids Rec Wid Gra Rea
set_option linter.unusedVariables false
set_option linter.unusedSimpArgs false

def layLL : Lay (List Idn) := ⟨[], fun o j => o + j, fun w b o x => ∃ v, w.cell? ⟨b, o, none⟩ = some v ∧ RowAt w v x, fun {w w' b o x} hb h ⟨v, h1, h2⟩ => ⟨v, (h.cell (p := ⟨b, o, none⟩) hb).trans h1, h2.on h⟩⟩
/-- The k-th list. -/
abbrev nthL (ls : List (List Idn)) (k : Nat) : List Idn := ls.getD k []
theorem nthL_in {ls : List (List Idn)} {k : Nat} (h : k < ls.length) : nthL ls k ∈ ls := by unfold nthL; rw [List.getD_eq_getElem?_getD, List.getElem?_eq_getElem h]; exact List.getElem_mem h
theorem in_nthL {ls : List (List Idn)} {c : List Idn} (h : c ∈ ls) : ∃ i, i < ls.length ∧ nthL ls i = c := by
  obtain ⟨i, hi, e⟩ := List.getElem_of_mem h
  exact ⟨i, hi, by unfold nthL; rw [List.getD_eq_getElem?_getD, List.getElem?_eq_getElem hi]; exact e⟩
theorem nthL_take {x : List (List Idn)} {i j : Nat} (h : j < i) : nthL (x.take i) j = nthL x j := by
  unfold nthL
  rw [List.getD_eq_getElem?_getD, List.getD_eq_getElem?_getD, List.getElem?_take_of_lt h]
theorem nthL_snoc (x : List (List Idn)) (c : List Idn) (i : Nat) (h : i < x.length) : nthL (x ++ [c]) i = nthL x i := by unfold nthL; rw [List.getD_eq_getElem?_getD, List.getD_eq_getElem?_getD, List.getElem?_append_left h]
theorem ll_at (l : List (List Idn)) (j : Nat) : layLL.at l j = l.getD j [] := rfl
/-- The k-th of a row of lists. -/
theorem llAt {w : World} {B off : Nat} {l : List (List Idn)} (h : layLL.In w B off l) {k : Nat} (hk : k < l.length) : ∃ p cap, w.cell? ⟨B, off + k, none⟩ = some (.slice p (l.getD k []).length cap) ∧ RowAt w (.slice p (l.getD k []).length cap) (l.getD k []) := by
  obtain ⟨v, h1, h2⟩ := h.cell k hk
  obtain ⟨p, cap, rfl, -, -⟩ := row_slice h2
  exact ⟨p, cap, h1, h2⟩

/-! ### Same -/
theorem ll_ext {a b : List (List Idn)} (hl : a.length = b.length) (h : ∀ j, j < a.length → a.getD j [] = b.getD j []) : a = b := layLL.ext hl h
set_option maxRecDepth 100000 in
set_option maxHeartbeats 4000000 in
theorem refsamell_any (v u : Value) (l l' : List (List Idn)) (w : World) (h : layLL.Row w v l) (h' : layLL.Row w u l') (hl : l.length ≤ 1000000) : Calls Tryz.prog 16 #[v, u] w (RetBelow (.bool (decide (l = l'))) w) := by
  obtain ⟨p, cap, rfl, h1, hd⟩ := h.parts
  obtain ⟨p', cap', rfl, h1', hd'⟩ := h'.parts
  obtain ⟨n, hn⟩ : ∃ n, n = l.length := ⟨_, rfl⟩
  obtain ⟨n', hn'⟩ : ∃ n, n = l'.length := ⟨_, rfl⟩
  rw [← hn] at h1 hd hl ⊢
  rw [← hn'] at h1' hd' ⊢
  have HN := Lib.hid (And.intro hn hn')
  clear h h' hn hn'
  by_cases hnn : n = n'
  · subst hnn
    have q1 : ((n : Int) != (n : Int)) = false := by simp
    go_enter Tryz.func16, Tryz.ntmps16
    go_wp2
    go_loopw [5] (fun i wr => ∃ k : Nat, k ≤ n ∧ i = .int .i64 k ∧ Hid (Below w.heap.size w wr) ∧ Hid (∀ j, j < k → l.getD j [] = l'.getD j [])) (fun i _ => n - (intOf i).toNat)
    case atStart => exact ⟨0, Nat.zero_le _, rfl, Lib.hid (Below.refl _ _), Lib.hid (fun j hj => absurd hj (Nat.not_lt_zero _))⟩
    case round =>
      obtain ⟨k, hk, rfl, hbw, hall⟩ := hrel
      have k0 : (0 : Int) ≤ k := by omega
      by_cases hkn : k < n
      · have kn : (k : Int) < n := by omega
        obtain ⟨B, off, rfl, HC⟩ := hd.resolve_left (by omega)
        obtain ⟨B', off', rfl, HC'⟩ := hd'.resolve_left (by omega)
        have hkl : k < l.length := by rw [← HN.out.1]; exact hkn
        have hkl' : k < l'.length := by rw [← HN.out.2]; exact hkn
        obtain ⟨p1, c1, e1, r1⟩ := llAt (HC.out.on hbw.out) hkl
        obtain ⟨p2, c2, e2, r2⟩ := llAt (HC'.out.on hbw.out) hkl'
        have hlt := (HC.out.on hbw.out).lt
        have hlt' := (HC'.out.on hbw.out).lt
        have HH := Lib.hid (fun W (hb : Below wr.heap.size wr W) => Ids.same_any _ _ _ _ W (r1.on hb) (r2.on hb))
        obtain ⟨m, hm⟩ : ∃ m, m = (l.getD k []).length := ⟨_, rfl⟩
        obtain ⟨m', hm'⟩ : ∃ m, m = (l'.getD k []).length := ⟨_, rfl⟩
        rw [← hm, ← hm'] at HH
        rw [← hm] at e1
        rw [← hm'] at e2
        have HX := Lib.hid (fun W (hb : Below wr.heap.size wr W) => ((⟨(hb.cell (p := ⟨B, off + k, none⟩) hlt).trans e1, (hb.cell (p := ⟨B', off' + k, none⟩) hlt').trans e2⟩ : W.cell? ⟨B, off + k, none⟩ = some (.slice p1 m c1) ∧ W.cell? ⟨B', off' + k, none⟩ = some (.slice p2 m' c2))))
        have D0 := Lib.hid (Below.refl wr.heap.size wr)
        have HKL := Lib.hid hkl
        clear hd hd' r1 e1 hm hkl hlt r2 e2 hm' hlt' hkl'
        by_cases hin : l.getD k [] = l'.getD k []
        · rw [decide_eq_true hin] at HH
          have HE : Hid (∀ j, j < k + 1 → l.getD j [] = l'.getD j []) := Lib.hid fun j hj => by
            rcases Nat.lt_succ_iff_lt_or_eq.1 hj with h | h
            · exact hall.out j h
            · rw [h]; exact hin
          clear hin
          go_wp2_with fail
          go_region_held3 (fun w' => w'.cell? ⟨B, off + k, none⟩ = some (.slice p1 m c1) ∧ w'.cell? ⟨B', off' + k, none⟩ = some (.slice p2 m' c2))
            (first
              | exact HX.out _ D1.out
              | exact HX.out _ D0.out
              | exact HX.out _ D0.out.drew)
            (first
              | (go_at_call 28; (with_reducible refine (HH.out _ D0.out.drew).mono ?_); rintro e w1 ⟨rfl, hb⟩; have D1 := Lib.hid (D0.out.drew.trans (hb.mono D0.out.drew.size)); clear hb))
          go_wp2
          go_roundw
          case rel => exact ⟨k + 1, by omega, by go_num, Lib.hid (hbw.out.trans (D1.out.mono hbw.out.size)), HE⟩
          case measure => simp [intOf]; omega
        · rw [decide_eq_false hin] at HH
          have HE : Hid (decide (l = l') = false) := Lib.hid (decide_eq_false fun e => hin (by rw [e]))
          clear hin
          go_wp2_with fail
          go_region_held3 (fun w' => w'.cell? ⟨B, off + k, none⟩ = some (.slice p1 m c1) ∧ w'.cell? ⟨B', off' + k, none⟩ = some (.slice p2 m' c2))
            (first
              | exact HX.out _ D1.out
              | exact HX.out _ D0.out
              | exact HX.out _ D0.out.drew)
            (first
              | (go_at_call 28; (with_reducible refine (HH.out _ D0.out.drew).mono ?_); rintro e w1 ⟨rfl, hb⟩; have D1 := Lib.hid (D0.out.drew.trans (hb.mono D0.out.drew.size)); clear hb))
          go_wp2
          go_ret
          exact ⟨ret_bool HE.out.symm, hbw.out.trans (D1.out.mono hbw.out.size)⟩
      · have kn : ¬ (k : Int) < n := by omega
        have HE : Hid (decide (l = l') = true) := Lib.hid (decide_eq_true (ll_ext (by rw [← HN.out.1, ← HN.out.2]) fun j hj => hall.out j (by rw [← HN.out.1] at hj; omega)))
        clear hd hd'
        go_wp2
        go_ret
        exact ⟨ret_bool HE.out.symm, hbw.out⟩
  · have q1 : ((n : Int) != (n' : Int)) = true := by simp; omega
    have HE : Hid (decide (l = l') = false) := Lib.hid (decide_eq_false fun e => hnn (by rw [HN.out.1, HN.out.2, e]))
    clear hd hd'
    go_enter Tryz.func16, Tryz.ntmps16
    go_wp2
    go_ret
    exact ⟨ret_bool HE.out.symm, Below.refl _ _⟩
end Go.Proofs.YtlkndpofegemdaaGreat.Cps

/- What the document's Mutual gives (layer 17, comps). Conditions: the records lie in memory as their cells say; all Deps together are not more than 80000. (Written by tools/gen_cpsm.py.) -/
namespace Go.Proofs.YtlkndpofegemdaaGreat.Cps
open Go.RowKit Cmd Bat Ids Rec Wid Gra Rea
set_option linter.unusedVariables false
set_option linter.unusedSimpArgs false

theorem find_yes_ge {rs : List Rcd} {x : Idn} (h : x ∈ idsG rs) : decide (0 ≤ findG rs x) = true := by rw [find_ge]; exact decide_eq_true h
theorem find_no_ge {rs : List Rcd} {x : Idn} (h : x ∉ idsG rs) : decide (0 ≤ findG rs x) = false := by rw [find_ge]; exact decide_eq_false h
theorem one_row' (w : World) (x y : Int) : RowAt (w.alloc (.cells #[.int .i64 x, .int .i64 y] 43)) (.slice (some ⟨w.heap.size, 0, none⟩) 1 1) [(x, y)] := one_row w x y
theorem two_boxes (w : World) (a b c d : Int) : ((w.alloc (.cells #[.int .i64 a, .int .i64 b] 43)).alloc (.cells #[.int .i64 c, .int .i64 d] 43)).heap[w.heap.size]? = some (.cells #[.int .i64 a, .int .i64 b] 43 (0, 0)) ∧ ((w.alloc (.cells #[.int .i64 a, .int .i64 b] 43)).alloc (.cells #[.int .i64 c, .int .i64 d] 43)).heap[w.heap.size + 1]? = some (.cells #[.int .i64 c, .int .i64 d] 43 (0, 0)) := by
  have h := heap_alloc_new (w.alloc (.cells #[.int .i64 a, .int .i64 b] 43)) (.cells #[.int .i64 c, .int .i64 d] 43)
  rw [World.size_alloc] at h
  exact ⟨(Below.heap_alloc _ _ _ (by simp)).trans (heap_alloc_new w _), h⟩
end Go.Proofs.YtlkndpofegemdaaGreat.Cps
