/- The first two that lack an edge (layer 20, premise), plain: what Holds has to tell, as a relation that has one answer at most. No condition but those in each statement. -/
import Derived.Test.YtomidcbpnaajeaaGreatPreA
namespace Go.Proofs.YtomidcbpnaajeaaGreat.Pre
open Go.RowKit Cmd Bat Ids Rec Wid Gra
set_option linter.unusedVariables false
set_option linter.unusedSimpArgs false

/-- The record of an id that is there. -/
def rcG (rs : List Rcd) (x : Idn) : Rcd := layG.at rs (findG rs x).toNat
/-- Do the i-th and the k-th id, in order, lack an edge? -/
def lackAt (rs : List Rcd) (i k : Nat) : Bool := lackR (rcG rs (nth (gIds rs) i)) (rcG rs (nth (gIds rs) k))
/-- What Holds tells. -/
def Hlds (rs : List Rcd) (x y : Idn) (ok : Bool) : Prop :=
  (ok = true ∧ x = (0, 0) ∧ y = (0, 0) ∧ ∀ i k, i < k → k < (gIds rs).length → lackAt rs i k = false) ∨
  (ok = false ∧ ∃ i k, i < k ∧ k < (gIds rs).length ∧ lackAt rs i k = true ∧ x = nth (gIds rs) i ∧ y = nth (gIds rs) k ∧ (∀ j m, j < m → m < (gIds rs).length → j < i ∨ (j = i ∧ m < k) → lackAt rs j m = false))
theorem hlds_one {rs : List Rcd} {x y x' y' : Idn} {ok ok' : Bool} (h : Hlds rs x y ok) (h' : Hlds rs x' y' ok') : x = x' ∧ y = y' ∧ ok = ok' := by
  rcases h with ⟨e, e1, e2, h⟩ | ⟨e, i, k, h1, h2, h3, e1, e2, h⟩ <;> rcases h' with ⟨e', e1', e2', h'⟩ | ⟨e', i', k', h1', h2', h3', e1', e2', h'⟩
  · exact ⟨e1.trans e1'.symm, e2.trans e2'.symm, e.trans e'.symm⟩
  · exact absurd ((h _ _ h1' h2').symm.trans h3') (by decide)
  · exact absurd ((h' _ _ h1 h2).symm.trans h3) (by decide)
  · have hij : i = i' ∧ k = k' := by
      by_cases a : i < i'
      · exact absurd ((h' _ _ h1 h2 (.inl a)).symm.trans h3) (by decide)
      · by_cases b : i' < i
        · exact absurd ((h _ _ h1' h2' (.inl b)).symm.trans h3') (by decide)
        · have : i = i' := by omega
          subst this
          by_cases c : k < k'
          · exact absurd ((h' _ _ h1 h2 (.inr ⟨rfl, c⟩)).symm.trans h3) (by decide)
          · by_cases d : k' < k
            · exact absurd ((h _ _ h1' h2' (.inr ⟨rfl, d⟩)).symm.trans h3') (by decide)
            · exact ⟨rfl, by omega⟩
    obtain ⟨rfl, rfl⟩ := hij
    exact ⟨e1.trans e1'.symm, e2.trans e2'.symm, e.trans e'.symm⟩
/-- So far none lacks: of the first i all, of the i-th the first k. -/
def Nolack (rs : List Rcd) (i k : Nat) : Prop := ∀ j m, j < m → m < (gIds rs).length → j < i ∨ (j = i ∧ m < k) → lackAt rs j m = false
theorem Nolack.zero (rs : List Rcd) : Nolack rs 0 0 := fun j m h1 h2 h => by omega
theorem Nolack.first {rs : List Rcd} {i : Nat} (h : Nolack rs i 0) : Nolack rs i (i + 1) := fun j m h1 h2 h' => by
  rcases h' with h' | ⟨rfl, h'⟩
  · exact h j m h1 h2 (.inl h')
  · omega
theorem Nolack.step {rs : List Rcd} {i k : Nat} (h : Nolack rs i k) (hl : lackAt rs i k = false) : Nolack rs i (k + 1) := fun j m h1 h2 h' => by
  by_cases e : j = i ∧ m = k
  · rw [e.1, e.2]; exact hl
  · exact h j m h1 h2 (by omega)
theorem Nolack.next {rs : List Rcd} {i k : Nat} (h : Nolack rs i k) (hk : (gIds rs).length ≤ k) : Nolack rs (i + 1) 0 := fun j m h1 h2 h' => h j m h1 h2 (by omega)
theorem Nolack.end {rs : List Rcd} {i : Nat} (h : Nolack rs i 0) (hi : (gIds rs).length ≤ i) : Hlds rs (0, 0) (0, 0) true := .inl ⟨rfl, rfl, rfl, fun j m h1 h2 => h j m h1 h2 (by omega)⟩
theorem Nolack.found {rs : List Rcd} {i k : Nat} (h : Nolack rs i k) (h1 : i < k) (h2 : k < (gIds rs).length) (hl : lackAt rs i k = true) : Hlds rs (nth (gIds rs) i) (nth (gIds rs) k) false := .inr ⟨rfl, i, k, h1, h2, hl, rfl, rfl, h⟩
/-- An id that is there has a record. -/
theorem find_in {rs : List Rcd} {x : Idn} (h : x ∈ idsG rs) : ∃ k, k < rs.length ∧ findG rs x = k ∧ (layG.at rs k).1 = x := by
  unfold findG
  cases e : (List.range rs.length).find? (fun j => decide ((layG.at rs j).1 = x)) with
  | some j =>
    have h1 := List.find?_some e
    have h2 := List.mem_of_find?_eq_some e
    exact ⟨j, List.mem_range.1 h2, rfl, of_decide_eq_true h1⟩
  | none =>
    obtain ⟨j, hj, e'⟩ := mem_ids.1 h
    have := List.find?_eq_none.1 e j (List.mem_range.2 hj)
    exact absurd (decide_eq_true e') this
end Go.Proofs.YtomidcbpnaajeaaGreat.Pre
