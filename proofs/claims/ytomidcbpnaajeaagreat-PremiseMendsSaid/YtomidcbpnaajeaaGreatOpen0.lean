/- Arguments opened: a slice of structs as the list of what its elements hold, with what they read as, and what the reach says of the texts in them. No condition but those in each statement. -/
import Derived.Test.YtomidcbpnaajeaaGreatStay
import Derived.Deep.Slices
import Derived.Deep.Strs
import Derived.Lib.SmallJoins
import Derived.SizedLaws
namespace Go.Proofs.YtomidcbpnaajeaaGreat
open Go.ChangeShapes Go.WideShapes Go.ChangeAt Go.RowKit

theorem choose_list {α : Type} (d : α) : ∀ (n : Nat) (p : Nat → α → Prop), (∀ i, i < n → ∃ x, p i x) → ∃ l : List α, l.length = n ∧ ∀ i, i < n → p i (l.getD i d)
  | 0, _, _ => ⟨[], rfl, fun i hi => absurd hi (Nat.not_lt_zero i)⟩
  | n + 1, p, h => by
    obtain ⟨x, hx⟩ := h 0 (Nat.succ_pos n)
    obtain ⟨l, h1, h2⟩ := choose_list d n (fun i => p (i + 1)) fun i hi => h (i + 1) (Nat.succ_lt_succ hi)
    refine ⟨x :: l, by rw [List.length_cons, h1], fun i hi => ?_⟩
    cases i with
    | zero => exact hx
    | succ i => exact h2 i (Nat.lt_of_succ_lt_succ hi)

theorem trod_float {H : Type} {enc : TypeId × Value → H} {P : Program} {w : World} {base : Nat} {spare : Nat → Bool} {held : Bool} {fuel : Nat} {t : TypeId} {cs : List Value} {x : DataW H × List MemPlace} {k : FloatKind} (ht : P.underlying t = some (.float k)) (h : DataW.trod enc P w base spare held fuel t cs = some x) : ∃ b, cs = [.float k b] ∧ x = (.lit (.float k b), []) ∧ (Lit.float k b).wf = true := by
  cases fuel with
  | zero => simp [DataW.trod] at h
  | succ n =>
    unfold DataW.trod at h
    rw [ht] at h
    split at h <;> simp_all
section
variable {H : Type} {enc : TypeId × Value → H} {P : Program} {w : World} {base : Nat} {spare : Nat → Bool} {held : Bool}
/-- A slice of elements of c cells each, of which each reads: it is empty, or lies in memory, its elements' cells, and what they read as, as p says. -/
theorem open_rowsD {t e : TypeId} {c : Nat} (ht : P.underlying t = some (.slice e)) (hC : P.cellsOf e = c) (hc : 0 < c) {a : Option Addr} {len cap : Nat} {d : DataW H} {ps : List MemPlace} (h : DataW.Trod enc P w base spare held t (.slice a len cap) d ps)
    (p : List Value → DataW H → Prop) (hp : ∀ n cs y, DataW.trod enc P w base spare held n e cs = some y → p cs y.1) :
    len ≤ cap ∧ cap ≤ maxLen ∧ (0 < len → ∃ b off, a = some ⟨b, off, none⟩ ∧ b < w.heap.size ∧ ∃ elems rest, d = .slice elems rest ∧ ∀ i, i < len → ∃ cs D, D ∈ elems ∧ p cs D ∧ ∀ j, j < c → w.cell? ⟨b, off + i * c + j, none⟩ = cs[j]?) := by
  obtain ⟨fuel, h⟩ := h
  have hcs : (Value.slice a len cap).cells.toList = [.slice a len cap] := rfl
  rw [hcs] at h
  rcases Go.Deep.open_slice ht h with ⟨h0, -⟩ | ⟨a', len', cap', m, n, D, Pl, h0, hb, hl, hm, hmm, hd, hall⟩
  · simp only [List.cons.injEq, and_true] at h0
    cases h0
    exact ⟨Nat.le_refl _, by unfold maxLen; omega, fun h => absurd h (Nat.lt_irrefl 0)⟩
  · simp only [List.cons.injEq, and_true] at h0
    cases h0
    refine ⟨hl, hm, fun hpos => ?_⟩
    have hlm : len ≤ m := by rw [hmm]; split <;> omega
    rw [hC] at hall
    have key : ∀ i, i < len → ∃ cs, cs.length = c ∧ p cs (D i) ∧ ∀ j, j < c → w.cell? ((a'.add (i * c)).add j) = cs[j]? := fun i hi => by
      obtain ⟨cs, h1, h2⟩ := hall i (by omega)
      obtain ⟨-, h3, h4⟩ := World.cells?_some h1
      exact ⟨cs, h3, hp _ _ _ h2, h4⟩
    obtain ⟨cs, h1, -, h3⟩ := key 0 hpos
    have h4 := h3 0 hc
    have h5 : cs[0]? = some (cs[0]'(by omega)) := List.getElem?_eq_getElem (by omega)
    rw [h5] at h4
    have ha : (a'.add (0 * c)).add 0 = a' := by simp [Addr.add]
    rw [ha] at h4
    have hs := World.cell?_spot h4
    obtain ⟨b, off, sp⟩ := a'
    simp only at hs
    subst hs
    have hd2 : d = .slice ((List.range len).map D) ((List.range (m - len)).map fun j => D (len + j)) := congrArg Prod.fst hd
    refine ⟨b, off, rfl, World.block_lt_of_cell? _ _ h4, _, _, hd2, fun i hi => ?_⟩
    obtain ⟨cs, -, h6, h7⟩ := key i hi
    refine ⟨cs, D i, List.mem_map.2 ⟨i, List.mem_range.2 hi, rfl⟩, h6, fun j hj => ?_⟩
    have := h7 j hj
    rw [Addr.add_lit, Addr.add_lit] at this
    exact this
theorem weightsAll_mem {e : TypeId} {D : DataW H} {k : Nat} (hk : k ∈ D.weights P e) : ∀ {l : List (DataW H)}, D ∈ l → k ∈ DataW.weightsAll P e l
  | [], h => by cases h
  | d :: r, h => by
    simp only [DataW.weightsAll, List.mem_append]
    rcases List.mem_cons.1 h with rfl | h
    · exact .inl hk
    · exact .inr (weightsAll_mem hk h)
/-- What the reach says of an element of a slice that is an argument. -/
theorem sized_elem {ts : List TypeId} {ds : List (DataW H)} (h : (DataW.weightsEach P ts ds).all (· ≤ reachBytes) = true) {j : Nat} {t e : TypeId} {elems rest : List (DataW H)} (ht : ts[j]? = some t) (hd : ds[j]? = some (.slice elems rest)) (hu : P.underlying t = some (.slice e))
    {D : DataW H} (hD : D ∈ elems) {k : Nat} (hk : k ∈ D.weights P e) : k ≤ reachBytes := by
  have := List.all_eq_true.1 h _ (DataW.weights_mem_each ht hd k (by simp only [DataW.weights, hu, List.mem_cons, List.mem_append]; exact .inr (.inl (weightsAll_mem hk hD))))
  simpa using this
/-- What reads as a slice of elements of c cells each: it is empty, or lies in memory, its elements' cells, and what they read as, as p says. -/
theorem slice_reads {t e : TypeId} {c : Nat} (ht : P.underlying t = some (.slice e)) (hC : P.cellsOf e = c) (hc : 0 < c) {fuel : Nat} {v : Value} {y : DataW H × List MemPlace} (h : DataW.trod enc P w base spare held fuel t [v] = some y)
    (p : List Value → DataW H → Prop) (hp : ∀ n cs y, DataW.trod enc P w base spare held n e cs = some y → p cs y.1) :
    ∃ a len cap, v = .slice a len cap ∧ len ≤ cap ∧ cap ≤ maxLen ∧ (a = none → cap = 0) ∧ (0 < len → ∃ b off, a = some ⟨b, off, none⟩ ∧ b < w.heap.size ∧ ∃ elems rest, y.1 = .slice elems rest ∧ ∀ i, i < len → ∃ cs D, D ∈ elems ∧ p cs D ∧ ∀ j, j < c → w.cell? ⟨b, off + i * c + j, none⟩ = cs[j]?) := by
  rcases Go.Deep.open_slice ht h with ⟨h0, -⟩ | ⟨a', len', cap', m, n, D, Pl, h0, hb, hl, hm, hmm, hd, hall⟩
  · simp only [List.cons.injEq, and_true] at h0
    subst h0
    exact ⟨none, 0, 0, rfl, Nat.le_refl _, by unfold maxLen; omega, fun _ => rfl, fun h => absurd h (Nat.lt_irrefl 0)⟩
  · simp only [List.cons.injEq, and_true] at h0
    subst h0
    refine ⟨some a', len', cap', rfl, hl, hm, (fun e => by cases e), fun hpos => ?_⟩
    have hlm : len' ≤ m := by rw [hmm]; split <;> omega
    rw [hC] at hall
    have key : ∀ i, i < len' → ∃ cs, cs.length = c ∧ p cs (D i) ∧ ∀ j, j < c → w.cell? ((a'.add (i * c)).add j) = cs[j]? := fun i hi => by
      obtain ⟨cs, h1, h2⟩ := hall i (by omega)
      obtain ⟨-, h3, h4⟩ := World.cells?_some h1
      exact ⟨cs, h3, hp _ _ _ h2, h4⟩
    obtain ⟨cs, h1, -, h3⟩ := key 0 hpos
    have h4 := h3 0 hc
    have h5 : cs[0]? = some (cs[0]'(by omega)) := List.getElem?_eq_getElem (by omega)
    rw [h5] at h4
    have ha : (a'.add (0 * c)).add 0 = a' := by simp [Addr.add]
    rw [ha] at h4
    have hs := World.cell?_spot h4
    obtain ⟨b, off, sp⟩ := a'
    simp only at hs
    subst hs
    have hd2 : y.1 = .slice ((List.range len').map D) ((List.range (m - len')).map fun j => D (len' + j)) := congrArg Prod.fst hd
    refine ⟨b, off, rfl, World.block_lt_of_cell? _ _ h4, _, _, hd2, fun i hi => ?_⟩
    obtain ⟨cs, -, h6, h7⟩ := key i hi
    refine ⟨cs, D i, List.mem_map.2 ⟨i, List.mem_range.2 hi, rfl⟩, h6, fun j hj => ?_⟩
    have := h7 j hj
    rw [Addr.add_lit, Addr.add_lit] at this
    exact this
/-- What the reach says of all that an argument holds. -/
theorem sized_all {ts : List TypeId} {ds : List (DataW H)} (h : (DataW.weightsEach P ts ds).all (· ≤ reachBytes) = true) {j : Nat} {t : TypeId} {d : DataW H} (ht : ts[j]? = some t) (hd : ds[j]? = some d) : ∀ k ∈ d.weights P t, k ≤ reachBytes := fun k hk => by
  have := List.all_eq_true.1 h _ (DataW.weights_mem_each ht hd k hk)
  simpa using this
theorem sized_in {t e : TypeId} {elems rest : List (DataW H)} (hu : P.underlying t = some (.slice e)) (h : ∀ k ∈ (DataW.slice elems rest : DataW H).weights P t, k ≤ reachBytes) {D : DataW H} (hD : D ∈ elems) : ∀ k ∈ D.weights P e, k ≤ reachBytes := fun k hk =>
  h k (by simp only [DataW.weights, hu, List.mem_cons, List.mem_append]; exact .inr (.inl (weightsAll_mem hk hD)))
end
end Go.Proofs.YtomidcbpnaajeaaGreat
