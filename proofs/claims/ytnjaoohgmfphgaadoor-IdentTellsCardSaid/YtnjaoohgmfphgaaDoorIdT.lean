/- Plain facts on ids' texts: two numerals and a point between; how long they are; where they are cut; that they are read back; that two ids that may be have different ones. No condition but those in each statement. -/
import Derived.Test.YtnjaoohgmfphgaaDoorIdA
import Derived.Test.YtnjaoohgmfphgaaDoorDec
import Derived.Lib.Atoi
namespace Go.Proofs.YtnjaoohgmfphgaaDoor
open Go.Lib
set_option linter.unusedVariables false

def idText (x : Idn) : List UInt8 := itoa x.1 ++ 46 :: itoa x.2

theorem itoa_no_dot (n : Int) : ∀ c ∈ itoa n, c.toNat ≠ 46 := by
  intro c hc
  unfold itoa at hc
  split at hc
  · simp only [List.mem_cons] at hc
    rcases hc with hc | hc
    · subst hc; decide
    · have := Dec.dd_digit _ c hc; omega
  · have := Dec.dd_digit _ c hc; omega
theorem index_dot (l r : List UInt8) (h : ∀ c ∈ l, c.toNat ≠ 46) : index (l ++ 46 :: r) [46] = l.length := by
  refine index_hit (i := l.length) ?_ (by simp) ?_
  · intro j hj
    unfold occAt
    have e : (l ++ 46 :: r).drop j = l[j] :: (l ++ 46 :: r).drop (j + 1) := by
      rw [List.drop_eq_getElem_cons (by simp; omega), List.getElem_append_left hj]
    rw [e]
    have hne : ((46 : UInt8) == l[j]) = false := by
      rw [beq_eq_false_iff_ne]; intro e2
      exact h l[j] (List.getElem_mem hj) (by rw [← e2]; rfl)
    simp [List.isPrefixOf, hne]
  · unfold occAt
    rw [List.drop_left]
    simp [List.isPrefixOf]
theorem cut_dot (l r : List UInt8) (h : ∀ c ∈ l, c.toNat ≠ 46) : Lib.cut (l ++ 46 :: r) [46] = (l, r, true) := by
  unfold Lib.cut
  rw [index_dot l r h, if_pos (by omega)]
  simp only [Int.toNat_natCast, List.length_cons, List.length_nil]
  rw [List.take_left' rfl, show (0 : Nat) + 1 = 1 by omega, List.drop_append]
  simp

theorem decFrom_snoc : ∀ (l : List UInt8) (acc v d : Nat) (c : UInt8), decFrom acc l = some v → digitVal c = some d → decFrom acc (l ++ [c]) = some (v * 10 + d)
  | [], acc, v, d, c, h, hc => by
    simp only [decFrom] at h
    injection h with h; subst h
    simp [decFrom, hc]
  | x :: l, acc, v, d, c, h, hc => by
    simp only [List.cons_append, decFrom] at h ⊢
    cases hx : digitVal x with
    | none => rw [hx] at h; cases h
    | some y => rw [hx] at h; exact decFrom_snoc l _ v d c h hc
theorem digit_val {d : Nat} (h : d < 10) : digitVal (UInt8.ofNat (48 + d)) = some d := by
  unfold digitVal
  rw [Dec.dig_nat h, if_pos (by omega)]; congr 1; omega
theorem decFrom_dd (u : Nat) : decFrom 0 (decDigits u) = some u := by
  induction u using Nat.strongRecOn with
  | ind u ih =>
    by_cases h : u < 10
    · rw [Dec.dd_small h]; unfold decFrom; rw [digit_val h]; simp only [decFrom]; congr 1; omega
    · rw [Dec.dd_big h, decFrom_snoc _ _ _ _ _ (ih (u / 10) (by omega)) (digit_val (by omega))]
      congr 1; omega
theorem atoi_itoa {n : Int} (h : 0 ≤ n) : atoi (itoa n) = some n := by
  obtain ⟨u, rfl⟩ : ∃ u : Nat, n = (u : Int) := ⟨n.toNat, by omega⟩
  rw [itoa_nonneg]
  obtain ⟨c, r, e, _, _, h3, h4⟩ := Dec.dd_head u
  have hd : decNat (decDigits u) = some u := by
    unfold decNat
    rw [e]; simp only [List.isEmpty_cons, Bool.false_eq_true, if_false]
    rw [← e]; exact decFrom_dd u
  rw [e]
  unfold atoi
  have b1 : (c == 45) = false := by rw [beq_eq_false_iff_ne]; intro e2; rw [e2] at h3; exact absurd h3 (by decide)
  have b2 : (c == 43) = false := by rw [beq_eq_false_iff_ne]; intro e2; rw [e2] at h3; exact absurd h3 (by decide)
  simp only [b1, b2, Bool.false_eq_true, if_false]
  rw [← e, hd]; rfl

/-- What an id that may be is made of. -/
theorem right_parts {x : Idn} (h : idRight x = true) : 0 ≤ x.1 ∧ x.1 < 8 ∧ 1 ≤ x.2 ∧ x.2 ≤ 1048576 := by
  unfold idRight at h; rwa [decide_eq_true_eq] at h
theorem text_head {x : Idn} (h : idRight x = true) : idText x = UInt8.ofNat (48 + x.1.toNat) :: 46 :: itoa x.2 := by
  have hp := right_parts h
  unfold idText
  rw [Dec.itoa_one hp.1 (by omega)]; rfl
theorem slot_len {n : Int} (h1 : 1 ≤ n) (h2 : n ≤ 1048576) : 1 ≤ (itoa n).length ∧ (itoa n).length ≤ 7 := by
  constructor
  · obtain ⟨u, rfl⟩ : ∃ u : Nat, n = (u : Int) := ⟨n.toNat, by omega⟩
    rw [itoa_nonneg, decDigits_length]; exact nDigits_pos u
  · exact Dec.itoa_pos_len (by omega) (by omega) (by rw [show (10 : Nat) ^ 7 = 10000000 by decide]; omega)
theorem text_len {x : Idn} (h : idRight x = true) : 3 ≤ (idText x).length ∧ (idText x).length ≤ 9 := by
  have hp := right_parts h
  have := slot_len hp.2.2.1 hp.2.2.2
  rw [text_head h, List.length_cons, List.length_cons]; omega
theorem text_cut (x : Idn) : Lib.cut (idText x) [46] = (itoa x.1, itoa x.2, true) := cut_dot _ _ (itoa_no_dot _)
theorem text_inj {x y : Idn} (hx : idRight x = true) (hy : idRight y = true) (h : idText x = idText y) : x = y := by
  have hp := right_parts hx
  have hq := right_parts hy
  have h1 := text_cut x
  rw [h, text_cut y] at h1
  injection h1 with h2 h3
  injection h3 with h3 _
  have a1 := atoi_itoa (n := x.1) (by omega)
  rw [← h2, atoi_itoa (by omega)] at a1
  have a2 := atoi_itoa (n := x.2) (by omega)
  rw [← h3, atoi_itoa (by omega)] at a2
  injection a1 with a1
  injection a2 with a2
  exact Prod.ext a1.symm a2.symm

/-! ### What the document's Read spells -/
def spellI (l : List UInt8) : Int := ((Dec.spell 0 l : Nat) : Int)
theorem spell_itoa {n : Int} (h : 0 ≤ n) : Dec.spell 0 (itoa n) = n.toNat := by
  obtain ⟨u, rfl⟩ : ∃ u : Nat, n = (u : Int) := ⟨n.toNat, by omega⟩
  rw [itoa_nonneg, Dec.spell_dd]; rfl
theorem itoa_digits {n : Int} (h : 0 ≤ n) : ∀ c ∈ itoa n, 48 ≤ c.toNat ∧ c.toNat ≤ 57 := by
  obtain ⟨u, rfl⟩ : ∃ u : Nat, n = (u : Int) := ⟨n.toNat, by omega⟩
  rw [itoa_nonneg]; exact Dec.dd_digit u
theorem spell_lt : ∀ (l : List UInt8), (∀ c ∈ l, c.toNat ≤ 57) → Dec.spell 0 l < 10 ^ l.length := by
  intro l
  have : ∀ (l : List UInt8) (acc : Nat), (∀ c ∈ l, c.toNat ≤ 57) → Dec.spell acc l < (acc + 1) * 10 ^ l.length := by
    intro l
    induction l with
    | nil => intro acc _; simp [Dec.spell]
    | cons c l ih =>
      intro acc h
      have h1 := ih (10 * acc + (c.toNat - 48)) fun d hd => h d (List.mem_cons_of_mem _ hd)
      have h2 := h c (by simp)
      have e : Dec.spell acc (c :: l) = Dec.spell (10 * acc + (c.toNat - 48)) l := rfl
      rw [e, List.length_cons, Nat.pow_succ, Nat.mul_comm (10 ^ l.length), ← Nat.mul_assoc]
      refine Nat.lt_of_lt_of_le h1 (Nat.mul_le_mul_right _ (by omega))
  intro h
  have := this l 0 h
  simpa using this
theorem itoa_two : itoa 2 = [50] := by rw [Dec.itoa_one (by omega) (by omega)]; rfl
theorem text_217 : idText (2, 17) = [50, 46, 49, 55] := by
  unfold idText
  rw [itoa_two]
  have e : itoa (17 : Int) = [49, 55] := by
    rw [Dec.itoa_hi (by omega)]
    rw [show (17 : Int) / 10 = 1 by decide, show ((17 : Int) % 10).toNat = 7 by decide, Dec.itoa_one (by omega) (by omega)]; rfl
  show [50] ++ 46 :: itoa 17 = _
  rw [e]; rfl
end Go.Proofs.YtnjaoohgmfphgaaDoor
