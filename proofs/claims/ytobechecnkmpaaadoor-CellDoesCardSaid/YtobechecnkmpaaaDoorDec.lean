/- Plain facts on decimal numerals: their digits, what they are read as, where they are cut. No condition but those in each statement. -/
import Derived.Lib.ItoaMem
import Derived.Lib.ParseIntBCases
import Derived.Lib.IndexMore
import Derived.Lib.IndexLaws
namespace Go.Proofs.YtobechecnkmpaaaDoor.Dec
open Go.Lib

theorem dd_small {u : Nat} (h : u < 10) : decDigits u = [UInt8.ofNat (48 + u)] := by rw [decDigits, dif_pos h]
theorem dd_big {u : Nat} (h : ¬ u < 10) : decDigits u = decDigits (u / 10) ++ [UInt8.ofNat (48 + u % 10)] := by rw [decDigits, dif_neg h]
theorem dig_nat {d : Nat} (h : d < 10) : (UInt8.ofNat (48 + d)).toNat = 48 + d := by
  rw [UInt8.toNat_ofNat_of_lt']; show 48 + d < 256; omega

theorem dd_digit : ∀ (u : Nat), ∀ c ∈ decDigits u, 48 ≤ c.toNat ∧ c.toNat ≤ 57 := by
  intro u
  induction u using Nat.strongRecOn with
  | ind u ih =>
    intro c hc
    by_cases h : u < 10
    · rw [dd_small h] at hc
      simp only [List.mem_singleton] at hc
      subst hc; rw [dig_nat h]; omega
    · rw [dd_big h] at hc
      simp only [List.mem_append, List.mem_singleton] at hc
      rcases hc with hc | hc
      · exact ih (u / 10) (by omega) c hc
      · subst hc; rw [dig_nat (by omega)]; omega

theorem dd_ne (u : Nat) : decDigits u ≠ [] := by
  intro e
  have h1 := decDigits_length u
  have h2 := nDigits_pos u
  rw [e] at h1; simp at h1; omega

/-- A numeral of more than one digit begins with none that is 0. -/
theorem dd_head : ∀ (u : Nat), ∃ c r, decDigits u = c :: r ∧ (r ≠ [] → c.toNat ≠ 48) ∧ (1 ≤ u → c.toNat ≠ 48) ∧ 48 ≤ c.toNat ∧ c.toNat ≤ 57 := by
  intro u
  induction u using Nat.strongRecOn with
  | ind u ih =>
    by_cases h : u < 10
    · refine ⟨_, [], dd_small h, fun e => absurd rfl e, ?_, ?_⟩
      · intro h1; rw [dig_nat h]; omega
      · rw [dig_nat h]; omega
    · obtain ⟨c, r, e, h1, h2, h3⟩ := ih (u / 10) (by omega)
      refine ⟨c, r ++ [UInt8.ofNat (48 + u % 10)], ?_, fun _ => h2 (by omega), fun _ => h2 (by omega), h3⟩
      rw [dd_big h, e]; rfl

/-- What digits spell. -/
def spell (acc : Nat) (l : List UInt8) : Nat := l.foldl (fun a c => 10 * a + (c.toNat - 48)) acc
theorem spell_snoc (acc : Nat) (l : List UInt8) (c : UInt8) : spell acc (l ++ [c]) = 10 * spell acc l + (c.toNat - 48) := by unfold spell; rw [List.foldl_append]; rfl
theorem spell_dd : ∀ u : Nat, spell 0 (decDigits u) = u := by
  intro u
  induction u using Nat.strongRecOn with
  | ind u ih =>
    by_cases h : u < 10
    · rw [dd_small h]; unfold spell; simp only [List.foldl_cons, List.foldl_nil]; rw [dig_nat h]; omega
    · rw [dd_big h, spell_snoc, ih (u / 10) (by omega), dig_nat (by omega)]; omega

theorem pum_snoc (M : Nat) : ∀ (l : List UInt8) (acc v : Nat) (c : UInt8), parseUintM M acc l = .ok v → 48 ≤ c.toNat → c.toNat ≤ 57 → 10 * v + (c.toNat - 48) ≤ M → M ≤ 18446744073709551615 → parseUintM M acc (l ++ [c]) = .ok (10 * v + (c.toNat - 48))
  | [], acc, v, c, h, h1, h2, h3, h4 => by
    simp only [parseUintM] at h
    injection h with h; subst h
    simp only [List.nil_append, parseUintM]
    rw [if_pos ⟨h1, h2⟩, if_neg (by omega), if_neg (by omega)]
    congr 1; omega
  | x :: l, acc, v, c, h, h1, h2, h3, h4 => by
    simp only [List.cons_append, parseUintM] at h ⊢
    split at h
    · rename_i hx
      rw [if_pos hx]
      split at h
      · cases h
      · rename_i ha
        rw [if_neg ha]
        split at h
        · cases h
        · rename_i hb
          rw [if_neg hb]
          exact pum_snoc M l _ v c h h1 h2 h3 h4
    · cases h

theorem pum_dd (M : Nat) (hM : M ≤ 18446744073709551615) : ∀ u : Nat, u ≤ M → parseUintM M 0 (decDigits u) = .ok u := by
  intro u
  induction u using Nat.strongRecOn with
  | ind u ih =>
    intro hu
    by_cases h : u < 10
    · rw [dd_small h]
      have := pum_snoc M [] 0 0 (UInt8.ofNat (48 + u)) rfl (by rw [dig_nat h]; omega) (by rw [dig_nat h]; omega) (by rw [dig_nat h]; omega) hM
      rw [dig_nat h] at this
      simp only [List.nil_append] at this
      rw [this]; congr 1; omega
    · rw [dd_big h]
      rw [pum_snoc M _ 0 (u / 10) _ (ih (u / 10) (by omega) (by omega)) (by rw [dig_nat (by omega)]; omega) (by rw [dig_nat (by omega)]; omega) (by rw [dig_nat (by omega)]; omega) hM, dig_nat (by omega)]
      congr 1; omega

theorem pub_dd (B u : Nat) (hB : 2 ^ B - 1 ≤ 18446744073709551615) (h : u ≤ 2 ^ B - 1) : parseUintB B (decDigits u) = .ok u := by
  unfold parseUintB
  rw [if_neg (dd_ne u), pum_dd _ hB u h]

theorem pib_itoa (B : Nat) (n : Int) (hB : 2 ^ B - 1 ≤ 18446744073709551615) (hC : 2 ^ (B - 1) ≤ 2 ^ B - 1) (h0 : -((2 ^ (B - 1) : Nat) : Int) < n) (h1 : n < ((2 ^ (B - 1) : Nat) : Int)) : parseIntB B (itoa n) = .ok n := by
  by_cases hn : n < 0
  · obtain ⟨u, rfl⟩ : ∃ u : Nat, n = -(u : Int) := ⟨n.natAbs, by omega⟩
    rw [itoa_neg u (by omega), parseIntB_minus, pub_dd B u hB (by omega)]
    simp only [signedC]
    rw [if_neg (by omega)]
  · obtain ⟨u, rfl⟩ : ∃ u : Nat, n = (u : Int) := ⟨n.toNat, by omega⟩
    rw [itoa_nonneg]
    obtain ⟨c, r, e, _, _, h3, h4⟩ := dd_head u
    rw [e, parseIntB_plain B c r (by omega) (by omega), ← e, pub_dd B u hB (by omega)]
    simp only [signlessC]
    rw [if_neg (by omega)]
theorem pib64 (n : Int) (h0 : -9223372036854775808 < n) (h1 : n < 9223372036854775808) : parseIntB 64 (itoa n) = .ok n := by
  have e : (2 : Nat) ^ (64 - 1) = 9223372036854775808 := by decide
  have e' : (2 : Nat) ^ 64 = 18446744073709551616 := by decide
  exact pib_itoa 64 n (by rw [e']; omega) (by rw [e, e']; omega) (by rw [e]; omega) (by rw [e]; omega)
theorem pib16 (n : Int) (h0 : -32768 < n) (h1 : n < 32768) : parseIntB 16 (itoa n) = .ok n := by
  have e : (2 : Nat) ^ (16 - 1) = 32768 := by decide
  have e' : (2 : Nat) ^ 16 = 65536 := by decide
  exact pib_itoa 16 n (by rw [e']; omega) (by rw [e, e']; omega) (by rw [e]; omega) (by rw [e]; omega)

theorem itoa_no_p (n : Int) : ∀ c ∈ itoa n, c.toNat ≠ 112 := by
  intro c hc
  unfold itoa at hc
  split at hc
  · simp only [List.mem_cons] at hc
    rcases hc with hc | hc
    · subst hc; decide
    · have := dd_digit _ c hc; omega
  · have := dd_digit _ c hc; omega

theorem index_p (l r : List UInt8) (h : ∀ c ∈ l, c.toNat ≠ 112) : index (l ++ 112 :: r) [112] = l.length := by
  refine index_hit (i := l.length) ?_ (by simp) ?_
  · intro j hj
    unfold occAt
    have e : (l ++ 112 :: r).drop j = l[j] :: (l ++ 112 :: r).drop (j + 1) := by
      rw [List.drop_eq_getElem_cons (by simp; omega), List.getElem_append_left hj]
    rw [e]
    have hne : ((112 : UInt8) == l[j]) = false := by
      rw [beq_eq_false_iff_ne]; intro e2
      exact h l[j] (List.getElem_mem hj) (by rw [← e2]; rfl)
    simp [List.isPrefixOf, hne]
  · unfold occAt
    rw [List.drop_left]
    simp [List.isPrefixOf]
theorem cut_p (l r : List UInt8) (h : ∀ c ∈ l, c.toNat ≠ 112) : Lib.cut (l ++ 112 :: r) [112] = (l, r, true) := by
  unfold Lib.cut
  rw [index_p l r h, if_pos (by omega)]
  simp only [Int.toNat_natCast, List.length_cons, List.length_nil]
  rw [List.take_left' rfl, show (0 : Nat) + 1 = 1 by omega, List.drop_append]
  simp

theorem pair_inj {m e m' e' : Int} (h : itoa m ++ 112 :: itoa e = itoa m' ++ 112 :: itoa e') (hm : -9223372036854775808 < m) (hm2 : m < 9223372036854775808) (he : -32768 < e) (he2 : e < 32768)
    (hm' : -9223372036854775808 < m') (hm2' : m' < 9223372036854775808) (he' : -32768 < e') (he2' : e' < 32768) : m = m' ∧ e = e' := by
  have h1 := cut_p (itoa m) (itoa e) (itoa_no_p m)
  rw [h, cut_p _ _ (itoa_no_p m')] at h1
  injection h1 with h2 h3
  injection h3 with h3 _
  have a1 := pib64 m hm hm2
  rw [← h2, pib64 m' hm' hm2'] at a1
  have a2 := pib16 e he he2
  rw [← h3, pib16 e' he' he2'] at a2
  injection a1 with a1
  injection a2 with a2
  exact ⟨a1.symm, a2.symm⟩

theorem nd_le {k u : Nat} (hk : 1 ≤ k) (h : u < 10 ^ k) : nDigits u ≤ k := by
  by_cases h1 : nDigits u ≤ k
  · exact h1
  · exfalso
    have h2 : ∀ k u, 1 ≤ k → u < 10 ^ k → nDigits u ≤ k := by
      intro k
      induction k with
      | zero => intro u h; omega
      | succ k ih =>
        intro u _ hu
        by_cases h10 : u < 10
        · rw [nDigits_small h10]; omega
        · rw [nDigits_big h10]
          have : u / 10 < 10 ^ k := by rw [Nat.pow_succ] at hu; omega
          have hk1 : 1 ≤ k := by
            rcases Nat.eq_zero_or_pos k with h0 | h0
            · subst h0; simp at this; omega
            · exact h0
          have := ih (u / 10) hk1 this
          omega
    exact h1 (h2 k u hk h)
theorem itoa_len {k : Nat} {n : Int} (hk : 1 ≤ k) (h : n.natAbs < 10 ^ k) : (itoa n).length ≤ k + 1 := by
  unfold itoa
  split
  · rw [List.length_cons, decDigits_length]
    have := nd_le hk h; omega
  · rw [decDigits_length]
    have := nd_le (u := n.toNat) hk (by omega); omega
theorem itoa_pos_len {k : Nat} {n : Int} (hn : 0 ≤ n) (hk : 1 ≤ k) (h : n.natAbs < 10 ^ k) : (itoa n).length ≤ k := by
  unfold itoa
  rw [if_neg (by omega), decDigits_length]
  exact nd_le (u := n.toNat) hk (by omega)
theorem itoa_head_neg {n : Int} (h : n < 0) : itoa n = 45 :: itoa (-n) := by
  obtain ⟨u, rfl⟩ : ∃ u : Nat, n = -(u : Int) := ⟨n.natAbs, by omega⟩
  rw [itoa_neg u (by omega), Int.neg_neg, itoa_nonneg]
/-- How a number's digits go on: of numbers below -9, and above 9. -/
theorem itoa_lo {n : Int} (h : n < -9) : itoa n = itoa (n.tdiv 10) ++ itoa (-(n.tmod 10)) := by
  obtain ⟨u, rfl⟩ : ∃ u : Nat, n = -(u : Int) := ⟨n.natAbs, by omega⟩
  have e1 : (-(u : Int)).tdiv 10 = -((u / 10 : Nat) : Int) := by rw [Int.neg_tdiv]; rfl
  have e2 : (-(u : Int)).tmod 10 = -((u % 10 : Nat) : Int) := by rw [Int.neg_tmod]; rfl
  rw [e1, e2, Int.neg_neg, itoa_neg u (by omega), itoa_neg (u / 10) (by omega), itoa_nonneg, dd_big (by omega), dd_small (u := u % 10) (by omega)]
  rfl
theorem itoa_hi {n : Int} (h : 9 < n) : itoa n = itoa (n / 10) ++ [UInt8.ofNat (48 + (n % 10).toNat)] := by
  obtain ⟨u, rfl⟩ : ∃ u : Nat, n = (u : Int) := ⟨n.toNat, by omega⟩
  have e1 : (u : Int) / 10 = ((u / 10 : Nat) : Int) := by omega
  have e2 : ((u : Int) % 10).toNat = u % 10 := by omega
  rw [e1, e2, itoa_nonneg, itoa_nonneg, dd_big (by omega)]
theorem itoa_one {n : Int} (h0 : 0 ≤ n) (h : n < 10) : itoa n = [UInt8.ofNat (48 + n.toNat)] := by
  obtain ⟨u, rfl⟩ : ∃ u : Nat, n = (u : Int) := ⟨n.toNat, by omega⟩
  rw [itoa_nonneg, dd_small (by omega)]; rfl
end Go.Proofs.YtobechecnkmpaaaDoor.Dec
