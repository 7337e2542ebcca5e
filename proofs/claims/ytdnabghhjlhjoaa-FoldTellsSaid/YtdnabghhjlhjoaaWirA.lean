/- Plain facts on the bytes of a number (layer 9, wire): seven bits a byte, the lowest first; eight bytes, the highest first. No condition but those in each statement. -/
import Derived.Test.YtdnabghhjlhjoaaChecked
namespace Go.Proofs.Ytdnabghhjlhjoaa.Wir
set_option linter.unusedVariables false

/-! ### Bytes -/
theorem ofNat_toNat (n : Nat) : (UInt8.ofNat n).toNat = n % 256 := by simp
theorem byte_lt (c : UInt8) : c.toNat < 256 := c.toNat_lt
theorem byte_eq {a b : UInt8} (h : a.toNat = b.toNat) : a = b := UInt8.toNat_inj.1 h

/-! ### A number's bytes, seven bits each -/
def enc (n : Nat) : List UInt8 := if n < 128 then [UInt8.ofNat n] else UInt8.ofNat (n % 128 + 128) :: enc (n / 128)
termination_by n
decreasing_by omega
theorem enc_small {n : Nat} (h : n < 128) : enc n = [UInt8.ofNat n] := by rw [enc, if_pos h]
theorem enc_more {n : Nat} (h : ¬ n < 128) : enc n = UInt8.ofNat (n % 128 + 128) :: enc (n / 128) := by rw [enc, if_neg h]
theorem enc_len_le : ∀ (k : Nat) {n : Nat}, n < 128 ^ (k + 1) → (enc n).length ≤ k + 1
  | 0, n, h => by rw [enc_small (by simpa using h)]; simp
  | k + 1, n, h => by
    by_cases hn : n < 128
    · rw [enc_small hn]; simp
    · rw [enc_more hn, List.length_cons]
      have := enc_len_le k (n := n / 128) (by rw [Nat.pow_succ] at h; omega)
      omega
theorem enc_len {n : Nat} (h : n < 18446744073709551616) : (enc n).length ≤ 10 := enc_len_le 9 (Nat.lt_of_lt_of_le h (by decide))
theorem enc_pos (n : Nat) : 0 < (enc n).length := by
  by_cases hn : n < 128
  · rw [enc_small hn]; simp
  · rw [enc_more hn]; simp

/-- What bytes begin with: the number, how many bytes, what is wrong. -/
def rd : List UInt8 → Nat → Nat → Nat × Nat × Nat
  | [], _, _ => (0, 0, 4)
  | c :: r, k, a => if k = 9 ∧ 1 < c.toNat then (0, 0, 3) else if 128 ≤ c.toNat then rd r (k + 1) (a + (c.toNat - 128) * 128 ^ k) else if 0 < k ∧ c.toNat = 0 then (0, 0, 3) else (a + c.toNat * 128 ^ k, k + 1, 0)
theorem rd_nil (k a : Nat) : rd [] k a = (0, 0, 4) := rfl
theorem rd_great {c : UInt8} {r : List UInt8} {a : Nat} (h : 1 < c.toNat) : rd (c :: r) 9 a = (0, 0, 3) := by rw [rd, if_pos ⟨rfl, h⟩]
theorem rd_more {c : UInt8} {r : List UInt8} {k a : Nat} (h0 : ¬ (k = 9 ∧ 1 < c.toNat)) (h : 128 ≤ c.toNat) : rd (c :: r) k a = rd r (k + 1) (a + (c.toNat - 128) * 128 ^ k) := by rw [rd, if_neg h0, if_pos h]
theorem rd_zero {c : UInt8} {r : List UInt8} {k a : Nat} (h : 0 < k) (hc : c.toNat = 0) : rd (c :: r) k a = (0, 0, 3) := by rw [rd, if_neg (by omega), if_neg (by omega), if_pos ⟨h, hc⟩]
theorem rd_last {c : UInt8} {r : List UInt8} {k a : Nat} (h0 : ¬ (k = 9 ∧ 1 < c.toNat)) (h : ¬ 128 ≤ c.toNat) (h1 : ¬ (0 < k ∧ c.toNat = 0)) : rd (c :: r) k a = (a + c.toNat * 128 ^ k, k + 1, 0) := by rw [rd, if_neg h0, if_neg h, if_neg h1]

theorem pow_nine : (128 : Nat) ^ 9 = 9223372036854775808 := by decide
theorem pow_mono {k : Nat} (h : k ≤ 8) : (128 : Nat) ^ k ≤ 72057594037927936 := Nat.le_trans (Nat.pow_le_pow_right (by decide) h) (by decide)
/-- What is added has room: a digit at place k, above a number below. -/
theorem digit_lt {k a d : Nat} (ha : a < 128 ^ k) (hd : d < 128) : a + d * 128 ^ k < 128 ^ (k + 1) := by
  have h1 : d * 128 ^ k ≤ 127 * 128 ^ k := Nat.mul_le_mul_right _ (by omega)
  rw [Nat.pow_succ]; omega
theorem digit_top {k a d : Nat} (ha : a < 128 ^ k) (hk : k ≤ 9) (hd : d < 128) (h : k = 9 → d ≤ 1) : a + d * 128 ^ k < 18446744073709551616 ∧ d * 128 ^ k < 18446744073709551616 := by
  by_cases h9 : k = 9
  · subst h9
    have h1 : d * 128 ^ 9 ≤ 1 * 128 ^ 9 := Nat.mul_le_mul_right _ (h rfl)
    rw [pow_nine] at *; omega
  · have h1 := digit_lt ha hd
    have h2 : (128 : Nat) ^ (k + 1) ≤ 128 ^ 9 := Nat.pow_le_pow_right (by decide) (by omega)
    rw [pow_nine] at h2; omega
theorem rd_is : ∀ (xs : List UInt8) (k a n j e : Nat), rd xs k a = (n, j, e) → a < 128 ^ k → k ≤ 9 → (e = 0 ∧ k < j ∧ j ≤ k + xs.length ∧ n < 18446744073709551616) ∨ ((e = 3 ∨ e = 4) ∧ n = 0 ∧ j = 0)
  | [], k, a, n, j, e, h, _, _ => by
    rw [rd_nil] at h; injection h with h1 h2; injection h2 with h2 h3; subst h1 h2 h3; exact .inr ⟨.inr rfl, rfl, rfl⟩
  | c :: r, k, a, n, j, e, h, ha, hk => by
    by_cases h0 : k = 9 ∧ 1 < c.toNat
    · obtain ⟨rfl, h1⟩ := h0
      rw [rd_great h1] at h; injection h with h1 h2; injection h2 with h2 h3; subst h1 h2 h3; exact .inr ⟨.inl rfl, rfl, rfl⟩
    · by_cases h1 : 128 ≤ c.toNat
      · rw [rd_more h0 h1] at h
        have hc := byte_lt c
        have := rd_is r (k + 1) _ n j e h (digit_lt ha (by omega)) (by omega)
        rw [List.length_cons]
        omega
      · by_cases h2 : 0 < k ∧ c.toNat = 0
        · rw [rd_zero h2.1 h2.2] at h; injection h with h1 h2; injection h2 with h2 h3; subst h1 h2 h3; exact .inr ⟨.inl rfl, rfl, rfl⟩
        · rw [rd_last h0 h1 h2] at h; injection h with h3 h4; injection h4 with h4 h5; subst h3 h4 h5
          refine .inl ⟨rfl, by omega, by rw [List.length_cons]; omega, (digit_top ha hk (by omega) (by omega)).1⟩
theorem rd_enc : ∀ (f n k a : Nat) (r : List UInt8), n ≤ f → n * 128 ^ k < 18446744073709551616 → (k = 0 ∨ n ≠ 0) → rd (enc n ++ r) k a = (a + n * 128 ^ k, k + (enc n).length, 0) := by
  intro f
  induction f with
  | zero =>
    intro n k a r hf h h0
    obtain rfl : n = 0 := by omega
    obtain rfl : k = 0 := by omega
    rw [enc_small (by decide), List.singleton_append, rd_last (by omega) (by decide) (by omega)]
    rfl
  | succ f ih =>
    intro n k a r hf h h0
    have hp : 0 < 128 ^ k := Nat.pow_pos (by decide)
    by_cases hn : n < 128
    · have hc : (UInt8.ofNat n).toNat = n := by rw [ofNat_toNat]; omega
      rw [enc_small hn, List.singleton_append, rd_last (by rw [hc]; rintro ⟨rfl, h1⟩; rw [pow_nine] at h; omega) (by rw [hc]; omega) (by rw [hc]; omega), hc]
      rfl
    · have hc : (UInt8.ofNat (n % 128 + 128)).toNat = n % 128 + 128 := by rw [ofNat_toNat]; omega
      have e1 : n * 128 ^ k = n % 128 * 128 ^ k + n / 128 * 128 ^ (k + 1) := by
        have e : n = n % 128 + n / 128 * 128 := by omega
        rw [Nat.pow_succ, Nat.mul_comm (128 ^ k) 128, ← Nat.mul_assoc, ← Nat.add_mul, ← e]
      rw [enc_more hn, List.cons_append, rd_more (by rintro ⟨rfl, h1⟩; rw [pow_nine] at h; omega) (by rw [hc]; omega), ih (n / 128) (k + 1) _ r (by omega) (by omega) (.inr (by omega)), hc, List.length_cons, e1]
      rw [Nat.add_sub_cancel, Nat.add_assoc, Nat.add_assoc k 1, Nat.add_comm 1]
theorem rd_of_enc {n : Nat} (h : n < 18446744073709551616) (r : List UInt8) : rd (enc n ++ r) 0 0 = (n, (enc n).length, 0) := by
  rw [rd_enc n n 0 0 r (Nat.le_refl _) (by simpa using h) (.inl rfl)]; simp

/-! ### Eight bytes, the highest first -/
/-- The first t of a number's eight bytes. -/
def bigT (n t : Nat) : List UInt8 := (List.range t).map fun j => UInt8.ofNat (n / 256 ^ (7 - j))
theorem bigT_succ (n t : Nat) : bigT n (t + 1) = bigT n t ++ [UInt8.ofNat (n / 256 ^ (7 - t))] := by unfold bigT; rw [List.range_succ, List.map_append]; rfl
theorem bigT_len (n t : Nat) : (bigT n t).length = t := by unfold bigT; rw [List.length_map, List.length_range]
def big (n : Nat) : List UInt8 := bigT n 8
theorem big_len (n : Nat) : (big n).length = 8 := bigT_len n 8
theorem big_eq (n : Nat) : big n = [UInt8.ofNat (n / 72057594037927936), UInt8.ofNat (n / 281474976710656), UInt8.ofNat (n / 1099511627776), UInt8.ofNat (n / 4294967296), UInt8.ofNat (n / 16777216), UInt8.ofNat (n / 65536), UInt8.ofNat (n / 256), UInt8.ofNat n] := by
  show [UInt8.ofNat (n / 256 ^ 7), UInt8.ofNat (n / 256 ^ 6), UInt8.ofNat (n / 256 ^ 5), UInt8.ofNat (n / 256 ^ 4), UInt8.ofNat (n / 256 ^ 3), UInt8.ofNat (n / 256 ^ 2), UInt8.ofNat (n / 256 ^ 1), UInt8.ofNat (n / 256 ^ 0)] = _
  rw [Nat.pow_zero, Nat.div_one]
/-- The number of bytes, the highest first. -/
def un (xs : List UInt8) : Nat := xs.foldl (fun n c => n * 256 + c.toNat) 0
theorem un_snoc (xs : List UInt8) (c : UInt8) : un (xs ++ [c]) = un xs * 256 + c.toNat := by unfold un; rw [List.foldl_append]; rfl
theorem un_lt : ∀ (k : Nat) (xs : List UInt8), un (xs.take k) < 256 ^ k
  | 0, xs => by simp [un]
  | k + 1, xs => by
    have ih := un_lt k xs
    by_cases hk : k < xs.length
    · rw [List.take_succ_eq_append_getElem hk, un_snoc, Nat.pow_succ]
      have := byte_lt xs[k]
      omega
    · rw [List.take_of_length_le (by omega)] at ih ⊢
      rw [Nat.pow_succ]; omega
theorem un_big {n : Nat} (h : n < 18446744073709551616) : un (big n) = n := by
  rw [big_eq]
  unfold un
  simp only [List.foldl_cons, List.foldl_nil, ofNat_toNat]
  omega
theorem big_un (a b c d e f g h : UInt8) : big (un [a, b, c, d, e, f, g, h]) = [a, b, c, d, e, f, g, h] := by
  have ha := byte_lt a; have hb := byte_lt b; have hc := byte_lt c; have hd := byte_lt d; have he := byte_lt e; have hf := byte_lt f; have hg := byte_lt g; have hh := byte_lt h
  rw [big_eq]
  unfold un
  simp only [List.foldl_cons, List.foldl_nil, List.cons.injEq, and_true]
  refine ⟨byte_eq ?_, byte_eq ?_, byte_eq ?_, byte_eq ?_, byte_eq ?_, byte_eq ?_, byte_eq ?_, byte_eq ?_⟩ <;> rw [ofNat_toNat] <;> omega
theorem big_of_un {xs : List UInt8} (h : xs.length = 8) : big (un xs) = xs := by
  match xs, h with
  | [a, b, c, d, e, f, g, h], _ => exact big_un a b c d e f g h
/-- A text's bytes: how many, and these. -/
def txt (s : List UInt8) : List UInt8 := enc s.length ++ s
end Go.Proofs.Ytdnabghhjlhjoaa.Wir
