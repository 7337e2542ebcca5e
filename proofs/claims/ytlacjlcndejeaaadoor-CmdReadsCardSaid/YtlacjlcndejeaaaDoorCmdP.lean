/- Plain facts on commands (layer 6, cmd): which may be, what their texts are, that a command is known by its text, and what any text can be read as. No condition but those in each statement. -/
import Derived.Test.YtlacjlcndejeaaaDoorExactA
namespace Go.Proofs.YtlacjlcndejeaaaDoor.Cmd
open Go.RowKit F64 Go.Lib

/-- A key's bytes; a key; which number a kind may have; a command that may be. -/
def keyByte (c : UInt8) : Bool := decide (97 ≤ c.toNat ∧ c.toNat ≤ 122) || decide (48 ≤ c.toNat ∧ c.toNat ≤ 57)
def isKeyL (s : List UInt8) : Bool := decide (1 ≤ s.length ∧ s.length ≤ 12) && s.all keyByte
def mayV (k : Int) (v : Nat) : Bool := decide (k = 2 ∨ k = 4 ∨ ((k = 1 ∨ k = 3) ∧ v = 0))
def cRight (k : Int) (s : List UInt8) (v : Nat) : Bool := isKeyL s && mayV k v
def word (k : Int) : List UInt8 := if k = 1 then [103, 101, 116] else if k = 2 then [112, 117, 116] else if k = 3 then [100, 101, 108] else if k = 4 then [97, 100, 100] else []
/-- What stands behind the key; the text of a command that may be. -/
def tail (k : Int) (v : Nat) : List UInt8 := if k = 2 ∨ k = 4 then 32 :: text v else []
def cText (k : Int) (s : List UInt8) (v : Nat) : List UInt8 := word k ++ 32 :: (s ++ tail k v)

theorem right_parts {k : Int} {s : List UInt8} {v : Nat} (h : cRight k s v = true) : isKeyL s = true ∧ mayV k v = true := by
  unfold cRight at h; rwa [Bool.and_eq_true] at h
theorem key_parts {s : List UInt8} (h : isKeyL s = true) : 1 ≤ s.length ∧ s.length ≤ 12 ∧ ∀ c ∈ s, keyByte c = true := by
  unfold isKeyL at h
  rw [Bool.and_eq_true, decide_eq_true_eq, List.all_eq_true] at h
  exact ⟨h.1.1, h.1.2, h.2⟩
theorem kb_no_blank {c : UInt8} (h : keyByte c = true) : c.toNat ≠ 32 := by
  unfold keyByte at h
  rw [Bool.or_eq_true, decide_eq_true_eq, decide_eq_true_eq] at h
  omega
theorem kinds {k : Int} {v : Nat} (h : mayV k v = true) : (k = 1 ∧ v = 0) ∨ k = 2 ∨ (k = 3 ∧ v = 0) ∨ k = 4 := by
  unfold mayV at h; rw [decide_eq_true_eq] at h; omega
theorem word_len {k : Int} {v : Nat} (h : mayV k v = true) : (word k).length = 3 := by
  rcases kinds h with ⟨rfl, -⟩ | rfl | ⟨rfl, -⟩ | rfl <;> rfl
theorem word_no_blank (k : Int) : ∀ c ∈ word k, c.toNat ≠ 32 := by
  unfold word
  intro c hc
  split at hc
  · simp at hc; rcases hc with rfl | rfl | rfl <;> decide
  · split at hc
    · simp at hc; rcases hc with rfl | rfl | rfl <;> decide
    · split at hc
      · simp at hc; rcases hc with rfl | rfl | rfl <;> decide
      · split at hc
        · simp at hc; rcases hc with rfl | rfl <;> decide
        · simp at hc
theorem text_ne (v : Nat) : text v ≠ [] := by
  intro e
  by_cases h : isNan v = true ∨ rung v = 9218868437227405312 ∨ rung v = 0
  · have := text_five v h
    rw [e] at this; simp at this
  · have hn : isNan v = false := by simpa using fun e => h (.inl e)
    have := not_nan hn
    rw [text_num (by omega) (by omega)] at e
    simp at e
theorem tail_len (k : Int) (v : Nat) : (tail k v).length ≤ 24 := by
  unfold tail
  split
  · have := text_len v; simp; omega
  · simp
theorem ctext_len {k : Int} {s : List UInt8} {v : Nat} (h : cRight k s v = true) : 5 ≤ (cText k s v).length ∧ (cText k s v).length ≤ 40 := by
  have h1 := key_parts (right_parts h).1
  have h2 := word_len (right_parts h).2
  have h3 := tail_len k v
  unfold cText
  rw [List.length_append, List.length_cons, List.length_append, h2]
  omega

/-! ### Cutting at a blank -/
theorem index_blank (l r : List UInt8) (h : ∀ c ∈ l, c.toNat ≠ 32) : index (l ++ 32 :: r) [32] = l.length := by
  refine index_hit (i := l.length) ?_ (by simp) ?_
  · intro j hj
    unfold occAt
    have e : (l ++ 32 :: r).drop j = l[j] :: (l ++ 32 :: r).drop (j + 1) := by
      rw [List.drop_eq_getElem_cons (by simp; omega), List.getElem_append_left hj]
    rw [e]
    have hne : ((32 : UInt8) == l[j]) = false := by
      rw [beq_eq_false_iff_ne]; intro e2
      exact h l[j] (List.getElem_mem hj) (by rw [← e2]; rfl)
    simp [List.isPrefixOf, hne]
  · unfold occAt
    rw [List.drop_left]
    simp [List.isPrefixOf]
theorem cut_blank (l r : List UInt8) (h : ∀ c ∈ l, c.toNat ≠ 32) : Lib.cut (l ++ 32 :: r) [32] = (l, r, true) := by
  unfold Lib.cut
  rw [index_blank l r h, if_pos (by omega)]
  simp only [Int.toNat_natCast, List.length_cons, List.length_nil]
  rw [List.take_left' rfl, show (0 : Nat) + 1 = 1 by omega, List.drop_append]
  simp
theorem cut_none (l : List UInt8) (h : ∀ c ∈ l, c.toNat ≠ 32) : Lib.cut l [32] = (l, [], false) := by
  have hi : index l [32] = -1 := by
    refine index_none ?_
    intro j hj
    unfold occAt
    rcases hd : l.drop j with _ | ⟨c, r⟩
    · rfl
    · have hm : c ∈ l := List.mem_of_mem_drop (by rw [hd]; simp)
      have hne : ((32 : UInt8) == c) = false := by
        rw [beq_eq_false_iff_ne]; intro e2
        exact h c hm (by rw [← e2]; rfl)
      simp [List.isPrefixOf, hne]
  unfold Lib.cut
  rw [hi, if_neg (by omega)]

/-! ### Reading any text -/
/-- k, s, v are what any command whose text is l has; of its number just the text. -/
def Parsed (l : List UInt8) (k : Int) (s : List UInt8) (v : Nat) : Prop := ∀ (k' : Int) (s' : List UInt8) (v' : Nat), v' < 18446744073709551616 → cRight k' s' v' = true → cText k' s' v' = l → k = k' ∧ s = s' ∧ ((k' = 2 ∨ k' = 4) → text v = text v') ∧ (¬ (k' = 2 ∨ k' = 4) → v = 0)
/-- No command has that text. -/
def NoCmd (l : List UInt8) : Prop := ∀ (k' : Int) (s' : List UInt8) (v' : Nat), v' < 18446744073709551616 → cRight k' s' v' = true → cText k' s' v' ≠ l

theorem may_num {k : Int} (v : Nat) (h : k = 2 ∨ k = 4) : mayV k v = true := by unfold mayV; rw [decide_eq_true_eq]; omega
theorem Parsed.none {l : List UInt8} {k : Int} {s : List UInt8} {v : Nat} (h : Parsed l k s v) (hbad : ¬ (cRight k s v = true ∧ cText k s v = l)) : NoCmd l := by
  intro k' s' v' hv hr ht
  obtain ⟨rfl, rfl, h1, h2⟩ := h k' s' v' hv hr ht
  have hp := right_parts hr
  apply hbad
  by_cases hk : k = 2 ∨ k = 4
  · refine ⟨by unfold cRight; rw [hp.1, may_num v hk]; rfl, ?_⟩
    rw [← ht]
    unfold cText tail
    rw [if_pos hk, if_pos hk, h1 hk]
  · have hv0 := h2 hk
    have hv1 : v' = 0 := by have := kinds hp.2; omega
    subst hv0; subst hv1
    exact ⟨hr, ht⟩

/-- Which kind a word is. -/
def kindOf (w : List UInt8) : Int := if w = [] then 0 else if w = [103, 101, 116] then 1 else if w = [112, 117, 116] then 2 else if w = [100, 101, 108] then 3 else if w = [97, 100, 100] then 4 else 5
def kindAt (w : List UInt8) : Int := if w = [103, 101, 116] then 1 else if w = [112, 117, 116] then 2 else if w = [100, 101, 108] then 3 else if w = [97, 100, 100] then 4 else 0
theorem kind_word {k : Int} {v : Nat} (h : mayV k v = true) : kindOf (word k) = k ∧ kindAt (word k) = k := by
  rcases kinds h with ⟨rfl, -⟩ | rfl | ⟨rfl, -⟩ | rfl <;> exact ⟨rfl, rfl⟩

theorem parsed_near (l : List UInt8) (z : Nat) (hz : text z = (Lib.cut (Lib.cut l [32]).2.1 [32]).2.1 ∨ (z = 0 ∧ ∀ b, b < 18446744073709551616 → text b ≠ (Lib.cut (Lib.cut l [32]).2.1 [32]).2.1)) :
    Parsed l (kindOf (Lib.cut l [32]).1) (Lib.cut (Lib.cut l [32]).2.1 [32]).1 z := by
  intro k' s' v' hv hr ht
  have hp := right_parts hr
  have hs := key_parts hp.1
  have hnb : ∀ c ∈ s', c.toNat ≠ 32 := fun c hc => kb_no_blank (hs.2.2 c hc)
  rw [← ht] at hz ⊢
  unfold cText at hz ⊢
  rw [cut_blank _ _ (word_no_blank k')] at hz ⊢
  simp only at hz ⊢
  by_cases hk : k' = 2 ∨ k' = 4
  · unfold tail at hz ⊢
    rw [if_pos hk, cut_blank _ _ hnb] at hz ⊢
    refine ⟨(kind_word hp.2).1, rfl, fun _ => ?_, fun h => absurd hk h⟩
    rcases hz with h | ⟨-, h⟩
    · exact h
    · exact absurd rfl (h v' hv)
  · unfold tail at hz ⊢
    rw [if_neg hk, List.append_nil, cut_none _ hnb] at hz ⊢
    refine ⟨(kind_word hp.2).1, rfl, fun h => absurd h hk, fun _ => ?_⟩
    rcases hz with h | ⟨h, -⟩
    · exact absurd h (text_ne z)
    · exact h

/-- Where the key ends: the first blank at 4 or behind, or the text's end. -/
structure EndAt (l : List UInt8) (a : Nat) : Prop where
  lo : 4 ≤ a
  hi : a ≤ l.length
  no : ∀ j, 4 ≤ j → j < a → l[j]? ≠ some 32
  at_ : a < l.length → l[a]? = some 32
theorem form {l : List UInt8} {k : Int} {s : List UInt8} {v : Nat} (hr : cRight k s v = true) (ht : cText k s v = l) : l.take 3 = word k ∧ l[3]? = some 32 ∧ l.drop 4 = s ++ tail k v ∧ l.length = 4 + s.length + (tail k v).length ∧ ∀ j, l[4 + j]? = (s ++ tail k v)[j]? := by
  have h3 := word_len (right_parts hr).2
  have e : l.drop 4 = s ++ tail k v := by
    rw [← ht]; unfold cText
    rw [List.drop_append, h3, List.drop_eq_nil_of_le (by omega)]
    rfl
  refine ⟨?_, ?_, e, ?_, fun j => ?_⟩
  · rw [← ht]; unfold cText; rw [List.take_left' h3]
  · rw [← ht]; unfold cText; rw [List.getElem?_append_right (by omega), h3]; rfl
  · rw [← ht]; unfold cText; rw [List.length_append, List.length_cons, List.length_append, h3]; omega
  · rw [← e, List.getElem?_drop]
theorem end_key {l : List UInt8} {a : Nat} {k : Int} {s : List UInt8} {v : Nat} (hr : cRight k s v = true) (ht : cText k s v = l) (ha : EndAt l a) : a = 4 + s.length := by
  obtain ⟨-, -, -, hlen, hget⟩ := form hr ht
  have hs := key_parts (right_parts hr).1
  rcases Nat.lt_trichotomy a (4 + s.length) with h | h | h
  · exfalso
    have h1 := ha.at_ (by omega)
    have h2 := hget (a - 4)
    rw [show 4 + (a - 4) = a by have := ha.lo; omega, h1, List.getElem?_append_left (by have := ha.lo; omega)] at h2
    have hm : (32 : UInt8) ∈ s := List.mem_of_getElem? h2.symm
    exact kb_no_blank (hs.2.2 _ hm) rfl
  · exact h
  · exfalso
    have h1 := ha.no (4 + s.length) (by omega) h
    have h2 := hget s.length
    rw [List.getElem?_append_right (Nat.le_refl _), Nat.sub_self] at h2
    have h3 := ha.hi
    unfold tail at h2 hlen
    by_cases hk : k = 2 ∨ k = 4
    · rw [if_pos hk] at h2; exact h1 h2
    · rw [if_neg hk] at hlen; simp at hlen; omega
theorem parsed_ref {l : List UInt8} {a z : Nat} (ha : EndAt l a) (hz : a < l.length → text z = l.drop (a + 1)) (hz0 : a = l.length → z = 0) : Parsed l (kindAt (l.take 3)) ((l.take a).drop 4) z := by
  intro k' s' v' hv hr ht
  have hp := right_parts hr
  have he := end_key hr ht ha
  obtain ⟨h1, -, h2, hlen, -⟩ := form hr ht
  have hkey : (l.take a).drop 4 = s' := by
    rw [List.drop_take, h2, he, show 4 + s'.length - 4 = s'.length by omega, List.take_left' rfl]
  refine ⟨by rw [h1]; exact (kind_word hp.2).2, hkey, fun hk => ?_, fun hk => ?_⟩
  · have e : tail k' v' = 32 :: text v' := by unfold tail; rw [if_pos hk]
    rw [e] at hlen h2
    rw [hz (by rw [hlen, he]; simp), he, show 4 + s'.length + 1 = 4 + (s'.length + 1) by omega, ← List.drop_drop, h2, List.drop_append]
    simp
  · have e : tail k' v' = [] := by unfold tail; rw [if_neg hk]
    rw [e] at hlen
    exact hz0 (by rw [hlen, he]; simp)
theorem ref_none_num {l : List UInt8} {a : Nat} (ha : EndAt l a) (hl : a < l.length) (hz : ∀ b, b < 18446744073709551616 → text b ≠ l.drop (a + 1)) : NoCmd l := by
  intro k' s' v' hv hr ht
  have he := end_key hr ht ha
  obtain ⟨-, -, h2, hlen, -⟩ := form hr ht
  by_cases hk : k' = 2 ∨ k' = 4
  · have e : tail k' v' = 32 :: text v' := by unfold tail; rw [if_pos hk]
    rw [e] at h2
    refine hz v' hv ?_
    rw [he, show 4 + s'.length + 1 = 4 + (s'.length + 1) by omega, ← List.drop_drop, h2, List.drop_append]
    simp
  · have e : tail k' v' = [] := by unfold tail; rw [if_neg hk]
    rw [e] at hlen; simp at hlen; omega
theorem ref_none_short {l : List UInt8} (h : l.length < 5) : NoCmd l := by
  intro k' s' v' hv hr ht
  have := ctext_len hr
  rw [ht] at this; omega
theorem ref_none_blank {l : List UInt8} (h : l[3]? ≠ some 32) : NoCmd l := by
  intro k' s' v' hv hr ht
  exact h (form hr ht).2.1

/-- A command is known by its text. -/
theorem ctext_inj {k k' : Int} {s s' : List UInt8} {v v' : Nat} (hv : v < 18446744073709551616) (hv' : v' < 18446744073709551616) (hr : cRight k s v = true) (hr' : cRight k' s' v' = true) (h : cText k s v = cText k' s' v') : k = k' ∧ s = s' ∧ same v v' = true := by
  have hp := right_parts hr
  have hp' := right_parts hr'
  have hs := key_parts hp.1
  have hs' := key_parts hp'.1
  unfold cText at h
  have h1 : (word k).length = (word k').length := by rw [word_len hp.2, word_len hp'.2]
  obtain ⟨e1, e2⟩ := List.append_inj h h1
  have hk : k = k' := by rw [← (kind_word hp.2).1, e1, (kind_word hp'.2).1]
  subst hk
  injection e2 with _ e2
  have c1 : ∀ {s : List UInt8} {v : Nat}, isKeyL s = true → (Lib.cut (s ++ tail k v) [32]).1 = s ∧ ((k = 2 ∨ k = 4) → (Lib.cut (s ++ tail k v) [32]).2.1 = text v) := by
    intro s v hs
    have hnb : ∀ c ∈ s, c.toNat ≠ 32 := fun c hc => kb_no_blank ((key_parts hs).2.2 c hc)
    unfold tail
    by_cases hk : k = 2 ∨ k = 4
    · rw [if_pos hk, cut_blank _ _ hnb]; exact ⟨rfl, fun _ => rfl⟩
    · rw [if_neg hk, List.append_nil, cut_none _ hnb]; exact ⟨rfl, fun h => absurd h hk⟩
  have a1 := c1 (v := v) hp.1
  have a2 := c1 (v := v') hp'.1
  rw [e2] at a1
  refine ⟨rfl, a1.1.symm.trans a2.1, ?_⟩
  by_cases hk : k = 2 ∨ k = 4
  · exact text_inj hv hv' ((a1.2 hk).symm.trans (a2.2 hk))
  · have := kinds hp.2
    have := kinds hp'.2
    have e3 : v = v' := by omega
    subst e3
    unfold same; simp
end Go.Proofs.YtlacjlcndejeaaaDoor.Cmd
