/- A record's bytes read, plain (layer 11, codec): what is put is read as it was, what is read was put so. No condition but those in each statement. -/
import Derived.Test.YtapjjeffegnflaaCodD
namespace Go.Proofs.Ytapjjeffegnflaa.Cod
open Go.RowKit F64 Cmd Bat Ids Rec Wir Dig
set_option linter.unusedVariables false

/-! ### A number's digits are as few as can be -/
theorem rd_inv : ∀ (xs : List UInt8) (k a n j : Nat), rd xs k a = (n, j, 0) → ∃ m, n = a + m * 128 ^ k ∧ j = k + (enc m).length ∧ xs = enc m ++ xs.drop (j - k) ∧ (k = 0 ∨ m ≠ 0)
  | [], k, a, n, j, h => by rw [rd_nil] at h; injection h with _ h2; injection h2 with _ h3; cases h3
  | c :: r, k, a, n, j, h => by
    by_cases h0 : k = 9 ∧ 1 < c.toNat
    · obtain ⟨rfl, h1⟩ := h0
      rw [rd_great h1] at h; injection h with _ h2; injection h2 with _ h3; cases h3
    · have hc := byte_lt c
      by_cases h1 : 128 ≤ c.toNat
      · rw [rd_more h0 h1] at h
        obtain ⟨m, e1, e2, e3, e4⟩ := rd_inv r (k + 1) _ n j h
        have hm : m ≠ 0 := e4.resolve_left (by omega)
        refine ⟨c.toNat - 128 + 128 * m, ?_, ?_, ?_, .inr (by omega)⟩
        · rw [e1, Nat.pow_succ, Nat.add_mul, Nat.mul_comm 128 m, Nat.mul_assoc m 128, Nat.mul_comm 128 (128 ^ k)]; omega
        · rw [enc_more (by omega), List.length_cons, show (c.toNat - 128 + 128 * m) / 128 = m by omega, e2]; omega
        · rw [enc_more (by omega), show (c.toNat - 128 + 128 * m) / 128 = m by omega, show (c.toNat - 128 + 128 * m) % 128 + 128 = c.toNat by omega, UInt8.ofNat_toNat, List.cons_append]
          have e5 : j - k = (j - (k + 1)) + 1 := by have := enc_pos m; omega
          rw [e5, List.drop_succ_cons, ← e3]
      · by_cases h2 : 0 < k ∧ c.toNat = 0
        · rw [rd_zero h2.1 h2.2] at h; injection h with _ h3; injection h3 with _ h4; cases h4
        · rw [rd_last h0 h1 h2] at h
          injection h with h3 h4; injection h4 with h4 _
          refine ⟨c.toNat, h3.symm, by rw [enc_small (by omega)]; exact h4.symm, ?_, by omega⟩
          rw [enc_small (by omega), UInt8.ofNat_toNat, ← h4, show k + 1 - k = 1 by omega]
          rfl
theorem rd_back {xs : List UInt8} {n j : Nat} (h : rd xs 0 0 = (n, j, 0)) : xs = enc n ++ xs.drop j ∧ j = (enc n).length := by
  obtain ⟨m, e1, e2, e3, -⟩ := rd_inv xs 0 0 n j h
  have : m = n := by simpa using e1.symm
  subst this
  exact ⟨by simpa using e3, by omega⟩

/-! ### What is taken -/
def gnum (zs : List UInt8) : Except Nat (Nat × List UInt8) :=
  if (rd zs 0 0).2.2 ≠ 0 then .error (rd zs 0 0).2.2 else if 1073741824 < (rd zs 0 0).1 then .error 20 else .ok ((rd zs 0 0).1, zs.drop (rd zs 0 0).2.1)
def gkey (zs : List UInt8) : Except Nat (List UInt8 × List UInt8) :=
  if (rd zs 0 0).2.2 ≠ 0 then .error (rd zs 0 0).2.2 else if 12 < (rd zs 0 0).1 then .error 18 else if zs.length - (rd zs 0 0).2.1 < (rd zs 0 0).1 then .error 4
  else .ok ((zs.take ((rd zs 0 0).2.1 + (rd zs 0 0).1)).drop (rd zs 0 0).2.1, zs.drop ((rd zs 0 0).2.1 + (rd zs 0 0).1))
def gflt (zs : List UInt8) : Except Nat (Nat × List UInt8) :=
  if zs.length < 8 then .error 4 else if canon (un (zs.take 8)) = un (zs.take 8) then .ok (un (zs.take 8), zs.drop 8) else .error 3
def gval (k : Nat) (zs : List UInt8) : Except Nat (Nat × List UInt8) := if k = 2 ∨ k = 4 then gflt zs else .ok (0, zs)
def gcmd (zs : List UInt8) : Except Nat (Cmdn × List UInt8) :=
  match gnum zs with
  | .error e => .error e
  | .ok (k, r) => if k < 1 ∨ 4 < k then .error 12 else
    match gkey r with
    | .error e => .error e
    | .ok (s, r) => match gval k r with
      | .error e => .error e
      | .ok (f, r) => .ok (((k : Int), s, f), r)
def gid (zs : List UInt8) : Except Nat (Idn × List UInt8) :=
  match gnum zs with
  | .error e => .error e
  | .ok (a, r) => match gnum r with
    | .error e => .error e
    | .ok (b, r) => .ok (((a : Int), (b : Int)), r)
def gmany {α : Type} (g : List UInt8 → Except Nat (α × List UInt8)) : Nat → List UInt8 → Except Nat (List α × List UInt8)
  | 0, zs => .ok ([], zs)
  | n + 1, zs => match g zs with
    | .error e => .error e
    | .ok (x, r) => match gmany g n r with
      | .error e => .error e
      | .ok (l, r) => .ok (x :: l, r)
/-- What bytes, opened, hold: the first that is wrong, or a record. -/
def gbody (zs : List UInt8) : Except Nat (Int × Int × Int × List Idn × List Cmdn) :=
  match gnum zs with
  | .error e => .error e
  | .ok (a, r) => match gnum r with
    | .error e => .error e
    | .ok (b, r) => match gnum r with
      | .error e => .error e
      | .ok (q, r) => match gnum r with
        | .error e => .error e
        | .ok (n, r) => if 16 < n then .error 10 else match gmany gid n r with
          | .error e => .error e
          | .ok (ds, r) => match gnum r with
            | .error e => .error e
            | .ok (m, r) => if 8 < m then .error 5 else match gmany gcmd m r with
              | .error e => .error e
              | .ok (cs, r) => if r ≠ [] then .error 3 else if rErr a b q ds cs ≠ 0 then .error (rErr a b q ds cs).toNat else .ok ((a : Int), (b : Int), (q : Int), ds, cs)
def dec (zs : List UInt8) : Except Nat (Int × Int × Int × List Idn × List Cmdn) := if (opn zs).2 ≠ 0 then .error (opn zs).2 else gbody (opn zs).1

/-! ### What is put is taken -/
theorem gnum_enc {n : Nat} (h : n ≤ 1073741824) (r : List UInt8) : gnum (enc n ++ r) = .ok (n, r) := by
  unfold gnum; rw [rd_of_enc (by omega)]; simp only []; rw [if_neg (by omega), if_neg (by omega), List.drop_left]
theorem gnum_out {zs r : List UInt8} {n : Nat} (h : gnum zs = .ok (n, r)) : zs = enc n ++ r ∧ n ≤ 1073741824 := by
  unfold gnum at h
  obtain ⟨a, j, e, hr⟩ : ∃ a j e, rd zs 0 0 = (a, j, e) := ⟨_, _, _, rfl⟩
  rw [hr] at h; simp only [] at h
  split at h
  · cases h
  · rename_i he
    split at h
    · cases h
    · rename_i hn
      injection h with h; injection h with h1 h2
      obtain rfl : e = 0 := by omega
      subst h1 h2
      exact ⟨(rd_back hr).1, by omega⟩
theorem gkey_txt {s : List UInt8} (h : s.length ≤ 12) (r : List UInt8) : gkey (txt s ++ r) = .ok (s, r) := by
  unfold gkey txt
  rw [List.append_assoc, rd_of_enc (by omega)]; simp only []
  rw [if_neg (by omega), if_neg (by omega), if_neg (by rw [List.length_append, List.length_append]; omega)]
  have e1 : enc s.length ++ (s ++ r) = (enc s.length ++ s) ++ r := (List.append_assoc ..).symm
  rw [e1, ← List.length_append, List.take_left, List.drop_left, List.drop_left]
theorem gkey_out {zs s r : List UInt8} (h : gkey zs = .ok (s, r)) : zs = txt s ++ r ∧ s.length ≤ 12 := by
  unfold gkey at h
  obtain ⟨a, j, e, hr⟩ : ∃ a j e, rd zs 0 0 = (a, j, e) := ⟨_, _, _, rfl⟩
  rw [hr] at h; simp only [] at h
  split at h
  · cases h
  · rename_i he
    split at h
    · cases h
    · rename_i hn
      split at h
      · cases h
      · rename_i hl
        injection h with h; injection h with h1 h2
        obtain rfl : e = 0 := by omega
        obtain ⟨hb, hj⟩ := rd_back hr
        have hi := rd_is zs 0 0 a j 0 hr (by decide) (by decide)
        have hlen : ((zs.take (j + a)).drop j).length = a := by rw [List.length_drop, List.length_take]; omega
        subst h1 h2
        refine ⟨?_, by rw [hlen]; omega⟩
        unfold txt
        rw [hlen, List.append_assoc]
        have e2 : zs.drop j = (zs.take (j + a)).drop j ++ zs.drop (j + a) := by
          rw [List.drop_take, ← List.drop_drop, show j + a - j = a by omega, List.take_append_drop]
        rw [← e2]; exact hb
theorem gflt_big {f : Nat} (h : canon f = f) (hf : f < 18446744073709551616) (r : List UInt8) : gflt (big f ++ r) = .ok (f, r) := by
  have hl := big_len f
  unfold gflt
  rw [if_neg (by rw [List.length_append]; omega), List.take_append_of_le_length (by omega), List.take_of_length_le (by omega), un_big hf, if_pos h]
  have := List.drop_left (l₁ := big f) (l₂ := r)
  rw [hl] at this; rw [this]
theorem gflt_out {zs r : List UInt8} {f : Nat} (h : gflt zs = .ok (f, r)) : zs = big f ++ r ∧ canon f = f ∧ f < 18446744073709551616 := by
  unfold gflt at h
  split at h
  · cases h
  · rename_i hl
    split at h
    · rename_i hc
      injection h with h; injection h with h1 h2
      subst h1 h2
      refine ⟨?_, hc, un_lt 8 zs⟩
      rw [big_of_un (by rw [List.length_take]; omega), List.take_append_drop]
    · cases h
theorem canon_canon (f : Nat) : canon (canon f) = canon f := by
  unfold canon
  by_cases h : isNan f = true
  · rw [if_pos h, if_pos (by decide)]
  · rw [if_neg h, if_neg h]
theorem canon_lt {f : Nat} (h : f < 18446744073709551616) : canon f < 18446744073709551616 := by unfold canon; split <;> omega
/-- A command as it is read: the NaN is one; of Get and Delete the number is +0. -/
def cmdC (c : Cmdn) : Cmdn := (c.1, c.2.1, if hasV c.1 then canon c.2.2 else 0)
def okC (c : Cmdn) : Prop := 1 ≤ c.1 ∧ c.1 ≤ 4 ∧ c.2.1.length ≤ 12 ∧ c.2.2 < 18446744073709551616
theorem hasV_nat (k : Nat) : hasV (k : Int) = decide (k = 2 ∨ k = 4) := by
  unfold hasV
  rw [Bool.eq_iff_iff, Bool.or_eq_true, beq_iff_eq, beq_iff_eq, decide_eq_true_eq]; omega
theorem gcmd_cmd {c : Cmdn} (h : okC c) (r : List UInt8) : gcmd (cmdB c ++ r) = .ok (cmdC c, r) := by
  obtain ⟨k, s, f⟩ := c
  obtain ⟨h1, h2, h3, h4⟩ := h
  simp only [] at h1 h2 h3 h4
  obtain ⟨n, rfl⟩ : ∃ n : Nat, k = n := ⟨k.toNat, by omega⟩
  unfold cmdB cmdC encI
  simp only [Int.toNat_natCast]
  rw [List.append_assoc, List.append_assoc]
  unfold gcmd
  rw [gnum_enc (by omega)]; simp only []
  rw [if_neg (by omega), gkey_txt h3]; simp only []
  unfold gval
  rw [hasV_nat]
  by_cases hv : n = 2 ∨ n = 4
  · rw [if_pos hv, decide_eq_true hv]; simp only [if_true]
    rw [gflt_big (canon_canon f) (canon_lt h4)]
  · rw [if_neg hv, decide_eq_false hv]; simp
theorem gcmd_out {zs r : List UInt8} {c : Cmdn} (h : gcmd zs = .ok (c, r)) : zs = cmdB c ++ r ∧ okC c ∧ cmdC c = c := by
  unfold gcmd at h
  cases h1 : gnum zs with
  | error e => rw [h1] at h; cases h
  | ok v =>
    obtain ⟨k, r1⟩ := v
    rw [h1] at h; simp only [] at h
    obtain ⟨e1, b1⟩ := gnum_out h1
    split at h
    · cases h
    · rename_i hk
      cases h2 : gkey r1 with
      | error e => rw [h2] at h; cases h
      | ok v =>
        obtain ⟨s, r2⟩ := v
        rw [h2] at h; simp only [] at h
        obtain ⟨e2, b2⟩ := gkey_out h2
        cases h3 : gval k r2 with
        | error e => rw [h3] at h; cases h
        | ok v =>
          obtain ⟨f, r3⟩ := v
          rw [h3] at h; simp only [] at h
          injection h with h; injection h with h4 h5
          subst h4 h5
          unfold gval at h3
          unfold cmdB okC cmdC encI
          simp only [Int.toNat_natCast]
          rw [hasV_nat]
          by_cases hv : k = 2 ∨ k = 4
          · rw [if_pos hv] at h3
            obtain ⟨e3, b3, b4⟩ := gflt_out h3
            rw [decide_eq_true hv]; simp only [if_true]
            rw [b3]
            exact ⟨by rw [e1, e2, e3]; simp, ⟨by omega, by omega, b2, b4⟩, rfl⟩
          · rw [if_neg hv] at h3
            injection h3 with h3; injection h3 with h6 h7
            subst h6 h7
            rw [decide_eq_false hv]; simp only [Bool.false_eq_true, if_false]
            exact ⟨by rw [e1, e2]; simp, ⟨by omega, by omega, b2, by decide⟩, trivial⟩
theorem gid_id {x : Idn} (h : 0 ≤ x.1 ∧ x.1 ≤ 1073741824 ∧ 0 ≤ x.2 ∧ x.2 ≤ 1073741824) (r : List UInt8) : gid (idB x ++ r) = .ok (x, r) := by
  obtain ⟨a, b⟩ := x
  simp only [] at h
  unfold idB encI gid
  simp only []
  rw [List.append_assoc, gnum_enc (by omega)]; simp only []
  rw [gnum_enc (by omega)]; simp only []
  rw [Int.toNat_of_nonneg h.1, Int.toNat_of_nonneg h.2.2.1]
theorem gid_out {zs r : List UInt8} {x : Idn} (h : gid zs = .ok (x, r)) : zs = idB x ++ r ∧ 0 ≤ x.1 ∧ 0 ≤ x.2 := by
  unfold gid at h
  cases h1 : gnum zs with
  | error e => rw [h1] at h; cases h
  | ok v =>
    obtain ⟨a, r1⟩ := v
    rw [h1] at h; simp only [] at h
    cases h2 : gnum r1 with
    | error e => rw [h2] at h; cases h
    | ok v =>
      obtain ⟨b, r2⟩ := v
      rw [h2] at h; simp only [] at h
      injection h with h; injection h with h4 h5
      subst h4 h5
      unfold idB encI
      simp only [Int.toNat_natCast]
      exact ⟨by rw [(gnum_out h1).1, (gnum_out h2).1]; simp, by omega, by omega⟩
theorem many_put {α : Type} {g : List UInt8 → Except Nat (α × List UInt8)} {p : α → List UInt8} {c : α → α} : ∀ (l : List α), (∀ x ∈ l, ∀ r, g (p x ++ r) = .ok (c x, r)) → ∀ r, gmany g l.length ((l.map p).flatten ++ r) = .ok (l.map c, r)
  | [], _, r => rfl
  | x :: l, h, r => by
    rw [List.map_cons, List.flatten_cons, List.append_assoc, List.length_cons]
    unfold gmany
    rw [h x (by simp)]; simp only []
    rw [many_put l (fun y hy => h y (by simp [hy]))]
    rfl
theorem many_out {α : Type} {g : List UInt8 → Except Nat (α × List UInt8)} {p : α → List UInt8} {P : α → Prop} (hg : ∀ zs x r, g zs = .ok (x, r) → zs = p x ++ r ∧ P x) : ∀ (n : Nat) (zs : List UInt8) (l : List α) (r : List UInt8), gmany g n zs = .ok (l, r) → zs = (l.map p).flatten ++ r ∧ l.length = n ∧ ∀ x ∈ l, P x
  | 0, zs, l, r, h => by
    unfold gmany at h; injection h with h; injection h with h1 h2; subst h1 h2
    exact ⟨rfl, rfl, by simp⟩
  | n + 1, zs, l, r, h => by
    unfold gmany at h
    cases h1 : g zs with
    | error e => rw [h1] at h; cases h
    | ok v =>
      obtain ⟨x, r1⟩ := v
      rw [h1] at h; simp only [] at h
      cases h2 : gmany g n r1 with
      | error e => rw [h2] at h; cases h
      | ok v =>
        obtain ⟨l2, r2⟩ := v
        rw [h2] at h; simp only [] at h
        injection h with h; injection h with h3 h4; subst h3 h4
        obtain ⟨e1, e2⟩ := hg _ _ _ h1
        obtain ⟨e3, e4, e5⟩ := many_out hg n r1 l2 r2 h2
        refine ⟨by rw [e1, e3]; simp, by simp [e4], fun y hy => ?_⟩
        rcases List.mem_cons.1 hy with rfl | hy
        · exact e2
        · exact e5 y hy

/-! ### Which records may be -/
theorem iderr_ok {x : Idn} (h : idErr x = 0) : 0 ≤ x.1 ∧ x.1 < 8 ∧ 1 ≤ x.2 ∧ x.2 ≤ 1048576 := by
  unfold idErr at h; split at h
  · split at h
    · omega
    · cases h
  · cases h
structure May (a b q : Int) (ds : List Idn) (cs : List Cmdn) : Prop where
  id : 0 ≤ a ∧ a < 8 ∧ 1 ≤ b ∧ b ≤ 1048576
  seq : 1 ≤ q ∧ q ≤ 1073741824
  deps : ds.length ≤ 16
  ids : ∀ x ∈ ds, 0 ≤ x.1 ∧ x.1 < 8 ∧ 1 ≤ x.2 ∧ x.2 ≤ 1048576
  cmds : cs.length ≤ 8
  cms : ∀ c ∈ cs, right c = true
theorem may_of {a b q : Int} {ds : List Idn} {cs : List Cmdn} (h : rErr a b q ds cs = 0) : May a b q ds cs := by
  unfold rErr at h
  split at h
  · rename_i h1; exact absurd h h1
  · rename_i h1
    split at h
    · rename_i h2; exact absurd h h2
    · rename_i h2
      split at h
      · rename_i h3; exact absurd h h3
      · rename_i h3
        split at h
        · rename_i h4; exact absurd h h4
        · rename_i h4
          have h1 : idErr (a, b) = 0 := by omega
          have h2 : seqErr q = 0 := by omega
          have h3 : cntErr ds.length = 0 := by omega
          have h4 : depsErr (a, b) ds = 0 := by omega
          unfold bErr at h
          split at h
          · cases h
          · rename_i h5
            split at h
            · cases h
            · rename_i h6
              refine ⟨iderr_ok h1, ?_, ?_, ?_, by omega, ?_⟩
              · unfold seqErr at h2; split at h2
                · omega
                · cases h2
              · unfold cntErr at h3; split at h3
                · cases h3
                · omega
              · intro x hx
                obtain ⟨k, hk, rfl⟩ := List.getElem_of_mem hx
                have h7 : depErr (a, b) ds k = 0 := by
                  apply Classical.byContradiction
                  intro hne
                  unfold depsErr at h4
                  cases hf : (List.range ds.length).find? (fun j => decide (depErr (a, b) ds j ≠ 0)) with
                  | none =>
                    have := List.find?_eq_none.1 hf k (List.mem_range.2 hk)
                    simp [hne] at this
                  | some j =>
                    rw [hf] at h4
                    have := List.find?_some hf
                    simp at this
                    exact this h4
                have e : nth ds k = ds[k] := by unfold nth; rw [List.getD_eq_getElem?_getD, List.getElem?_eq_getElem hk]; rfl
                unfold depErr at h7
                rw [e] at h7
                split at h7
                · rename_i h8; exact absurd h7 h8
                · rename_i h8; exact iderr_ok (by omega)
              · intro c hc
                have : ¬ ∃ x ∈ cs, (!right x) = true := by rw [← List.any_eq_true]; exact h6
                cases hr : right c
                · exact absurd ⟨c, hc, by rw [hr]; rfl⟩ this
                · rfl
theorem right_ok {c : Cmdn} (h : right c = true) (hv : c.2.2 < 18446744073709551616) : okC c ∧ cmdC c = (c.1, c.2.1, if hasV c.1 then canon c.2.2 else c.2.2) ∧ right (cmdC c) = true := by
  obtain ⟨k, s, v⟩ := c
  unfold right at h ⊢
  obtain ⟨h1, h2⟩ := right_parts h
  obtain ⟨k1, k2, -⟩ := key_parts h1
  unfold mayV at h2
  rw [decide_eq_true_eq] at h2
  simp only [] at h1 h2 k1 k2 hv
  have hh : hasV k = decide (k = 2 ∨ k = 4) := by unfold hasV; rw [Bool.eq_iff_iff, Bool.or_eq_true, beq_iff_eq, beq_iff_eq, decide_eq_true_eq]
  refine ⟨⟨by simp only []; omega, by simp only []; omega, k2, hv⟩, ?_, ?_⟩
  · unfold cmdC; simp only []
    rw [hh]
    by_cases hk : k = 2 ∨ k = 4
    · rw [decide_eq_true hk]; rfl
    · rw [decide_eq_false hk]; simp; omega
  · unfold cmdC cRight; simp only []
    rw [h1, Bool.true_and]
    unfold mayV
    rw [decide_eq_true_eq, hh]
    by_cases hk : k = 2 ∨ k = 4
    · omega
    · rw [decide_eq_false hk]
      have : k = 1 ∨ k = 3 := by omega
      exact .inr (.inr ⟨this, by simp⟩)
theorem berr_ok {cs : List Cmdn} (h1 : cs.length ≤ 8) (h2 : ∀ c ∈ cs, right c = true) : bErr cs = 0 := by
  unfold bErr
  rw [if_neg (by omega), if_neg]
  rw [List.any_eq_true]
  rintro ⟨x, hx, h⟩
  rw [h2 x hx] at h; cases h
theorem rerr_map {a b q : Int} {ds : List Idn} {cs : List Cmdn} (h : rErr a b q ds cs = 0) (hw : ∀ c ∈ cs, c.2.2 < 18446744073709551616) : rErr a b q ds (cs.map cmdC) = 0 := by
  have M := may_of h
  have hb : bErr (cs.map cmdC) = 0 := berr_ok (by rw [List.length_map]; exact M.cmds) fun c hc => by
    obtain ⟨x, hx, rfl⟩ := List.mem_map.1 hc
    exact (right_ok (M.cms x hx) (hw x hx)).2.2
  have hb0 : bErr cs = 0 := berr_ok M.cmds M.cms
  unfold rErr at h ⊢
  rw [hb]; rw [hb0] at h; exact h
theorem fine_of {a b q : Int} {ds : List Idn} {cs : List Cmdn} (h : rErr a b q ds cs = 0) (hw : ∀ c ∈ cs, c.2.2 < 18446744073709551616) : Fine a b q ds cs := by
  have M := may_of h
  have h1 := M.id; have h2 := M.seq
  refine ⟨by unfold okN; omega, by unfold okN; omega, by unfold okN; omega, by have := M.deps; omega, by have := M.cmds; omega, fun x hx => ?_, fun c hc => ?_⟩
  · have := M.ids x hx; unfold okN; omega
  · obtain ⟨k1, k2, k3, k4⟩ := (right_ok (M.cms c hc) (hw c hc)).1
    exact ⟨by unfold okN; omega, by omega, k4⟩

/-! ### The whole -/
theorem gbody_put {a b q : Int} {ds : List Idn} {cs : List Cmdn} (h : rErr a b q ds cs = 0) (hw : ∀ c ∈ cs, c.2.2 < 18446744073709551616) : gbody (recB a b q ds cs) = .ok (a, b, q, ds, cs.map cmdC) := by
  have M := may_of h
  have h1 := M.id; have h2 := M.seq; have h3 := M.deps; have h4 := M.cmds
  have hm := rerr_map h hw
  have e0 : recB a b q ds cs = enc a.toNat ++ (enc b.toNat ++ (enc q.toNat ++ (enc ds.length ++ ((ds.map idB).flatten ++ (enc cs.length ++ ((cs.map cmdB).flatten ++ [])))))) := by
    unfold recB headB depsB cmdsB encI; simp only [List.append_assoc, List.append_nil]
  unfold gbody
  rw [e0, gnum_enc (by omega)]; simp only []
  rw [gnum_enc (by omega)]; simp only []
  rw [gnum_enc (by omega)]; simp only []
  rw [gnum_enc (by omega)]; simp only []
  rw [if_neg (by omega), many_put (g := gid) (p := idB) (c := id) ds (fun x hx r => by have := M.ids x hx; exact gid_id (by omega) r)]; simp only []
  rw [gnum_enc (by omega)]; simp only []
  rw [if_neg (by omega), many_put (g := gcmd) (p := cmdB) (c := cmdC) cs (fun c hc r => gcmd_cmd (right_ok (M.cms c hc) (hw c hc)).1 r)]; simp only [List.map_id_fun, id]
  rw [Int.toNat_of_nonneg (by omega), Int.toNat_of_nonneg (by omega), Int.toNat_of_nonneg (by omega), hm]
  simp
theorem gbody_out {zs : List UInt8} {a b q : Int} {ds : List Idn} {cs : List Cmdn} (h : gbody zs = .ok (a, b, q, ds, cs)) : zs = recB a b q ds cs ∧ rErr a b q ds cs = 0 ∧ ∀ c ∈ cs, okC c ∧ cmdC c = c := by
  unfold gbody at h
  cases h1 : gnum zs with
  | error e => rw [h1] at h; cases h
  | ok v =>
  obtain ⟨a', r1⟩ := v
  rw [h1] at h; simp only [] at h
  cases h2 : gnum r1 with
  | error e => rw [h2] at h; cases h
  | ok v =>
  obtain ⟨b', r2⟩ := v
  rw [h2] at h; simp only [] at h
  cases h3 : gnum r2 with
  | error e => rw [h3] at h; cases h
  | ok v =>
  obtain ⟨q', r3⟩ := v
  rw [h3] at h; simp only [] at h
  cases h4 : gnum r3 with
  | error e => rw [h4] at h; cases h
  | ok v =>
  obtain ⟨n, r4⟩ := v
  rw [h4] at h; simp only [] at h
  split at h
  · cases h
  · cases h5 : gmany gid n r4 with
    | error e => rw [h5] at h; cases h
    | ok v =>
    obtain ⟨ds', r5⟩ := v
    rw [h5] at h; simp only [] at h
    cases h6 : gnum r5 with
    | error e => rw [h6] at h; cases h
    | ok v =>
    obtain ⟨m, r6⟩ := v
    rw [h6] at h; simp only [] at h
    split at h
    · cases h
    · cases h7 : gmany gcmd m r6 with
      | error e => rw [h7] at h; cases h
      | ok v =>
      obtain ⟨cs', r7⟩ := v
      rw [h7] at h; simp only [] at h
      split at h
      · cases h
      · rename_i hr
        split at h
        · cases h
        · rename_i hE
          injection h with h
          injection h with ha h
          injection h with hb h
          injection h with hq h
          injection h with hd hc
          subst ha hb hq hd hc
          obtain ⟨d1, d2, -⟩ := many_out (g := gid) (p := idB) (P := fun _ => True) (fun zs x r h => ⟨(gid_out h).1, trivial⟩) n r4 ds' r5 h5
          obtain ⟨c1, c2, c3⟩ := many_out (g := gcmd) (p := cmdB) (P := fun c => okC c ∧ cmdC c = c) (fun zs x r h => gcmd_out h) m r6 cs' r7 h7
          have hr7 : r7 = [] := Classical.byContradiction hr
          refine ⟨?_, by omega, c3⟩
          unfold recB headB depsB cmdsB encI
          simp only [Int.toNat_natCast]
          rw [(gnum_out h1).1, (gnum_out h2).1, (gnum_out h3).1, (gnum_out h4).1, d1, (gnum_out h6).1, c1, d2, c2, hr7]
          simp only [List.append_assoc, List.append_nil]
theorem dec_put {a b q : Int} {ds : List Idn} {cs : List Cmdn} (h : rErr a b q ds cs = 0) (hw : ∀ c ∈ cs, c.2.2 < 18446744073709551616) : dec (sealt (recB a b q ds cs)) = .ok (a, b, q, ds, cs.map cmdC) := by
  unfold dec; rw [opn_seal]; simp only []; rw [if_neg (by decide)]; exact gbody_put h hw
theorem dec_out {zs : List UInt8} {a b q : Int} {ds : List Idn} {cs : List Cmdn} (h : dec zs = .ok (a, b, q, ds, cs)) : zs = sealt (recB a b q ds cs) ∧ rErr a b q ds cs = 0 ∧ ∀ c ∈ cs, okC c ∧ cmdC c = c := by
  unfold dec at h
  split at h
  · cases h
  · rename_i h0
    obtain ⟨e1, e2, e3⟩ := gbody_out h
    refine ⟨?_, e2, e3⟩
    have h0 : (opn zs).2 = 0 := by omega
    by_cases h8 : zs.length < 8
    · rw [opn_short h8] at h0; cases h0
    · have hb := (opn_big h8).1 h0
      by_cases hd : un (zs.drop (zs.length - 8)) = dg (zs.take (zs.length - 8))
      · rw [opn_ok h8 hd] at e1
        simp only [] at e1
        rw [← e1]
        unfold sealt
        rw [← hb, List.take_append_drop]
      · rw [opn_bad h8 hd] at h0; cases h0
end Go.Proofs.Ytapjjeffegnflaa.Cod
