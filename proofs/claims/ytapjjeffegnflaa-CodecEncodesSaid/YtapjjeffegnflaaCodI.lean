/- What the document's Read (layer 11, codec) goes by: its steps, plain, and what it has in memory. Conditions: those in each statement. -/
import Derived.Test.YtapjjeffegnflaaCodG
import Derived.Test.YtapjjeffegnflaaIdD

/- Part: What the document's Read (layer 11, codec) goes by: which steps lead to which record, plain; boxes that turn. Conditions: those in each statement. -/
namespace Go.Proofs.Ytapjjeffegnflaa.Cod
open Go.RowKit F64 Cmd Bat Ids Rec Wir Dig
set_option linter.unusedVariables false

/-! ### Steps -/
/-- One step: from error e0 on; what it took, the error behind it, the rest. -/
def Lk {α : Type} (r : Except Nat (α × List UInt8)) (e0 : Nat) (x : α) (e : Nat) (ys : List UInt8) : Prop := (e0 = 0 ∧ r = .ok (x, ys) ∧ e = 0) ∨ (e0 = 0 ∧ r = .error e ∧ e ≠ 0) ∨ (e0 ≠ 0 ∧ e = e0)
theorem many_snoc {α : Type} {g : List UInt8 → Except Nat (α × List UInt8)} : ∀ (k : Nat) (zs : List UInt8) (l : List α) (r : List UInt8), gmany g k zs = .ok (l, r) →
    (∀ x r', g r = .ok (x, r') → gmany g (k + 1) zs = .ok (l ++ [x], r')) ∧ (∀ e, g r = .error e → ∀ n, k < n → gmany g n zs = .error e)
  | 0, zs, l, r, h => by
    unfold gmany at h; injection h with h; injection h with h1 h2; subst h1 h2
    refine ⟨fun x r' hx => by unfold gmany; rw [hx]; rfl, fun e he n hn => ?_⟩
    obtain ⟨m, rfl⟩ : ∃ m, n = m + 1 := ⟨n - 1, by omega⟩
    unfold gmany; rw [he]
  | k + 1, zs, l, r, h => by
    unfold gmany at h
    cases h1 : g zs with
    | error e => rw [h1] at h; cases h
    | ok v =>
      obtain ⟨x0, r1⟩ := v
      rw [h1] at h; simp only [] at h
      cases h2 : gmany g k r1 with
      | error e => rw [h2] at h; cases h
      | ok v =>
        obtain ⟨l2, r2⟩ := v
        rw [h2] at h; simp only [] at h
        injection h with h; injection h with h3 h4; subst h3 h4
        obtain ⟨i1, i2⟩ := many_snoc k r1 l2 r2 h2
        refine ⟨fun x r' hx => ?_, fun e he n hn => ?_⟩
        · rw [gmany, h1]; simp only []; rw [i1 x r' hx]; rfl
        · obtain ⟨m, rfl⟩ : ∃ m, n = m + 1 := ⟨n - 1, by omega⟩
          rw [gmany, h1]; simp only []; rw [i2 e he m (by omega)]
/-- On the way through many: behind k of n. -/
def Way {α : Type} (g : List UInt8 → Except Nat (α × List UInt8)) (n : Nat) (e0 : Nat) (zs : List UInt8) (k : Nat) (l : List α) (e : Nat) (ys : List UInt8) : Prop := (e0 = 0 ∧ e = 0 ∧ gmany g k zs = .ok (l, ys)) ∨ (e0 = 0 ∧ e ≠ 0 ∧ gmany g n zs = .error e) ∨ (e0 ≠ 0 ∧ e = e0)
theorem Way.start {α : Type} {g : List UInt8 → Except Nat (α × List UInt8)} (n e0 : Nat) (zs : List UInt8) : Way g n e0 zs 0 [] e0 zs := by
  by_cases h : e0 = 0
  · exact .inl ⟨h, h, rfl⟩
  · exact .inr (.inr ⟨h, rfl⟩)
theorem Way.step {α : Type} {g : List UInt8 → Except Nat (α × List UInt8)} {n e0 k : Nat} {zs : List UInt8} {l : List α} {ys : List UInt8} (h : Way g n e0 zs k l 0 ys) (hk : k < n) {x : α} {e : Nat} {ys' : List UInt8} (hl : (e = 0 ∧ g ys = .ok (x, ys')) ∨ (e ≠ 0 ∧ g ys = .error e)) : Way g n e0 zs (k + 1) (l ++ [x]) e ys' := by
  rcases h with ⟨h0, -, h1⟩ | ⟨-, h1, -⟩ | ⟨h0, h1⟩
  · obtain ⟨i1, i2⟩ := many_snoc k zs l ys h1
    rcases hl with ⟨l1, l2⟩ | ⟨l1, l2⟩
    · exact .inl ⟨h0, l1, i1 x ys' l2⟩
    · exact .inr (.inl ⟨h0, l1, i2 e l2 n hk⟩)
  · exact absurd rfl h1
  · exact absurd h1.symm h0
theorem Way.fin {α : Type} {g : List UInt8 → Except Nat (α × List UInt8)} {n e0 k : Nat} {zs : List UInt8} {l : List α} {e : Nat} {ys : List UInt8} (h : Way g n e0 zs k l e ys) (hk : e = 0 → k = n) : Lk (gmany g n zs) e0 l e ys := by
  rcases h with ⟨h0, h1, h2⟩ | ⟨h0, h1, h2⟩ | h
  · rw [hk h1] at h2; exact .inl ⟨h0, h2, h1⟩
  · exact .inr (.inl ⟨h0, h2, h1⟩)
  · exact .inr (.inr h)
/-- An id: two numbers. -/
theorem id_step {ys y1 y2 : List UInt8} {a b e1 e2 : Nat} (h1 : Lk (gnum ys) 0 a e1 y1) (h2 : Lk (gnum y1) e1 b e2 y2) : (e2 = 0 ∧ gid ys = .ok (((a : Int), (b : Int)), y2)) ∨ (e2 ≠ 0 ∧ gid ys = .error e2) := by
  unfold gid
  rcases h1 with ⟨-, i1, i2⟩ | ⟨-, i1, i2⟩ | ⟨i1, -⟩
  · rw [i1]; simp only []
    rcases h2 with ⟨-, j1, j2⟩ | ⟨-, j1, j2⟩ | ⟨j1, -⟩
    · rw [j1]; exact .inl ⟨j2, rfl⟩
    · rw [j1]; exact .inr ⟨j2, rfl⟩
    · exact absurd i2 j1
  · rw [i1]
    rcases h2 with ⟨j1, -⟩ | ⟨j1, -⟩ | ⟨j1, j2⟩
    · exact absurd j1 i2
    · exact absurd j1 i2
    · subst j2; exact .inr ⟨i2, rfl⟩
  · exact absurd rfl i1
/-- All steps: the record, or the first that is wrong. -/
theorem body_steps {zs y1 y2 y3 y4 y6 y7 y9 : List UInt8} {a b q n m e1 e2 e3 e4 e5 e6 e7 e8 e9 e10 : Nat} {ds : List Idn} {cs : List Cmdn} {e11 : Int}
    (h1 : Lk (gnum zs) 0 a e1 y1) (h2 : Lk (gnum y1) e1 b e2 y2) (h3 : Lk (gnum y2) e2 q e3 y3) (h4 : Lk (gnum y3) e3 n e4 y4) (h5 : e5 = if e4 = 0 ∧ 16 < n then 10 else e4)
    (h6 : Lk (gmany gid n y4) e5 ds e6 y6) (h7 : Lk (gnum y6) e6 m e7 y7) (h8 : e8 = if e7 = 0 ∧ 8 < m then 5 else e7) (h9 : Lk (gmany gcmd m y7) e8 cs e9 y9)
    (h10 : e10 = if e9 = 0 ∧ y9 ≠ [] then 3 else e9) (h11 : e11 = if e10 = 0 then rErr a b q ds cs else (e10 : Int)) :
    (e11 = 0 ∧ gbody zs = .ok ((a : Int), (b : Int), (q : Int), ds, cs)) ∨ (e11 ≠ 0 ∧ gbody zs = .error e11.toNat) := by
  unfold gbody
  rcases h1 with ⟨-, i1, i2⟩ | ⟨-, i1, i2⟩ | ⟨i1, -⟩
  case inr.inl =>
    rw [i1]
    obtain rfl : e2 = e1 := by rcases h2 with ⟨j, -⟩ | ⟨j, -⟩ | ⟨-, j⟩ <;> omega
    obtain rfl : e3 = e2 := by rcases h3 with ⟨j, -⟩ | ⟨j, -⟩ | ⟨-, j⟩ <;> omega
    obtain rfl : e4 = e3 := by rcases h4 with ⟨j, -⟩ | ⟨j, -⟩ | ⟨-, j⟩ <;> omega
    rw [if_neg (by omega)] at h5; subst h5
    obtain rfl : e6 = e5 := by rcases h6 with ⟨j, -⟩ | ⟨j, -⟩ | ⟨-, j⟩ <;> omega
    obtain rfl : e7 = e6 := by rcases h7 with ⟨j, -⟩ | ⟨j, -⟩ | ⟨-, j⟩ <;> omega
    rw [if_neg (by omega)] at h8; subst h8
    obtain rfl : e9 = e8 := by rcases h9 with ⟨j, -⟩ | ⟨j, -⟩ | ⟨-, j⟩ <;> omega
    rw [if_neg (by omega)] at h10; subst h10
    rw [if_neg i2] at h11; subst h11
    exact .inr ⟨by omega, by simp⟩
  case inr.inr => exact absurd rfl i1
  case inl =>
  rw [i1]; simp only []
  subst i2
  rcases h2 with ⟨-, i1, i2⟩ | ⟨-, i1, i2⟩ | ⟨i1, -⟩
  case inr.inl =>
    rw [i1]
    obtain rfl : e3 = e2 := by rcases h3 with ⟨j, -⟩ | ⟨j, -⟩ | ⟨-, j⟩ <;> omega
    obtain rfl : e4 = e3 := by rcases h4 with ⟨j, -⟩ | ⟨j, -⟩ | ⟨-, j⟩ <;> omega
    rw [if_neg (by omega)] at h5; subst h5
    obtain rfl : e6 = e5 := by rcases h6 with ⟨j, -⟩ | ⟨j, -⟩ | ⟨-, j⟩ <;> omega
    obtain rfl : e7 = e6 := by rcases h7 with ⟨j, -⟩ | ⟨j, -⟩ | ⟨-, j⟩ <;> omega
    rw [if_neg (by omega)] at h8; subst h8
    obtain rfl : e9 = e8 := by rcases h9 with ⟨j, -⟩ | ⟨j, -⟩ | ⟨-, j⟩ <;> omega
    rw [if_neg (by omega)] at h10; subst h10
    rw [if_neg i2] at h11; subst h11
    exact .inr ⟨by omega, by simp⟩
  case inr.inr => exact absurd rfl i1
  case inl =>
  rw [i1]; simp only []
  subst i2
  rcases h3 with ⟨-, i1, i2⟩ | ⟨-, i1, i2⟩ | ⟨i1, -⟩
  case inr.inl =>
    rw [i1]
    obtain rfl : e4 = e3 := by rcases h4 with ⟨j, -⟩ | ⟨j, -⟩ | ⟨-, j⟩ <;> omega
    rw [if_neg (by omega)] at h5; subst h5
    obtain rfl : e6 = e5 := by rcases h6 with ⟨j, -⟩ | ⟨j, -⟩ | ⟨-, j⟩ <;> omega
    obtain rfl : e7 = e6 := by rcases h7 with ⟨j, -⟩ | ⟨j, -⟩ | ⟨-, j⟩ <;> omega
    rw [if_neg (by omega)] at h8; subst h8
    obtain rfl : e9 = e8 := by rcases h9 with ⟨j, -⟩ | ⟨j, -⟩ | ⟨-, j⟩ <;> omega
    rw [if_neg (by omega)] at h10; subst h10
    rw [if_neg i2] at h11; subst h11
    exact .inr ⟨by omega, by simp⟩
  case inr.inr => exact absurd rfl i1
  case inl =>
  rw [i1]; simp only []
  subst i2
  rcases h4 with ⟨-, i1, i2⟩ | ⟨-, i1, i2⟩ | ⟨i1, -⟩
  case inr.inl =>
    rw [i1]
    rw [if_neg (by omega)] at h5; subst h5
    obtain rfl : e6 = e5 := by rcases h6 with ⟨j, -⟩ | ⟨j, -⟩ | ⟨-, j⟩ <;> omega
    obtain rfl : e7 = e6 := by rcases h7 with ⟨j, -⟩ | ⟨j, -⟩ | ⟨-, j⟩ <;> omega
    rw [if_neg (by omega)] at h8; subst h8
    obtain rfl : e9 = e8 := by rcases h9 with ⟨j, -⟩ | ⟨j, -⟩ | ⟨-, j⟩ <;> omega
    rw [if_neg (by omega)] at h10; subst h10
    rw [if_neg i2] at h11; subst h11
    exact .inr ⟨by omega, by simp⟩
  case inr.inr => exact absurd rfl i1
  case inl =>
  rw [i1]; simp only []
  subst i2
  by_cases hn : 16 < n
  · rw [if_pos hn]
    rw [if_pos ⟨rfl, hn⟩] at h5; subst h5
    obtain rfl : e6 = 10 := by rcases h6 with ⟨j, -⟩ | ⟨j, -⟩ | ⟨-, j⟩ <;> omega
    obtain rfl : e7 = 10 := by rcases h7 with ⟨j, -⟩ | ⟨j, -⟩ | ⟨-, j⟩ <;> omega
    rw [if_neg (by omega)] at h8; subst h8
    obtain rfl : e9 = 10 := by rcases h9 with ⟨j, -⟩ | ⟨j, -⟩ | ⟨-, j⟩ <;> omega
    rw [if_neg (by omega)] at h10; subst h10
    rw [if_neg (by omega)] at h11; subst h11
    exact .inr ⟨by omega, rfl⟩
  rw [if_neg hn]
  rw [if_neg (by omega)] at h5; subst h5
  rcases h6 with ⟨-, i1, i2⟩ | ⟨-, i1, i2⟩ | ⟨i1, -⟩
  case inr.inl =>
    rw [i1]
    obtain rfl : e7 = e6 := by rcases h7 with ⟨j, -⟩ | ⟨j, -⟩ | ⟨-, j⟩ <;> omega
    rw [if_neg (by omega)] at h8; subst h8
    obtain rfl : e9 = e8 := by rcases h9 with ⟨j, -⟩ | ⟨j, -⟩ | ⟨-, j⟩ <;> omega
    rw [if_neg (by omega)] at h10; subst h10
    rw [if_neg i2] at h11; subst h11
    exact .inr ⟨by omega, by simp⟩
  case inr.inr => exact absurd rfl i1
  case inl =>
  rw [i1]; simp only []
  subst i2
  rcases h7 with ⟨-, i1, i2⟩ | ⟨-, i1, i2⟩ | ⟨i1, -⟩
  case inr.inl =>
    rw [i1]
    rw [if_neg (by omega)] at h8; subst h8
    obtain rfl : e9 = e8 := by rcases h9 with ⟨j, -⟩ | ⟨j, -⟩ | ⟨-, j⟩ <;> omega
    rw [if_neg (by omega)] at h10; subst h10
    rw [if_neg i2] at h11; subst h11
    exact .inr ⟨by omega, by simp⟩
  case inr.inr => exact absurd rfl i1
  case inl =>
  rw [i1]; simp only []
  subst i2
  by_cases hm : 8 < m
  · rw [if_pos hm]
    rw [if_pos ⟨rfl, hm⟩] at h8; subst h8
    obtain rfl : e9 = 5 := by rcases h9 with ⟨j, -⟩ | ⟨j, -⟩ | ⟨-, j⟩ <;> omega
    rw [if_neg (by omega)] at h10; subst h10
    rw [if_neg (by omega)] at h11; subst h11
    exact .inr ⟨by omega, rfl⟩
  rw [if_neg hm]
  rw [if_neg (by omega)] at h8; subst h8
  rcases h9 with ⟨-, i1, i2⟩ | ⟨-, i1, i2⟩ | ⟨i1, -⟩
  case inr.inl =>
    rw [i1]
    rw [if_neg (by omega)] at h10; subst h10
    rw [if_neg i2] at h11; subst h11
    exact .inr ⟨by omega, by simp⟩
  case inr.inr => exact absurd rfl i1
  case inl =>
  rw [i1]; simp only []
  subst i2
  by_cases hy : y9 = []
  · rw [if_neg (by simp [hy])]
    rw [if_neg (by simp [hy])] at h10; subst h10
    rw [if_pos rfl] at h11; subst h11
    by_cases hr : rErr a b q ds cs = 0
    · rw [if_neg (by simp [hr])]; exact .inl ⟨hr, rfl⟩
    · rw [if_pos hr]; exact .inr ⟨hr, rfl⟩
  · rw [if_pos hy]
    rw [if_pos ⟨rfl, hy⟩] at h10; subst h10
    rw [if_neg (by omega)] at h11; subst h11
    exact .inr ⟨by omega, rfl⟩
end Go.Proofs.Ytapjjeffegnflaa.Cod

/- Part: What the document's Read (layer 11, codec) has in memory: a source, a record's box, rows that grow. Conditions: those in each statement. -/
namespace Go.Proofs.Ytapjjeffegnflaa.Cod
open Go.RowKit F64 Cmd Bat Ids Rec Wir Dig
set_option linter.unusedVariables false

/-! ### A block of five -/
structure Five (b : Nat) (x0 x1 x2 x3 x4 : Value) (t : TypeId) (W : World) : Prop where
  blk : W.heap[b]? = some (.cells #[x0, x1, x2, x3, x4] t (0, 0))
theorem Five.new (W : World) (x0 x1 x2 x3 x4 : Value) (t : TypeId) : Five W.heap.size x0 x1 x2 x3 x4 t (W.alloc (.cells #[x0, x1, x2, x3, x4] t)) := ⟨heap_alloc_new W _⟩
section
variable {b : Nat} {x0 x1 x2 x3 x4 : Value} {t : TypeId} {W : World}
theorem Five.lt (h : Five b x0 x1 x2 x3 x4 t W) : b < W.heap.size := (Array.getElem?_eq_some_iff.1 h.blk).1
theorem Five.cells (h : Five b x0 x1 x2 x3 x4 t W) : W.cell? ⟨b, 0, none⟩ = some x0 ∧ W.cell? ⟨b, 1, none⟩ = some x1 ∧ W.cell? ⟨b, 2, none⟩ = some x2 ∧ W.cell? ⟨b, 3, none⟩ = some x3 ∧ W.cell? ⟨b, 4, none⟩ = some x4 :=
  ⟨row_cell h.blk rfl, row_cell h.blk rfl, row_cell h.blk rfl, row_cell h.blk rfl, row_cell h.blk rfl⟩
theorem Five.free (h : Five b x0 x1 x2 x3 x4 t W) : W.frozen? ⟨b, 0, none⟩ = false ∧ W.frozen? ⟨b, 1, none⟩ = false ∧ W.frozen? ⟨b, 2, none⟩ = false ∧ W.frozen? ⟨b, 3, none⟩ = false ∧ W.frozen? ⟨b, 4, none⟩ = false :=
  ⟨row_free h.blk, row_free h.blk, row_free h.blk, row_free h.blk, row_free h.blk⟩
theorem Five.same {W' : World} (h : Five b x0 x1 x2 x3 x4 t W) (e : W'.heap[b]? = W.heap[b]?) : Five b x0 x1 x2 x3 x4 t W' := ⟨e.trans h.blk⟩
theorem Five.gb {g : Nat} {W' : World} (h : Five b x0 x1 x2 x3 x4 t W) (hb : W.grownBy W' (some g)) (hne : b ≠ g) : Five b x0 x1 x2 x3 x4 t W' := h.same (hb.block b h.lt (fun e => hne (Option.some.inj e)))
theorem Five.alloc (h : Five b x0 x1 x2 x3 x4 t W) (o : Obj) : Five b x0 x1 x2 x3 x4 t (W.alloc o) := h.same (Below.heap_alloc W o b h.lt)
theorem Five.far (h : Five b x0 x1 x2 x3 x4 t W) {c : Nat} (hne : b ≠ c) (i : Nat) (v : Value) : Five b x0 x1 x2 x3 x4 t (W.setCell ⟨c, i, none⟩ v) := h.same (Below.heap_setCell W ⟨c, i, none⟩ v b hne)
theorem Five.set0 (h : Five b x0 x1 x2 x3 x4 t W) (v : Value) : Five b v x1 x2 x3 x4 t (W.setCell ⟨b, 0, none⟩ v) := ⟨Go.Joins.block_setCell h.blk v⟩
theorem Five.set1 (h : Five b x0 x1 x2 x3 x4 t W) (v : Value) : Five b x0 v x2 x3 x4 t (W.setCell ⟨b, 1, none⟩ v) := ⟨Go.Joins.block_setCell h.blk v⟩
theorem Five.set2 (h : Five b x0 x1 x2 x3 x4 t W) (v : Value) : Five b x0 x1 v x3 x4 t (W.setCell ⟨b, 2, none⟩ v) := ⟨Go.Joins.block_setCell h.blk v⟩
theorem Five.set3 (h : Five b x0 x1 x2 x3 x4 t W) (v : Value) : Five b x0 x1 x2 v x4 t (W.setCell ⟨b, 3, none⟩ v) := ⟨Go.Joins.block_setCell h.blk v⟩
theorem Five.set4 (h : Five b x0 x1 x2 x3 x4 t W) (v : Value) : Five b x0 x1 x2 x3 v t (W.setCell ⟨b, 4, none⟩ v) := ⟨Go.Joins.block_setCell h.blk v⟩
end
/-- The result's box is written. -/
theorem five_fin {b : Nat} {x0 x1 x2 x3 x4 : Value} {t : TypeId} {W X : World} (F : Five b x0 x1 x2 x3 x4 t X) (B : Below W.heap.size W X) (hb : W.heap.size ≤ b) (y0 y1 y2 y3 y4 : Value) :
    Five b y0 y1 y2 y3 y4 t (((((X.setCell ⟨b, 0, none⟩ y0).setCell ⟨b, 1, none⟩ y1).setCell ⟨b, 2, none⟩ y2).setCell ⟨b, 3, none⟩ y3).setCell ⟨b, 4, none⟩ y4) ∧ Below W.heap.size W (((((X.setCell ⟨b, 0, none⟩ y0).setCell ⟨b, 1, none⟩ y1).setCell ⟨b, 2, none⟩ y2).setCell ⟨b, 3, none⟩ y3).setCell ⟨b, 4, none⟩ y4) :=
  ⟨((((F.set0 y0).set1 y1).set2 y2).set3 y3).set4 y4, ((((B.setCell hb y0).setCell hb y1).setCell hb y2).setCell hb y3).setCell hb y4⟩
/-- A block of two. -/
structure Duo (b : Nat) (x y : Value) (t : TypeId) (W : World) : Prop where
  blk : W.heap[b]? = some (.cells #[x, y] t (0, 0))
theorem Duo.new (W : World) (x y : Value) (t : TypeId) : Duo W.heap.size x y t (W.alloc (.cells #[x, y] t)) := ⟨heap_alloc_new W _⟩
theorem Duo.lt {b : Nat} {x y : Value} {t : TypeId} {W : World} (h : Duo b x y t W) : b < W.heap.size := (Array.getElem?_eq_some_iff.1 h.blk).1
theorem Duo.cells {b : Nat} {x y : Value} {t : TypeId} {W : World} (h : Duo b x y t W) : W.cell? ⟨b, 0, none⟩ = some x ∧ W.cell? ⟨b, 1, none⟩ = some y ∧ W.frozen? ⟨b, 0, none⟩ = false ∧ W.frozen? ⟨b, 1, none⟩ = false := ⟨row_cell h.blk rfl, row_cell h.blk rfl, row_free h.blk, row_free h.blk⟩
theorem Duo.gb {b g : Nat} {x y : Value} {t : TypeId} {W W' : World} (h : Duo b x y t W) (hb : W.grownBy W' (some g)) (hne : b ≠ g) : Duo b x y t W' := ⟨(hb.block b h.lt (fun e => hne (Option.some.inj e))).trans h.blk⟩
theorem Duo.set0 {b : Nat} {x y : Value} {t : TypeId} {W : World} (h : Duo b x y t W) (v : Value) : Duo b v y t (W.setCell ⟨b, 0, none⟩ v) := ⟨Go.Joins.block_setCell h.blk v⟩
theorem Duo.set1 {b : Nat} {x y : Value} {t : TypeId} {W : World} (h : Duo b x y t W) (v : Value) : Duo b x v t (W.setCell ⟨b, 1, none⟩ v) := ⟨Go.Joins.block_setCell h.blk v⟩

/-! ### All that Read has -/
/-- The source at block g, the record's box at block r; w: the elder world. -/
structure St (w : World) (g r : Nat) (ys : List UInt8) (e : Nat) (a b q : Int) (v u : Value) (W : World) : Prop where
  src : Src w g ys e W
  box : Five r (.int .i64 a) (.int .i64 b) (.int .i64 q) v u 27 W
  far : g < r
  res : Five w.heap.size (.int .i64 0) (.int .i64 0) (.int .i64 0) (.slice none 0 0) (.slice none 0 0) 27 W
  low : w.heap.size < g
section
variable {w : World} {g r : Nat} {ys : List UInt8} {e : Nat} {a b q : Int} {v u : Value} {W : World}
theorem St.facts (h : St w g r ys e a b q v u W) : W.cell? ⟨g, 1, none⟩ = some (.int .i64 (e : Int)) ∧ W.frozen? ⟨g, 1, none⟩ = false ∧ W.cell? ⟨r, 0, none⟩ = some (.int .i64 a) ∧ W.cell? ⟨r, 1, none⟩ = some (.int .i64 b) ∧ W.cell? ⟨r, 2, none⟩ = some (.int .i64 q) ∧ W.cell? ⟨r, 3, none⟩ = some v ∧ W.cell? ⟨r, 4, none⟩ = some u
    ∧ W.frozen? ⟨r, 0, none⟩ = false ∧ W.frozen? ⟨r, 1, none⟩ = false ∧ W.frozen? ⟨r, 2, none⟩ = false ∧ W.frozen? ⟨r, 3, none⟩ = false ∧ W.frozen? ⟨r, 4, none⟩ = false := by
  obtain ⟨c0, c1, c2, c3, c4⟩ := h.box.cells
  obtain ⟨f0, f1, f2, f3, f4⟩ := h.box.free
  exact ⟨h.src.err, h.src.f1, c0, c1, c2, c3, c4, f0, f1, f2, f3, f4⟩
theorem St.own (h : St w g r ys e a b q v u W) : w.heap.size ≤ r := Nat.le_trans h.src.own (Nat.le_of_lt h.far)
theorem St.lowr (h : St w g r ys e a b q v u W) : w.heap.size < r := Nat.lt_trans h.low h.far
theorem St.step (h : St w g r ys e a b q v u W) {W' : World} {ys' : List UInt8} {e' : Nat} (hb : W.grownBy W' (some g)) (hs : Src w g ys' e' W') : St w g r ys' e' a b q v u W' := ⟨hs, h.box.gb hb (Nat.ne_of_gt h.far), h.far, h.res.gb hb (Nat.ne_of_lt h.low), h.low⟩
theorem St.alloc (h : St w g r ys e a b q v u W) (o : Obj) : St w g r ys e a b q v u (W.alloc o) := ⟨h.src.alloc o, h.box.alloc o, h.far, h.res.alloc o, h.low⟩
theorem St.drew (h : St w g r ys e a b q v u W) : St w g r ys e a b q v u W.drew := ⟨h.src.on (Below.refl _ _).drew, h.box.same rfl, h.far, h.res.same rfl, h.low⟩
theorem St.fail (h : St w g r ys e a b q v u W) (e' : Nat) : St w g r ys e' a b q v u (W.setCell ⟨g, 1, none⟩ (.int .i64 (e' : Int))) := ⟨h.src.fail e', h.box.far (Nat.ne_of_gt h.far) _ _, h.far, h.res.far (Nat.ne_of_lt h.low) _ _, h.low⟩
theorem St.other (h : St w g r ys e a b q v u W) {c : Nat} (hc : r < c) (i : Nat) (x : Value) : St w g r ys e a b q v u (W.setCell ⟨c, i, none⟩ x) :=
  ⟨h.src.far (Nat.ne_of_lt (Nat.lt_trans h.far hc)) (Nat.le_trans h.own (Nat.le_of_lt hc)) _ _, h.box.far (Nat.ne_of_lt hc) _ _, h.far, h.res.far (Nat.ne_of_lt (Nat.lt_trans h.lowr hc)) _ _, h.low⟩
theorem St.put0 (h : St w g r ys e a b q v u W) (x : Int) : St w g r ys e x b q v u (W.setCell ⟨r, 0, none⟩ (.int .i64 x)) := ⟨h.src.far (Nat.ne_of_lt h.far) h.own _ _, h.box.set0 _, h.far, h.res.far (Nat.ne_of_lt h.lowr) _ _, h.low⟩
theorem St.put1 (h : St w g r ys e a b q v u W) (x : Int) : St w g r ys e a x q v u (W.setCell ⟨r, 1, none⟩ (.int .i64 x)) := ⟨h.src.far (Nat.ne_of_lt h.far) h.own _ _, h.box.set1 _, h.far, h.res.far (Nat.ne_of_lt h.lowr) _ _, h.low⟩
theorem St.put2 (h : St w g r ys e a b q v u W) (x : Int) : St w g r ys e a b x v u (W.setCell ⟨r, 2, none⟩ (.int .i64 x)) := ⟨h.src.far (Nat.ne_of_lt h.far) h.own _ _, h.box.set2 _, h.far, h.res.far (Nat.ne_of_lt h.lowr) _ _, h.low⟩
theorem St.put3 (h : St w g r ys e a b q v u W) (x : Value) : St w g r ys e a b q x u (W.setCell ⟨r, 3, none⟩ x) := ⟨h.src.far (Nat.ne_of_lt h.far) h.own _ _, h.box.set3 _, h.far, h.res.far (Nat.ne_of_lt h.lowr) _ _, h.low⟩
theorem St.put4 (h : St w g r ys e a b q v u W) (x : Value) : St w g r ys e a b q v x (W.setCell ⟨r, 4, none⟩ x) := ⟨h.src.far (Nat.ne_of_lt h.far) h.own _ _, h.box.set4 _, h.far, h.res.far (Nat.ne_of_lt h.lowr) _ _, h.low⟩
theorem Src.under {w W W' : World} {g : Nat} {zs : List UInt8} {e : Int} (h : Src w g zs e W) {B : Nat} (hb : Below B W W') (hB : g < B) : Src w g zs e W' := by
  obtain ⟨h1, h2, h3, ⟨p, cap, h4, h5⟩, h6, h7, h8⟩ := h
  exact ⟨h1.trans (hb.mono (Nat.le_of_lt (Nat.lt_of_le_of_lt h2 hB))), h2, Nat.lt_of_lt_of_le h3 hb.size, ⟨p, cap, (hb.cell (p := ⟨g, 0, none⟩) hB).trans h4, h5⟩, (hb.cell (p := ⟨g, 1, none⟩) hB).trans h6, (hb.frozen (p := ⟨g, 0, none⟩) hB).trans h7, (hb.frozen (p := ⟨g, 1, none⟩) hB).trans h8⟩
theorem St.under (h : St w g r ys e a b q v u W) {B : Nat} {W' : World} (hb : Below B W W') (hB : r < B) : St w g r ys e a b q v u W' :=
  ⟨h.src.under hb (Nat.lt_trans h.far hB), h.box.same (hb.block r hB), h.far, h.res.same (hb.block _ (Nat.lt_trans h.lowr hB)), h.low⟩
end

/-- The beginning. -/
theorem st_start {w W : World} {ys : List UInt8} {p : Option Addr} {k cap : Nat} (hb : Below w.heap.size w W) (hr : Five w.heap.size (.int .i64 0) (.int .i64 0) (.int .i64 0) (.slice none 0 0) (.slice none 0 0) 27 W) (hk : ys.length = k) (hy : layB.Row w (.slice p k cap) ys) :
    St w W.heap.size (W.heap.size + 1) ys 0 0 0 0 (.slice none 0 0) (.slice none 0 0) ((W.alloc (.cells #[.slice p k cap, .int .i64 0] 66)).alloc (.cells #[.int .i64 0, .int .i64 0, .int .i64 0, .slice none 0 0, .slice none 0 0] 27)) := by
  subst hk
  have D := Duo.new W (.slice p ys.length cap) (.int .i64 0) 66
  have F := Five.new (W.alloc (.cells #[.slice p ys.length cap, .int .i64 0] 66)) (.int .i64 0) (.int .i64 0) (.int .i64 0) (.slice none 0 0) (.slice none 0 0) 27
  have e : (W.alloc (.cells #[.slice p ys.length cap, .int .i64 0] 66)).heap.size = W.heap.size + 1 := by simp
  rw [e] at F
  have hl := hr.lt
  obtain ⟨c0, c1, f0, f1⟩ := D.cells
  have S : Src w W.heap.size ys 0 (W.alloc (.cells #[.slice p ys.length cap, .int .i64 0] 66)) := ⟨hb.alloc hb.size _, hb.size, D.lt, ⟨p, cap, c0, hy⟩, c1, f0, f1⟩
  exact ⟨S.alloc _, F, Nat.lt_succ_self _, (hr.alloc _).alloc _, hl⟩

/-! ### A number, whatever the error -/
def NumAny (w : World) (g e0 : Nat) (r : List UInt8) (W : World) (E : Ending) (W' : World) : Prop :=
  ∃ (n e : Nat) (ys : List UInt8), E = .returned (.int .i64 (n : Int)) ∧ W.grownBy W' (some g) ∧ Src w g ys e W' ∧ Lk (gnum r) e0 n e ys
set_option maxRecDepth 100000 in
theorem num_anyE (w : World) (g e0 : Nat) (r : List UInt8) (W : World) (h : Src w g r e0 W) : Calls Try.prog 31 #[.pointer (some ⟨g, 0, none⟩)] W (NumAny w g e0 r W) := by
  by_cases he : e0 = 0
  · subst he
    exact (num_ok w g r W h).mono fun E W' ⟨hb, h⟩ => by
      rcases h with ⟨n, ys, h1, rfl, h2⟩ | ⟨e, ys, h1, h2, rfl, h3⟩
      · exact ⟨n, 0, ys, rfl, hb, h2, .inl ⟨rfl, h1, rfl⟩⟩
      · exact ⟨0, e, ys, rfl, hb, h3, .inr (.inl ⟨rfl, h1, h2⟩)⟩
  · exact (num_no g e0 W h.err (by omega)).mono fun E W' ⟨h1, h2⟩ => by
      subst h1 h2
      exact ⟨0, e0, r, rfl, gb_refl _ _, h, .inr (.inr ⟨he, rfl⟩)⟩

/-! ### Rows of commands of the call's own -/
def cellsK (c : Cmdn) : List Value := [.int .i64 c.1, .string (str c.2.1), .float .f64 c.2.2]
def flatK (cs : List Cmdn) : List Value := cs.flatMap cellsK
theorem flatK_app (a b : List Cmdn) : flatK (a ++ b) = flatK a ++ flatK b := by unfold flatK; rw [List.flatMap_append]
abbrev OwnK (w : World) (base : Nat) (v : Value) (cs : List Cmdn) : Prop := w.ownsRow base 59 3 v cs.length (flatK cs)
theorem infoK : (Try.prog.info? 59).map (fun i => (i.zero, i.size, i.bytes)) = some (some (.agg #[.int .i64 0, .string ⟨#[]⟩, .float .f64 0]), 3, 32) := by kernel_rfl
theorem flatK_at : ∀ (cs : List Cmdn) (j i : Nat) (hj : j < cs.length), i < 3 → (flatK cs)[j * 3 + i]? = (cellsK cs[j])[i]?
  | c :: cs, 0, i, _, hi => by
    unfold flatK; rw [List.flatMap_cons, Nat.zero_mul, Nat.zero_add, List.getElem?_append_left (by unfold cellsK; simpa using hi)]; rfl
  | c :: cs, j + 1, i, hj, hi => by
    unfold flatK; rw [List.flatMap_cons, List.getElem?_append_right (by unfold cellsK; simp; omega)]
    have e : (j + 1) * 3 + i - (cellsK c).length = j * 3 + i := by unfold cellsK; simp; omega
    rw [e]
    exact flatK_at cs j i (by simpa using hj) hi
theorem OwnK.row {w : World} {base : Nat} {v : Value} {cs : List Cmdn} (h : OwnK w base v cs) : layC.Row w v cs := by
  have hc := fun g hg => World.ownsRow.cells h (g := g) hg
  have hlt := World.ownsRow.lt h
  rcases h.2 with ⟨rfl, h0⟩ | ⟨g, cap, cur, rfl, hb, hg, hn, hm, -, -⟩
  · have e : cs = [] := List.eq_nil_of_length_eq_zero h0
    subst e
    exact ⟨none, 0, rfl, Nat.le_refl _, by omega, fun h => absurd rfl h⟩
  · refine ⟨some ⟨g, 0, none⟩, cap, rfl, hn, by unfold maxLen at hm; omega, fun _ => ⟨g, 0, rfl, (hlt g rfl).2, fun j hj => ?_⟩⟩
    have e : ∀ i x, (cellsK cs[j])[i]? = some x → i < 3 → w.cell? ⟨g, j * 3 + i, none⟩ = some x := fun i x hx hi => by
      have := hc g rfl (j * 3 + i) x (by rw [flatK_at cs j i hj hi]; exact hx)
      rw [Bat.add_lit] at this; exact this
    rw [layC.at_get hj]
    refine ⟨?_, ?_, ?_⟩
    · have := e 0 _ rfl (by decide); rw [show layC.pos 0 j = 0 + j * 3 from rfl, Nat.zero_add]; exact this
    · have := e 1 _ rfl (by decide); rw [show layC.pos 0 j = 0 + j * 3 from rfl, Nat.zero_add]; exact this
    · have := e 2 _ rfl (by decide); rw [show layC.pos 0 j = 0 + j * 3 from rfl, Nat.zero_add]; exact this
theorem OwnK.snoc {w : World} {base : Nat} {v : Value} {cs : List Cmdn} {x : Int} {s : List UInt8} {z : Nat} (h : w.ownsRow base 59 3 v (cs.length + 1) (flatK cs ++ [.int .i64 x, .string (str s), .float .f64 z])) : OwnK w base v (cs ++ [(x, s, z)]) := by
  unfold OwnK
  rw [List.length_append, List.length_singleton, flatK_app]
  exact h
theorem own_form {w : World} {base size n : Nat} {t : TypeId} {v : Value} {xs : List Value} (h : w.ownsRow base t size v n xs) : ∃ p cap, v = .slice p n cap := by
  rcases h.2 with ⟨rfl, h0⟩ | ⟨g, cap, cur, rfl, -⟩
  · exact ⟨none, 0, by rw [h0]⟩
  · exact ⟨_, _, rfl⟩
/-- A row of the call's own stays where the box and the source turn. -/
theorem own_gb {w w' : World} {base size n g : Nat} {t : TypeId} {v : Value} {xs : List Value} (h : w.ownsRow base t size v n xs) (hb : w.grownBy w' (some g)) (hg : g < base) : w'.ownsRow base t size v n xs :=
  World.ownsRow.kept h hb (by
    cases hv : v.ownBlock with
    | none => exact .inl rfl
    | some k =>
      right; intro e; injection e with e
      have := (World.ownsRow.lt h k hv).1; omega)
theorem own_far {w : World} {base size n c : Nat} {t : TypeId} {v : Value} {xs : List Value} (h : w.ownsRow base t size v n xs) (hc : c < base) (i : Nat) (x : Value) : (w.setCell ⟨c, i, none⟩ x).ownsRow base t size v n xs :=
  own_gb h (gb_set (gb_refl w (some c)) i x) hc
theorem own_off {w : World} {base size n c : Nat} {t : TypeId} {v : Value} {xs : List Value} (h : w.ownsRow base t size v n xs) (hc : ∀ k, v.ownBlock = some k → k ≠ c) (i : Nat) (x : Value) : (w.setCell ⟨c, i, none⟩ x).ownsRow base t size v n xs :=
  World.ownsRow.kept h (gb_set (gb_refl w (some c)) i x) (by
    cases hv : v.ownBlock with
    | none => exact .inl rfl
    | some k => right; intro e; injection e with e; exact hc k hv e)
theorem own_lt {w : World} {base size n : Nat} {t : TypeId} {v : Value} {xs : List Value} (h : w.ownsRow base t size v n xs) : ∀ k, v.ownBlock = some k → k ≠ w.heap.size := fun k hk => Nat.ne_of_lt (World.ownsRow.lt h k hk).2
theorem three_cells (w : World) (x y z : Value) (t : TypeId) : ∀ j u, [x, y, z][j]? = some u → (w.alloc (.cells #[x, y, z] t)).cell? ((⟨w.heap.size, 0, none⟩ : Addr).add j) = some u := by
  intro j u hj
  rw [Bat.add_lit, World.cell?_alloc_mark]
  rw [← hj]; simp [List.getElem?_toArray]
theorem two_cells (w : World) (x y : Value) (t : TypeId) : ∀ j u, [x, y][j]? = some u → (w.alloc (.cells #[x, y] t)).cell? ((⟨w.heap.size, 0, none⟩ : Addr).add j) = some u := by
  intro j u hj
  rw [Bat.add_lit, World.cell?_alloc_mark]
  rw [← hj]; simp [List.getElem?_toArray]
theorem two_one (x y : Int) : ∀ u ∈ [Value.int .i64 x, Value.int .i64 y], u.oneCell' = true := fun u hu => by simp at hu; rcases hu with rfl | rfl <;> rfl
theorem three_one (x : Int) (s : List UInt8) (z : Nat) : ∀ u ∈ [Value.int .i64 x, Value.string (str s), Value.float .f64 z], u.oneCell' = true := fun u hu => by simp at hu; rcases hu with rfl | rfl | rfl <;> rfl
end Go.Proofs.Ytapjjeffegnflaa.Cod
