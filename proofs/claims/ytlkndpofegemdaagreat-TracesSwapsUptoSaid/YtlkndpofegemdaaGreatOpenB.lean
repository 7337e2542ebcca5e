/- Arguments opened, with their bulk: a list of lists of ids has not more ids in all than its reading's bulk. No condition but those in each statement. -/
import Derived.Test.YtlkndpofegemdaaGreatRows
import Derived.Test.YtlkndpofegemdaaGreatOpenL
namespace Go.Proofs.YtlkndpofegemdaaGreat.Can
open Go.ChangeShapes Go.WideShapes Go.ChangeAt Go.RowKit Cmd Bat Ids Rec Wid Gra Rea Cps
set_option linter.unusedVariables false
set_option linter.unusedSimpArgs false

theorem takeL {ls : List (List Idn)} {k : Nat} (h : k < ls.length) : ls.take (k + 1) = ls.take k ++ [nthL ls k] := by
  rw [List.take_succ_eq_append_getElem h]
  unfold nthL
  rw [List.getD_eq_getElem?_getD, List.getElem?_eq_getElem h]; rfl
theorem bulk_pos {H : Type} (d : DataW H) : 1 ≤ Rows.uptoBulk d := by
  cases d with
  | lit l => cases l <;> simp [Rows.uptoBulk]
  | _ => simp [Rows.uptoBulk]
theorem bulk_count {H : Type} : ∀ l : List (DataW H), l.length ≤ Rows.uptoBulkAll l
  | [] => Nat.zero_le _
  | d :: r => by
    have h1 := bulk_pos d
    have h2 := bulk_count r
    simp only [Rows.uptoBulkAll, List.length_cons]; omega
theorem bulk_pairs {H : Type} : ∀ l : List (DataW H), (∀ d ∈ l, 2 ≤ Rows.uptoBulk d) → 2 * l.length ≤ Rows.uptoBulkAll l
  | [], _ => Nat.zero_le _
  | d :: r, h => by
    have h1 := h d List.mem_cons_self
    have h2 := bulk_pairs r fun x hx => h x (List.mem_cons_of_mem _ hx)
    simp only [Rows.uptoBulkAll, List.length_cons]; omega
theorem bulk_snoc {H : Type} (d : DataW H) : ∀ l : List (DataW H), Rows.uptoBulkAll (l ++ [d]) = Rows.uptoBulkAll l + Rows.uptoBulk d
  | [] => by simp [Rows.uptoBulkAll]
  | x :: l => by
    have := bulk_snoc d l
    simp only [List.cons_append, Rows.uptoBulkAll, this]; omega
/-- Rows that are not longer than their readings' bulks, one behind the other. -/
theorem bulk_flat {H : Type} {D : Nat → DataW H} {ls : List (List Idn)} (h : ∀ j, j < ls.length → 2 * (nthL ls j).length ≤ Rows.uptoBulk (D j)) : ∀ k, k ≤ ls.length → 2 * (ls.take k).flatten.length ≤ Rows.uptoBulkAll ((List.range k).map D)
  | 0, _ => by simp
  | k + 1, hk => by
    have ih := bulk_flat h k (by omega)
    have h1 := h k (by omega)
    rw [takeL (by omega), List.range_succ, List.map_append, List.flatten_append, List.length_append, List.map_cons, List.map_nil, bulk_snoc]
    simp only [List.flatten_cons, List.flatten_nil, List.append_nil]; omega

section
variable {H : Type} {enc : TypeId × Value → H} {W : World} {base : Nat} {spare : Nat → Bool} {held : Bool}
set_option maxRecDepth 100000 in
theorem id_bulk {n : Nat} {cs : List Value} {y : DataW H × List MemPlace} (h : DataW.trod enc Tryz.prog W base spare held n 43 cs = some y) : 2 ≤ Rows.uptoBulk y.1 := by
  obtain ⟨xs, m, rfl, hy, hl, hxl, hf⟩ := DataW.trod_struct Tryz.underlying43 h
  have := bulk_count (xs.map Prod.fst)
  rw [List.length_map, show xs.length = 2 from hxl] at this
  rw [hy]
  simp only [Rows.uptoBulk]
  exact Nat.le_succ_of_le this
set_option maxRecDepth 100000 in
theorem one_bulk {n : Nat} {v : Value} {zs : List Idn} {y : DataW H × List MemPlace} (h : DataW.trod enc Tryz.prog W base spare held n 36 [v] = some y) (hz : RowAt W v zs) : 2 * zs.length ≤ Rows.uptoBulk y.1 := by
  obtain ⟨p, cap, rfl, -, -⟩ := row_slice hz
  rcases Go.Deep.open_slice Tryz.underlying36 h with ⟨h0, -⟩ | ⟨a, len, cap', m, n', D, Pl, h0, -, hlc, -, hmm, hy, hall⟩
  · simp only [List.cons.injEq, and_true, Value.slice.injEq] at h0
    rw [h0.2.1]; exact Nat.zero_le _
  · simp only [List.cons.injEq, and_true, Value.slice.injEq] at h0
    rw [hy, h0.2.1]
    have hlm : len ≤ m := by rw [hmm]; split <;> omega
    have := bulk_pairs ((List.range len).map D) fun x hx => by
      obtain ⟨i, hi, rfl⟩ := List.mem_map.1 hx
      obtain ⟨cs, -, g⟩ := hall i (by have := List.mem_range.1 hi; omega)
      exact id_bulk g
    rw [List.length_map, List.length_range] at this
    simp only [Rows.uptoBulk]; omega
theorem row_long {v : Value} {zs ys : List Idn} (h : RowAt W v zs) (g : RowAt W v ys) : zs.length = ys.length := by
  obtain ⟨p, cap, rfl, -, -⟩ := row_slice h
  obtain ⟨p', cap', e, -, -⟩ := row_slice g
  injection e
set_option maxRecDepth 100000 in
theorem lls_bulk {v : Value} {ls : List (List Idn)} {d : DataW H} {p : List MemPlace} (hr : layLL.Row W v ls) (h : DataW.Trod enc Tryz.prog W base spare held 23 v d p) : 2 * ls.flatten.length ≤ Rows.uptoBulk d := by
  obtain ⟨q, cap, rfl, h1, hd⟩ := hr.parts
  obtain ⟨fuel, h⟩ := h
  have hcs : (Value.slice q ls.length cap).cells.toList = [.slice q ls.length cap] := rfl
  rw [hcs] at h
  rcases Go.Deep.open_slice Tryz.underlying23 h with ⟨h0, -⟩ | ⟨a, len, cap', m, n, D, Pl, h0, hb, hl, hm, hmm, hy, hall⟩
  · simp only [List.cons.injEq, and_true, Value.slice.injEq] at h0
    rw [List.eq_nil_of_length_eq_zero h0.2.1]; exact Nat.zero_le _
  · simp only [List.cons.injEq, and_true, Value.slice.injEq] at h0
    obtain ⟨e1, e2, e3⟩ := h0
    have hlm : len ≤ m := by rw [hmm]; split <;> omega
    have hd2 : d = .slice ((List.range len).map D) ((List.range (m - len)).map fun j => D (len + j)) := congrArg Prod.fst hy
    have hrow : ∀ j, j < ls.length → 2 * (nthL ls j).length ≤ Rows.uptoBulk (D j) := fun j hj => by
      obtain ⟨B, off, e4, HC⟩ := hd.resolve_left (by omega)
      obtain ⟨p1, c1, hc, hrj⟩ := llAt HC.out hj
      obtain ⟨cs, g1, g2⟩ := hall j (by omega)
      rw [show Tryz.prog.cellsOf 36 = 1 by kernel_rfl] at g1
      obtain ⟨-, g3, g4⟩ := World.cells?_some g1
      have g5 := g4 0 (by decide)
      rw [← Option.some.inj (e4.symm.trans e1), Addr.add_lit, Addr.add_lit, Nat.mul_one, Nat.add_zero, hc] at g5
      obtain ⟨v1, rfl⟩ : ∃ v1, cs = [v1] := by
        match cs, g3 with
        | [v1], _ => exact ⟨v1, rfl⟩
      simp only [List.getElem?_cons_zero, Option.some.injEq] at g5
      rw [← g5] at g2
      exact one_bulk g2 hrj
    have := bulk_flat hrow ls.length (Nat.le_refl _)
    rw [List.take_length] at this
    rw [hd2, ← e2]
    simp only [Rows.uptoBulk]; omega
end
end Go.Proofs.YtlkndpofegemdaaGreat.Can
