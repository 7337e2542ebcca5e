/- What the statements' own 'cut' and 'works' give (layer 4, idset): a list without an id; true. Conditions: the list lies in memory as its cells say, and is not longer than 100000. -/
import Derived.Test.YtmopkcmgoibmeaaSetD
namespace Go.Proofs.Ytmopkcmgoibmeaa
open Go.RowKit Go.Maps
set_option linter.unusedVariables false

theorem del_take {zs : List Idn} {k : Nat} (h : k < zs.length) (x : Idn) : del (zs.take (k + 1)) x = if nth zs k = x then del (zs.take k) x else del (zs.take k) x ++ [nth zs k] := by
  have e : nth zs k = zs[k] := by unfold nth; rw [List.getD_eq_getElem?_getD, List.getElem?_eq_getElem h]; rfl
  unfold del
  rw [List.take_succ_eq_append_getElem h, List.filter_append, e]
  split
  · rename_i e2; simp [e2]
  · rename_i e2; simp [e2]
set_option maxHeartbeats 2000000 in
theorem cut_any (v : Value) (zs : List Idn) (a b : Int) (w : World) (h : RowAt w v zs) (hl : zs.length ≤ 100000) : Calls Try.prog 9 #[v, .agg #[.int .i64 a, .int .i64 b]] w (GivesRow (del zs (a, b)) w) := by
  obtain ⟨i0, hi, hz0, hz1, hz2⟩ := info_parts info_id
  obtain ⟨p, cap, rfl, h1, h2⟩ := h.shape
  obtain ⟨n, hn⟩ : ∃ n, n = zs.length := ⟨_, rfl⟩
  have HZ := Lib.hid hn
  have HR0 := Lib.hid h
  rw [← hn] at h1 hl HR0 ⊢
  clear h hn
  go_enter Try.func9, Try.ntmps9
  go_wp2
  go_loopw [5, 6] (fun o i wr => ∃ (k : Nat) (out : List Idn), k ≤ n ∧ out.length ≤ k ∧ i = .int .i64 k ∧ Hid (Below (w.heap.size + 1) (w.alloc (cells a b)) wr) ∧ Hid (Owns wr (w.heap.size + 1) o out) ∧ Hid (out = del (zs.take k) (a, b))) (fun _ i _ => n - (intOf i).toNat)
  case atStart =>
    have ho := World.ownsRow_made (base := w.heap.size + 1) (e := 29) (size := 2) (w.alloc (cells a b)) #[] 0 (by simp) (by decide) rfl
    rw [show (w.alloc (cells a b)).heap.size = w.heap.size + 1 by simp] at ho
    exact ⟨0, [], Nat.zero_le _, Nat.le_refl _, rfl, Lib.hid ((Below.refl _ _).alloc (by simp) _), Lib.hid ho, Lib.hid rfl⟩
  case round =>
    obtain ⟨k, out, hk, ho, rfl, hbw, hown, hout⟩ := hrel
    have hs : w.heap.size + 1 ≤ wr.heap.size := by have := hbw.out.size; simpa using this
    have hbx := Boxed.of hbw.out
    have c3 := hbx.fst
    have c4 := hbx.snd
    by_cases hkn : k < n
    · obtain ⟨B, off, rfl, hrow⟩ := (HR0.out.on hbx.below).row2 (by rw [← HZ.out]; omega)
      have c1 := hrow.fst k (by rw [← HZ.out]; exact hkn)
      have c2 := hrow.snd k (by rw [← HZ.out]; exact hkn)
      have k0 : (0 : Int) ≤ k := by omega
      have kn : (k : Int) < n := by omega
      obtain ⟨x, y, hxy⟩ : ∃ x y, nth zs k = (x, y) := ⟨_, _, rfl⟩
      rw [hxy] at c1 c2
      have HDT := Lib.hid (del_take (zs := zs) (k := k) (by rw [← HZ.out]; exact hkn) (a, b))
      rw [hxy] at HDT
      by_cases he : (x, y) = (a, b)
      · have h3 : (x == a && y == b) = true := by rw [Prod.mk.injEq] at he; rw [he.1, he.2]; simp
        have hq : ∀ w, (binOp .neq 29 (.agg #[.int .i64 x, .int .i64 y]) (.agg #[.int .i64 a, .int .i64 b])).run Try.prog w = .ok (.bool false) w := fun w => by rw [neq_id, h3]; rfl
        rw [if_pos he] at HDT
        clear hrow hbx hxy he h3
        go_wp2
        go_quiet (fail)
        go_wp2
        go_roundw
        case rel => exact ⟨k + 1, out, by omega, by omega, by go_num, Lib.hid (below_drN hbw.out _), Lib.hid hown.out, Lib.hid (hout.out.trans HDT.out.symm)⟩
        case measure => simp [intOf]; omega
      · have h3 : (x == a && y == b) = false := by
          rw [Bool.eq_false_iff]; intro h; rw [Bool.and_eq_true, beq_iff_eq, beq_iff_eq] at h; exact he (by rw [h.1, h.2])
        have hq : ∀ w, (binOp .neq 29 (.agg #[.int .i64 x, .int .i64 y]) (.agg #[.int .i64 a, .int .i64 b])).run Try.prog w = .ok (.bool true) w := fun w => by rw [neq_id, h3]; rfl
        rw [if_neg he] at HDT
        clear hrow hbx hxy he h3
        go_wp2
        go_quiet (fail)
        have hoD : Hid (Owns (wr.drewN nq) (w.heap.size + 1) u5 out) := Lib.hid hown.out
        have hbD := Lib.hid (below_drN hbw.out nq)
        go_wp2_with (first
          | (at_builtin; refine wpList_append_own _ rfl _ _ 22 rfl (w.heap.size + 1) 29 i0 (.agg #[.int .i64 0, .int .i64 0]) 2 16 Try.underlying22 hi hz0 hz1 hz2 rfl (by decide) _ _ _ rfl (World.ownsRow.alloc hoD.out _) ⟨wr.heap.size, 0, none⟩ 1 1 [.int .i64 x, .int .i64 y] rfl rfl (cell_two_new _ _ _ _) (fun u hu => by simp at hu; rcases hu with rfl | rfl <;> rfl) (by unfold maxLen; omega) (by omega) (by simp; omega) ?_; intro v1 w3 hown1 hgrow1 hnil1; have X1 := Lib.hid (And.intro (Owns.snoc hown1) (put_far hbD.out hoD.out _ hgrow1)); clear hown1 hgrow1 hnil1))
        go_roundw
        case rel => exact ⟨k + 1, out ++ [(x, y)], by omega, by simp; omega, by go_num, Lib.hid X1.out.2, Lib.hid X1.out.1, Lib.hid (by rw [HDT.out, hout.out])⟩
        case measure => simp [intOf]; omega
    · have kn : ¬ (k : Int) < n := by omega
      have HE : Hid (zs.take k = zs) := Lib.hid (List.take_of_length_le (by rw [← HZ.out]; omega))
      clear hbx
      go_wp2
      go_ret
      exact ⟨_, rfl, by have := Owns.row hown.out; rw [hout.out, HE.out] at this; exact this, (below_one w (cells a b)).trans (hbw.out.mono (by omega))⟩

/-! ### works -/
def RetTrue (w : World) (e : Ending) (w' : World) : Prop := e = .returned (.bool true) ∧ Below w.heap.size w w'
def two3 : List Idn := [(1, 1), (1, 2)]
theorem wf_small {x : Idn} (h : 0 ≤ x.1 ∧ x.1 ≤ 100 ∧ 0 ≤ x.2 ∧ x.2 ≤ 100) : wfId x := ⟨⟨by omega, by omega⟩, ⟨by omega, by omega⟩⟩
def three (w : World) : World := w.alloc (.cells #[.int .i64 1, .int .i64 2, .int .i64 1, .int .i64 1, .int .i64 1, .int .i64 2] 29)
theorem three_row (w : World) : RowAt (three w) (.slice (some ⟨w.heap.size, 0, none⟩) 3 3) [(1, 2), (1, 1), (1, 2)] := by
  refine ⟨_, 3, rfl, by decide, by decide, (fun e => by cases e), fun _ => ⟨w.heap.size, 0, rfl, by simp [three], fun j hj => ?_⟩⟩
  unfold three
  simp only [World.cell?_alloc_mark]
  match j, hj with
  | 0, _ => exact ⟨rfl, rfl⟩
  | 1, _ => exact ⟨rfl, rfl⟩
  | 2, _ => exact ⟨rfl, rfl⟩
/-- A row of two ids, its cells at hand. -/
def GivesTwo (w : World) (e : Ending) (w' : World) : Prop := ∃ B off cap, e = .returned (.slice (some ⟨B, off, none⟩) 2 cap) ∧ w'.cell? ⟨B, off, none⟩ = some (.int .i64 1) ∧ w'.cell? ⟨B, off + 1, none⟩ = some (.int .i64 1) ∧ Below w.heap.size w w'
set_option maxHeartbeats 2000000 in
set_option maxRecDepth 100000 in
theorem works_any (w : World) : Calls Try.prog 5 #[] w (RetTrue w) := by
  have HN : Hid (Calls Try.prog 6 #[.slice (some ⟨w.heap.size, 0, none⟩) 3 3] (three w) (GivesSet two3 (three w))) := Lib.hid (new_any _ _ _ (three_row w) (fun y hy => wf_small (by simp at hy; rcases hy with rfl | rfl | rfl <;> decide)) (by decide))
  have HLn : Hid (∀ W g m, SetP W g m two3 → Calls Try.prog 14 #[setPtr g] W fun e w' => e = .returned (.int .i64 2) ∧ W = w') := Lib.hid fun W g m h => len_any (setPtr g) two3 W (.inr ⟨g, m, rfl, h⟩)
  have HLs : Hid (∀ W g m, SetP W g m two3 → Calls Try.prog 16 #[setPtr g] W (GivesTwo W)) := Lib.hid fun W g m h => (setlist_any (setPtr g) two3 W (.inr ⟨g, m, rfl, h⟩) (by decide)).mono fun e w' ⟨v, he, hr, hb⟩ => by
    obtain ⟨p, cap, rfl, _, _⟩ := hr.shape
    obtain ⟨B, off, rfl, h2⟩ := hr.row2 (by decide)
    have c0 := h2.fst 0 (by decide)
    have c1 := h2.snd 0 (by decide)
    exact ⟨B, off, cap, he, c0, c1, hb⟩
  have HHs : Hid (∀ W g m, SetP W g m two3 → Calls Try.prog 13 #[setPtr g, .agg #[.int .i64 1, .int .i64 2]] W (RetTrue W)) := Lib.hid fun W g m h => has_p g m two3 1 2 W h (wf_small (by decide))
  have HB0 := Lib.hid (below_one w (.cells #[.int .i64 1, .int .i64 2, .int .i64 1, .int .i64 1, .int .i64 1, .int .i64 2] 29))
  unfold setPtr at HLn HLs HHs
  unfold three at HN
  have hq : ∀ w, (binOp .eql 29 (.agg #[.int .i64 1, .int .i64 1]) (.agg #[.int .i64 1, .int .i64 1])).run Try.prog w = .ok (.bool true) w := fun w => by rw [eql_id]; rfl
  go_enter Try.func5, Try.ntmps5
  go_wp2_with (first
    | (go_at_call 6; ((with_reducible refine HN.out.mono ?_); rintro e w1 ⟨g, m, rfl, -, -, hs, hb⟩; unfold setPtr; have S1 := Lib.hid hs; have B1 := Lib.hid (HB0.out.trans (hb.mono HB0.out.size)); clear hs hb; refine Hid.out ?_)))
  have S1' := Lib.hid (HLn.out _ _ _ S1.out)
  refine Lib.hid ?_
  go_wp2_with (first
    | (go_at_call 14; ((with_reducible refine (HLn.out _ _ _ S1.out).mono ?_); rintro e w2 ⟨rfl, rfl⟩))
    | (go_at_call 16; ((with_reducible refine (HLs.out _ _ _ S1.out).mono ?_); rintro e w3 ⟨B, off, cap, rfl, -, -, hb⟩; have S3 := Lib.hid (S1.out.on hb); have B3 := Lib.hid (B1.out.trans (hb.mono B1.out.size)); clear hb S1))
    | (go_at_call 16; ((with_reducible refine (HLs.out _ _ _ S3.out).mono ?_); rintro e w4 ⟨B', off', cap', rfl, d0, d1, hb⟩; have S4 := Lib.hid (S3.out.on hb); have B4 := Lib.hid (B3.out.trans (hb.mono B3.out.size)); clear hb))
    | (go_at_call 13; ((with_reducible refine (HHs.out _ _ _ S4.out).mono ?_); rintro e w5 ⟨rfl, hb⟩; have B5 := Lib.hid (B4.out.trans (hb.mono B4.out.size)); clear hb)))
  go_ret
  exact ⟨rfl, B5.out⟩
end Go.Proofs.Ytmopkcmgoibmeaa
