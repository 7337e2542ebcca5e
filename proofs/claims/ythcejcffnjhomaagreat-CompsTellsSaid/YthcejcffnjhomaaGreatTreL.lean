/- What the developers' At and Mutual give (layer 17, comps). Conditions: those in each statement. -/
import Derived.Test.YthcejcffnjhomaaGreatTreI
namespace Go.Proofs.YthcejcffnjhomaaGreat.Cps
open Go.RowKit Cmd Bat Ids Rec Wid Gra Rea Mpg Go.Sort
set_option linter.unusedVariables false
set_option linter.unusedSimpArgs false

/-! ### At -/
theorem atc_any (u : Value) (c : List Idn) (a b : Int) (bx : Nat) (W : World) (h : RowAt W u c) (h0 : W.cell? ⟨bx, 0, none⟩ = some (.int .i64 a)) (h1 : W.cell? ⟨bx, 1, none⟩ = some (.int .i64 b)) :
    Calls Tryz.prog 44 #[u, .pointer (some ⟨bx, 0, none⟩)] W (RetBelow (.bool (decide ((a, b) ∈ c))) W) := by
  have HC := Lib.hid (Ids.has_any u c a b W h)
  generalize decide ((a, b) ∈ c) = t at HC ⊢
  clear h
  go_enter Tryz.func44, Tryz.ntmps44
  go_wp2_with (first
    | (go_at_call 45; (with_reducible refine HC.out.mono ?_); rintro E w1 ⟨rfl, hb⟩; have HB := Lib.hid hb; clear hb)
    | fail)
  go_ret
  exact ⟨rfl, HB.out⟩
set_option maxHeartbeats 4000000 in
theorem idxLL_any (v : Value) (l : List (List Idn)) (a b : Int) (bx : Nat) (W : World) (h : layLL.Row W v l) (hl : l.length ≤ 1000) (h0 : W.cell? ⟨bx, 0, none⟩ = some (.int .i64 a)) (h1 : W.cell? ⟨bx, 1, none⟩ = some (.int .i64 b)) :
    Calls Tryz.prog 43 #[v, .func (.func 44) #[] #[.pointer (some ⟨bx, 0, none⟩)]] W (RetBelow (.int .i64 (atL l (a, b))) W) := by
  obtain ⟨p, cap, rfl, hlen, hd⟩ := h.parts
  obtain ⟨n, hn⟩ : ∃ n, n = l.length := ⟨_, rfl⟩
  have HC : Hid (∀ X u c, Below W.heap.size W X → RowAt X u c → Calls Tryz.prog 44 #[u, .pointer (some ⟨bx, 0, none⟩)] X (RetBelow (.bool (decide ((a, b) ∈ c))) X)) := Lib.hid fun X u c hb hr =>
    atc_any u c a b bx X hr ((hb.cell (p := ⟨bx, 0, none⟩) (World.block_lt_of_cell? _ _ h0)).trans h0) ((hb.cell (p := ⟨bx, 1, none⟩) (World.block_lt_of_cell? _ _ h1)).trans h1)
  have HN := Lib.hid hn
  rw [← hn] at hlen hd ⊢
  have hnl : n ≤ 1000 := by omega
  have hd1 : n = 0 ∨ ∃ B off, p = some ⟨B, off, none⟩ ∧ Hid (layLL.In W B off l) := hd
  obtain ⟨z, hz⟩ : ∃ z, z = (a, b) := ⟨_, rfl⟩
  rw [← hz] at HC ⊢
  clear h h0 h1 hl hd hn hz
  go_enter Tryz.func43, Tryz.ntmps43
  go_wp2_with fail
  go_loopw [8] (fun i wr => ∃ k : Nat, i = .int .i64 k ∧ k ≤ n ∧ Hid (∀ j, j < k → z ∉ l.getD j []) ∧ Hid (Below W.heap.size W wr)) (fun i _ => n - (intOf i).toNat)
  case atStart => exact ⟨0, rfl, Nat.zero_le _, Lib.hid (fun j hj => absurd hj (Nat.not_lt_zero _)), Lib.hid (Below.refl _ _)⟩
  case round =>
    obtain ⟨k, rfl, hk, hF, hB⟩ := hrel
    have k0 : (0 : Int) ≤ k := by omega
    by_cases hkn : k < n
    · have kn : (k : Int) < n := by omega
      obtain ⟨B, off, rfl, HI⟩ := hd1.resolve_left (by omega)
      have hkl : k < l.length := by rw [← HN.out]; exact hkn
      obtain ⟨q, cq, c0, r0⟩ := llAt (HI.out.on hB.out) hkl
      obtain ⟨m, hm⟩ : ∃ m, m = (l.getD k []).length := ⟨_, rfl⟩
      rw [← hm] at c0 r0
      have HC1 := Lib.hid (HC.out wr _ _ hB.out r0)
      have HAt : Hid (z ∈ l.getD k [] → atL l z = k) := Lib.hid fun hz => atL_at hkl hz hF.out
      have HF1 : Hid (z ∉ l.getD k [] → ∀ j, j < k + 1 → z ∉ l.getD j []) := Lib.hid fun hz j hj => by
        by_cases e : j = k
        · rw [e]; exact hz
        · exact hF.out j (by omega)
      clear hkl hm r0
      by_cases hin : z ∈ l.getD k []
      · rw [decide_eq_true hin] at HC1
        have HIN := Lib.hid hin
        clear hin
        go_wp2_with (first
          | (go_at_call 44; (with_reducible refine HC1.out.mono ?_); rintro E w1 ⟨rfl, hb⟩; have HB1 := Lib.hid hb; clear hb)
          | fail)
        go_ret
        exact ⟨ret_int (HAt.out HIN.out).symm, hB.out.trans (HB1.out.mono hB.out.size)⟩
      · rw [decide_eq_false hin] at HC1
        have HIN := Lib.hid hin
        clear hin
        go_wp2_with (first
          | (go_at_call 44; (with_reducible refine HC1.out.mono ?_); rintro E w1 ⟨rfl, hb⟩; have HB1 := Lib.hid hb; clear hb)
          | fail)
        go_roundw
        case rel => exact ⟨k + 1, by go_num, by omega, Lib.hid (HF1.out HIN.out), Lib.hid (hB.out.trans (HB1.out.mono hB.out.size))⟩
        case measure => simp [intOf]; omega
    · have kn : ¬ (k : Int) < n := by omega
      have hke : k = n := by omega
      have HE : Hid (atL l z = -1) := Lib.hid (atL_no fun j hj => hF.out j (by rw [hke, HN.out]; exact hj))
      go_wp2
      go_ret
      exact ⟨ret_int HE.out.symm, hB.out⟩
theorem at_run (W : World) (v : Value) (l : List (List Idn)) (a b : Int) (h : layLL.Row W v l) (hl : l.length ≤ 1000) : Calls Tryz.prog 18 #[v, .agg #[.int .i64 a, .int .i64 b]] W (RetBelow (.int .i64 (atL l (a, b))) W) := by
  have hb1 := Cmd.below_one W (.cells #[.int .i64 a, .int .i64 b] 41)
  have hx := heap_alloc_new W (.cells #[.int .i64 a, .int .i64 b] 41)
  have HC := Lib.hid (idxLL_any v l a b W.heap.size _ (h.on hb1) hl (cell_row (i := 0) hx rfl) (cell_row (i := 1) hx rfl))
  generalize atL l (a, b) = t at HC ⊢
  have HB := Lib.hid hb1
  clear hb1 hx h
  go_enter Tryz.func18, Tryz.ntmps18
  go_wp2_with (first
    | (go_at_call 43; (with_reducible refine HC.out.mono ?_); rintro E w1 ⟨rfl, hb⟩; have HB1 := Lib.hid hb; clear hb)
    | fail)
  go_ret
  exact ⟨rfl, HB.out.trans (HB1.out.mono HB.out.size)⟩

/-! ### Mutual -/
set_option maxRecDepth 100000 in
set_option maxHeartbeats 4000000 in
theorem mutual_run (gp : Option Addr) (rs : List Rcd) (a b c d : Int) (W : World) (A : Asks gp rs W) (h1 : wfId (a, b)) (h2 : wfId (c, d)) : Calls Tryz.prog 16 #[.pointer gp, .agg #[.int .i64 a, .int .i64 b], .agg #[.int .i64 c, .int .i64 d]] W (RetBelow (.bool (mutG rs (a, b) (c, d))) W) := by
  obtain ⟨x0, x1⟩ := two_boxes W a b c d
  have hb0 : Below W.heap.size W ((W.alloc (.cells #[.int .i64 a, .int .i64 b] 41)).alloc (.cells #[.int .i64 c, .int .i64 d] 41)) := (Cmd.below_one _ _).trans ((Cmd.below_one _ _).mono (by simp))
  obtain ⟨W0, hW0⟩ : ∃ W0, W0 = (W.alloc (.cells #[.int .i64 a, .int .i64 b] 41)).alloc (.cells #[.int .i64 c, .int .i64 d] 41) := ⟨_, rfl⟩
  rw [← hW0] at x0 x1 hb0
  have HF : Hid (∀ X, Below W0.heap.size W0 X → (X.cell? ⟨W.heap.size, 0, none⟩ = some (.int .i64 a) ∧ X.cell? ⟨W.heap.size, 1, none⟩ = some (.int .i64 b)) ∧ (X.cell? ⟨W.heap.size + 1, 0, none⟩ = some (.int .i64 c) ∧ X.cell? ⟨W.heap.size + 1, 1, none⟩ = some (.int .i64 d))) := Lib.hid fun X hb => by
    have t0 := (hb.block _ (Array.getElem?_eq_some_iff.1 x0).1).trans x0
    have t1 := (hb.block _ (Array.getElem?_eq_some_iff.1 x1).1).trans x1
    exact ⟨⟨cell_row (i := 0) t0 rfl, cell_row (i := 1) t0 rfl⟩, cell_row (i := 0) t1 rfl, cell_row (i := 1) t1 rfl⟩
  have lift : ∀ X, Below W0.heap.size W0 X → Below W.heap.size W X := fun X h => hb0.trans (h.mono hb0.size)
  have HA := Lib.hid (fun X (h : Below W0.heap.size W0 X) => A.has X a b (lift X h) h1)
  have HC := Lib.hid (fun X (h : Below W0.heap.size W0 X) => A.has X c d (lift X h) h2)
  have HP := Lib.hid (fun X (h : Below W0.heap.size W0 X) => path_run gp rs a b c d X (A.on (lift X h)) h1 h2)
  have HQ := Lib.hid (fun X (h : Below W0.heap.size W0 X) => path_run gp rs c d a b X (A.on (lift X h)) h2 h1)
  have HM : Hid (mutG rs (a, b) (c, d) = (decide ((a, b) ∈ idsG rs) && decide ((c, d) ∈ idsG rs) && decide ((c, d) ∈ fromG rs [(a, b)]) && decide ((a, b) ∈ fromG rs [(c, d)]))) := Lib.hid (by
    rw [Bool.eq_iff_iff, mut_iff]
    simp only [Bool.and_eq_true, decide_eq_true_eq, from_one]
    exact ⟨fun ⟨h1, h2, h3, h4⟩ => ⟨⟨⟨h1, h2⟩, h3⟩, h4⟩, fun ⟨⟨⟨h1, h2⟩, h3⟩, h4⟩ => ⟨h1, h2, h3, h4⟩⟩)
  generalize decide ((a, b) ∈ idsG rs) = t1 at HA HM
  generalize decide ((c, d) ∈ idsG rs) = t2 at HC HM
  generalize decide ((c, d) ∈ fromG rs [(a, b)]) = t3 at HP HM
  generalize decide ((a, b) ∈ fromG rs [(c, d)]) = t4 at HQ HM
  rw [HM.out]
  have HW0 := Lib.hid hW0
  have HB0 := Lib.hid hb0
  have H0 : Hid (Below W0.heap.size W0 W0) := Lib.hid (Below.refl _ _)
  obtain ⟨⟨a0, a1⟩, b0, b1⟩ := HF.out W0 H0.out
  clear x0 x1 hb0 lift A h1 h2 HM hW0
  rw [HW0.out] at a0 a1 b0 b1
  cases t1 with
  | false =>
    go_enter Tryz.func16, Tryz.ntmps16
    go_wp2_with (first
      | (rw [← HW0.out]; go_at_call 38; (with_reducible refine (HA.out _ H0.out).mono ?_); rintro E w1 ⟨rfl, hb⟩; obtain ⟨⟨a2, a3⟩, b2, b3⟩ := HF.out w1 hb; have HB1 := Lib.hid hb; clear hb)
      | fail)
    go_ret
    exact ⟨rfl, HB0.out.trans (HB1.out.mono HB0.out.size)⟩
  | true =>
    cases t2 with
    | false =>
      go_enter Tryz.func16, Tryz.ntmps16
      go_wp2_with (first
        | (rw [← HW0.out]; go_at_call 38; (with_reducible refine (HA.out _ H0.out).mono ?_); rintro E w1 ⟨rfl, hb⟩; obtain ⟨⟨a2, a3⟩, b2, b3⟩ := HF.out w1 hb; have HB1 := Lib.hid hb; clear hb)
        | (go_at_call 38; (with_reducible refine (HC.out _ HB1.out).mono ?_); rintro E w2 ⟨rfl, hb⟩; have HB2 := Lib.hid (HB1.out.trans (hb.mono HB1.out.size)); obtain ⟨⟨a4, a5⟩, b4, b5⟩ := HF.out w2 HB2.out; clear hb)
        | fail)
      go_ret
      exact ⟨rfl, HB0.out.trans (HB2.out.mono HB0.out.size)⟩
    | true =>
      cases t3 with
      | false =>
        go_enter Tryz.func16, Tryz.ntmps16
        go_wp2_with (first
          | (rw [← HW0.out]; go_at_call 38; (with_reducible refine (HA.out _ H0.out).mono ?_); rintro E w1 ⟨rfl, hb⟩; obtain ⟨⟨a2, a3⟩, b2, b3⟩ := HF.out w1 hb; have HB1 := Lib.hid hb; clear hb)
          | (go_at_call 38; (with_reducible refine (HC.out _ HB1.out).mono ?_); rintro E w2 ⟨rfl, hb⟩; have HB2 := Lib.hid (HB1.out.trans (hb.mono HB1.out.size)); obtain ⟨⟨a4, a5⟩, b4, b5⟩ := HF.out w2 HB2.out; clear hb)
          | (go_at_call 41; (with_reducible refine (HP.out _ HB2.out).mono ?_); rintro E w3 ⟨rfl, hb⟩; have HB3 := Lib.hid (HB2.out.trans (hb.mono HB2.out.size)); obtain ⟨⟨a6, a7⟩, b6, b7⟩ := HF.out w3 HB3.out; clear hb)
          | fail)
        go_ret
        exact ⟨rfl, HB0.out.trans (HB3.out.mono HB0.out.size)⟩
      | true =>
        rw [show (true && true && true && t4) = t4 from by cases t4 <;> rfl]
        go_enter Tryz.func16, Tryz.ntmps16
        go_wp2_with (first
          | (rw [← HW0.out]; go_at_call 38; (with_reducible refine (HA.out _ H0.out).mono ?_); rintro E w1 ⟨rfl, hb⟩; obtain ⟨⟨a2, a3⟩, b2, b3⟩ := HF.out w1 hb; have HB1 := Lib.hid hb; clear hb)
          | (go_at_call 38; (with_reducible refine (HC.out _ HB1.out).mono ?_); rintro E w2 ⟨rfl, hb⟩; have HB2 := Lib.hid (HB1.out.trans (hb.mono HB1.out.size)); obtain ⟨⟨a4, a5⟩, b4, b5⟩ := HF.out w2 HB2.out; clear hb)
          | (go_at_call 41; (with_reducible refine (HP.out _ HB2.out).mono ?_); rintro E w3 ⟨rfl, hb⟩; have HB3 := Lib.hid (HB2.out.trans (hb.mono HB2.out.size)); obtain ⟨⟨a6, a7⟩, b6, b7⟩ := HF.out w3 HB3.out; clear hb)
          | (go_at_call 41; (with_reducible refine (HQ.out _ HB3.out).mono ?_); rintro E w4 ⟨rfl, hb⟩; have HB4 := Lib.hid (HB3.out.trans (hb.mono HB3.out.size)); obtain ⟨⟨a8, a9⟩, b8, b9⟩ := HF.out w4 HB4.out; clear hb)
          | fail)
        go_ret
        exact ⟨rfl, HB0.out.trans (HB4.out.mono HB0.out.size)⟩
end Go.Proofs.YthcejcffnjhomaaGreat.Cps

/- What the developers' Sorted gives (layer 17, comps): the ids of a list that are there, each once, in the order of their records; the library's IndexFunc and DeleteFunc at ids by its closure. Conditions: those in each statement. -/
namespace Go.Proofs.YthcejcffnjhomaaGreat.Cps
open Go.RowKit Cmd Bat Ids Rec Wid Gra Rea Mpg Go.Sort
set_option linter.unusedVariables false
set_option linter.unusedSimpArgs false

theorem sc_any (gp : Option Addr) (rs : List Rcd) (w W : World) (A : Asks gp rs w) (hb : Below w.heap.size w W) (bx : Nat) (hc : W.cell? ⟨bx, 0, none⟩ = some (.pointer gp)) (a b : Int) (hw : wfId (a, b)) :
    Calls Tryz.prog 37 #[.agg #[.int .i64 a, .int .i64 b], .pointer (some ⟨bx, 0, none⟩)] W (RetBelow (.bool (!decide ((a, b) ∈ idsG rs))) W) := by
  have hb1 := Cmd.below_one W (.cells #[.int .i64 a, .int .i64 b] 41)
  have hx := heap_alloc_new W (.cells #[.int .i64 a, .int .i64 b] 41)
  have c0 := cell_row (i := 0) hx rfl
  have c1 := cell_row (i := 1) hx rfl
  have c2 := (hb1.cell (p := ⟨bx, 0, none⟩) (World.block_lt_of_cell? _ _ hc)).trans hc
  have HC := Lib.hid (A.has _ a b (hb.trans (hb1.mono hb.size)) hw)
  generalize decide ((a, b) ∈ idsG rs) = t at HC ⊢
  have HB := Lib.hid hb1
  clear hb1 hx hc A hb hw
  go_enter Tryz.func37, Tryz.ntmps37
  go_wp2_with (first
    | (go_at_call 38; (with_reducible refine HC.out.mono ?_); rintro E w1 ⟨rfl, hb⟩; have HB1 := Lib.hid hb; clear hb)
    | fail)
  go_ret
  exact ⟨rfl, HB.out.trans (HB1.out.mono HB.out.size)⟩
abbrev scV (bx : Nat) : Value := .func (.func 37) #[] #[.pointer (some ⟨bx, 0, none⟩)]
/-- What the closure tells, whatever lies above. -/
def ScAt (bx : Nat) (S : Idn → Bool) (W : World) : Prop := ∀ X (a b : Int), Below W.heap.size W X → wfId (a, b) → Calls Tryz.prog 37 #[.agg #[.int .i64 a, .int .i64 b], .pointer (some ⟨bx, 0, none⟩)] X (RetBelow (.bool (!S (a, b))) X)
/-- The first place at which it tells true. -/
def IdxAt (S : Idn → Bool) (zs : List Idn) (w : World) (E : Ending) (w' : World) : Prop := Below w.heap.size w w' ∧ ((E = .returned (.int .i64 (-1)) ∧ ∀ j, j < zs.length → S (nth zs j) = true) ∨ ∃ k : Nat, k < zs.length ∧ E = .returned (.int .i64 k) ∧ (∀ j, j < k → S (nth zs j) = true) ∧ S (nth zs k) = false)
set_option maxHeartbeats 4000000 in
theorem idxI_any (v : Value) (zs : List Idn) (bx : Nat) (S : Idn → Bool) (W : World) (h : RowAt W v zs) (hl : zs.length ≤ 100000) (hw : ∀ x ∈ zs, wfId x) (C : ScAt bx S W) :
    Calls Tryz.prog 71 #[v, scV bx] W (IdxAt S zs W) := by
  obtain ⟨p, cap, rfl, hlen, hd⟩ := Rec.RowAt.parts h
  obtain ⟨n, hn⟩ : ∃ n, n = zs.length := ⟨_, rfl⟩
  have HC := Lib.hid C
  have HN := Lib.hid hn
  have HW := Lib.hid hw
  rw [← hn] at hlen hd ⊢
  have hnl : n ≤ 100000 := by omega
  have hd1 : n = 0 ∨ ∃ B off, p = some ⟨B, off, none⟩ ∧ Hid (Row2 W B off zs) := hd
  clear h hl hd hn hw C
  go_enter Tryz.func71, Tryz.ntmps71
  go_wp2_with fail
  go_loopw [8] (fun i wr => ∃ k : Nat, i = .int .i64 k ∧ k ≤ n ∧ Hid (∀ j, j < k → S (nth zs j) = true) ∧ Hid (Below W.heap.size W wr)) (fun i _ => n - (intOf i).toNat)
  case atStart => exact ⟨0, rfl, Nat.zero_le _, Lib.hid (fun j hj => absurd hj (Nat.not_lt_zero _)), Lib.hid (Below.refl _ _)⟩
  case round =>
    obtain ⟨k, rfl, hk, hF, hB⟩ := hrel
    have k0 : (0 : Int) ≤ k := by omega
    by_cases hkn : k < n
    · have kn : (k : Int) < n := by omega
      obtain ⟨B, off, rfl, HI⟩ := hd1.resolve_left (by omega)
      have hkl : k < zs.length := by rw [← HN.out]; exact hkn
      obtain ⟨⟨x, y⟩, hxy⟩ : ∃ z, nth zs k = z := ⟨_, rfl⟩
      have e0 := (HI.out.on hB.out).fst k hkl
      have e1 := (HI.out.on hB.out).snd k hkl
      rw [hxy] at e0 e1
      have HC1 := Lib.hid (HC.out wr x y hB.out (HW.out _ (by rw [← hxy]; exact nth_in hkl)))
      have HKL := Lib.hid hkl
      obtain ⟨t, ht⟩ : ∃ t, S (x, y) = t := ⟨_, rfl⟩
      rw [ht] at HC1
      have HT : Hid (S (nth zs k) = t) := Lib.hid (by rw [hxy]; exact ht)
      clear hkl hxy ht
      cases t with
      | false =>
        go_wp2_with (first
          | (go_at_call 37; (with_reducible refine HC1.out.mono ?_); rintro E w1 ⟨rfl, hb⟩; have HB1 := Lib.hid hb; clear hb)
          | fail)
        go_ret
        exact ⟨hB.out.trans (HB1.out.mono hB.out.size), .inr ⟨k, HKL.out, rfl, hF.out, HT.out⟩⟩
      | true =>
        go_wp2_with (first
          | (go_at_call 37; (with_reducible refine HC1.out.mono ?_); rintro E w1 ⟨rfl, hb⟩; have HB1 := Lib.hid hb; clear hb)
          | fail)
        go_roundw
        case rel => exact ⟨k + 1, by go_num, by omega, Lib.hid (fun j hj => by
          by_cases e : j = k
          · rw [e]; exact HT.out
          · exact hF.out j (by omega)), Lib.hid (hB.out.trans (HB1.out.mono hB.out.size))⟩
        case measure => simp [intOf]; omega
    · have kn : ¬ (k : Int) < n := by omega
      have hke : k = n := by omega
      go_wp2
      go_ret
      exact ⟨hB.out, .inl ⟨rfl, fun j hj => hF.out j (by rw [hke, HN.out]; exact hj)⟩⟩

/-! ### DeleteFunc -/
theorem frozen_of_block {w w' : World} {a : Addr} (h : w'.heap[a.block]? = w.heap[a.block]?) : w'.frozen? a = w.frozen? a := by unfold World.frozen?; rw [h]
theorem rowm_on {w w' : World} {g : Nat} {d : Array Idn} (h : RowM w g d) (hb : Below w.heap.size w w') : RowM w' g d := by
  have e := hb.block g h.lt
  refine ⟨Nat.lt_of_lt_of_le h.lt hb.size, fun j hj => ?_, fun j hj => ?_, fun j hj => ?_, fun j hj => ?_⟩
  · exact (World.cell?_of_block (w := w) (a := ⟨g, j * 2, none⟩) e).trans (h.fst j hj)
  · exact (World.cell?_of_block (w := w) (a := ⟨g, j * 2 + 1, none⟩) e).trans (h.snd j hj)
  · exact (frozen_of_block (w := w) (a := ⟨g, j * 2, none⟩) e).trans (h.fr0 j hj)
  · exact (frozen_of_block (w := w) (a := ⟨g, j * 2 + 1, none⟩) e).trans (h.fr1 j hj)
/-- What stands between two rounds: the first i of the row are those of the first j that stay. -/
structure DelAt (S : Idn → Bool) (zs : List Idn) (i j : Nat) (dk : Array Idn) : Prop where
  size : dk.size = zs.length
  low : ∀ t, t < i → dk[t]! = nth ((zs.take j).filter S) t
  len : ((zs.take j).filter S).length = i
  high : ∀ t, j ≤ t → t < zs.length → dk[t]! = nth zs t
theorem nth_append_left {a b : List Idn} {t : Nat} (h : t < a.length) : nth (a ++ b) t = nth a t := by unfold nth; rw [List.getD_eq_getElem?_getD, List.getElem?_append_left h, ← List.getD_eq_getElem?_getD]
theorem nth_append_last {a : List Idn} {x : Idn} : nth (a ++ [x]) a.length = x := by unfold nth; rw [List.getD_eq_getElem?_getD]; simp
theorem take_nth {zs : List Idn} {j : Nat} (h : j < zs.length) : zs.take (j + 1) = zs.take j ++ [nth zs j] := by
  rw [List.take_succ_eq_append_getElem h]
  unfold nth
  rw [List.getD_eq_getElem?_getD, List.getElem?_eq_getElem h]; rfl
theorem filter_first {S : Idn → Bool} {zs : List Idn} : ∀ {k : Nat}, k ≤ zs.length → (∀ j, j < k → S (nth zs j) = true) → (zs.take k).filter S = zs.take k
  | 0, _, _ => by simp
  | k + 1, hk, h => by
    rw [take_nth (by omega), List.filter_append, filter_first (k := k) (by omega) (fun j hj => h j (by omega)), List.filter_cons_of_pos (h k (by omega))]; rfl
theorem DelAt.start {S : Idn → Bool} {zs : List Idn} {k : Nat} (hk : k < zs.length) (h : ∀ j, j < k → S (nth zs j) = true) (hn : S (nth zs k) = false) : DelAt S zs k (k + 1) zs.toArray := by
  have e : (zs.take (k + 1)).filter S = zs.take k := by
    rw [take_nth hk, List.filter_append, filter_first (by omega) h, List.filter_cons_of_neg (by rw [hn]; decide)]; simp
  have bang : ∀ t, zs.toArray[t]! = nth zs t := fun t => by rw [← nth_arr]
  refine ⟨by simp, fun t ht => ?_, by rw [e, List.length_take]; omega, fun t _ _ => bang t⟩
  rw [e, bang]
  unfold nth
  rw [List.getD_eq_getElem?_getD, List.getD_eq_getElem?_getD, List.getElem?_take_of_lt ht]
theorem DelAt.skip {S : Idn → Bool} {zs : List Idn} {i j : Nat} {dk : Array Idn} (h : DelAt S zs i j dk) (hj : j < zs.length) (hn : S (nth zs j) = false) : DelAt S zs i (j + 1) dk := by
  have e : (zs.take (j + 1)).filter S = (zs.take j).filter S := by rw [take_nth hj, List.filter_append, List.filter_cons_of_neg (by rw [hn]; decide)]; simp
  exact ⟨h.size, fun t ht => by rw [e]; exact h.low t ht, by rw [e]; exact h.len, fun t ht => h.high t (by omega)⟩
theorem DelAt.keep {S : Idn → Bool} {zs : List Idn} {i j : Nat} {dk : Array Idn} (h : DelAt S zs i j dk) (hij : i < j) (hj : j < zs.length) (hn : S (nth zs j) = true) : DelAt S zs (i + 1) (j + 1) (dk.setIfInBounds i (nth zs j)) := by
  have e : (zs.take (j + 1)).filter S = (zs.take j).filter S ++ [nth zs j] := by rw [take_nth hj, List.filter_append, List.filter_cons_of_pos hn]; rfl
  have hi : i < dk.size := by rw [h.size]; omega
  refine ⟨by simp [h.size], fun t ht => ?_, by rw [e, List.length_append, h.len]; rfl, fun t ht htl => ?_⟩
  · rw [e, bang_set dk i _ hi t (by omega)]
    by_cases et : t = i
    · rw [if_pos et, et]
      have := nth_append_last (a := (zs.take j).filter S) (x := nth zs j)
      rw [h.len] at this; exact this.symm
    · rw [if_neg et, nth_append_left (by rw [h.len]; omega)]; exact h.low t (by omega)
  · rw [bang_set dk i _ hi t (by rw [h.size]; exact htl), if_neg (by omega)]; exact h.high t (by omega) htl
theorem del_rowM {w : World} {g i : Nat} {S : Idn → Bool} {zs : List Idn} {dk : Array Idn} (h : RowM w g dk) (D : DelAt S zs i zs.length dk) : RowM (w.setCells g (i * 2) (zeros (zs.length - i))) g (zs.filter S).toArray := by
  have hl : (zs.filter S).length = i := by have := D.len; rwa [List.take_length] at this
  have hil : i ≤ zs.length := by rw [← hl]; exact List.length_filter_le _ _
  have e : ∀ (l : List Value) (o : Nat) (w : World), (w.setCells g o l).heap.size = w.heap.size := by
    intro l
    induction l with
    | nil => intro o w; rfl
    | cons v l ih => intro o w; rw [World.setCells, ih, size_setCell]
  have bang : ∀ t, t < i → (zs.filter S).toArray[t]! = dk[t]! := fun t ht => by
    have := D.low t ht
    rw [List.take_length] at this
    rw [this, ← nth_arr]
  refine ⟨by rw [e]; exact h.lt, fun j hj => ?_, fun j hj => ?_, fun j hj => ?_, fun j hj => ?_⟩
  · have hj' : j < i := by rw [← hl]; simpa using hj
    rw [World.cell?_setCells_out g _ _ _ _ (fun _ _ => Or.inl (show j * 2 < i * 2 by omega)), bang j hj']
    exact h.fst j (by rw [D.size]; omega)
  · have hj' : j < i := by rw [← hl]; simpa using hj
    rw [World.cell?_setCells_out g _ _ _ _ (fun _ _ => Or.inl (show j * 2 + 1 < i * 2 by omega)), bang j hj']
    exact h.snd j (by rw [D.size]; omega)
  · have hj' : j < i := by rw [← hl]; simpa using hj
    rw [World.frozen?_setCells]; exact h.fr0 j (by rw [D.size]; omega)
  · have hj' : j < i := by rw [← hl]; simpa using hj
    rw [World.frozen?_setCells]; exact h.fr1 j (by rw [D.size]; omega)
end Go.Proofs.YthcejcffnjhomaaGreat.Cps

/- What the library's DeleteFunc gives at ids by the developers' closure, and what their Sorted gives (layer 17, comps). Conditions: those in each statement. -/
namespace Go.Proofs.YthcejcffnjhomaaGreat.Cps
open Go.RowKit Cmd Bat Ids Rec Wid Gra Rea Mpg Go.Sort
set_option linter.unusedVariables false
set_option linter.unusedSimpArgs false

/-- What the closure tells, whatever has turned above a base. -/
def ScB (bx : Nat) (S : Idn → Bool) (base : Nat) (W : World) : Prop := ∀ X (a b : Int), Below base W X → wfId (a, b) → Calls Tryz.prog 37 #[.agg #[.int .i64 a, .int .i64 b], .pointer (some ⟨bx, 0, none⟩)] X (RetBelow (.bool (!S (a, b))) X)
theorem ScB.at {bx : Nat} {S : Idn → Bool} {base : Nat} {W : World} (C : ScB bx S base W) (h : base ≤ W.heap.size) : ScAt bx S W := fun X a b hb hw => C X a b (hb.mono h) hw
theorem roww_on {w w' : World} {base : Nat} {v : Value} {zs : List Idn} (h : RowW w base v zs) (hb : Below w.heap.size w w') : RowW w' base v zs := ⟨h.1.on hb, fun hz => by
  obtain ⟨g, cap, e, h1, h2, h3, h4⟩ := h.2 hz
  exact ⟨g, cap, e, h1, h2, h3, rowm_on h4 hb⟩⟩
theorem idx_all (v : Value) (zs : List Idn) (bx : Nat) (S : Idn → Bool) (W : World) (h : RowAt W v zs) (hl : zs.length ≤ 100000) (hw : ∀ x ∈ zs, wfId x) (C : ScAt bx S W) (ha : ∀ j, j < zs.length → S (nth zs j) = true) :
    Calls Tryz.prog 71 #[v, scV bx] W (RetBelow (.int .i64 (-1)) W) := (idxI_any v zs bx S W h hl hw C).mono fun E w' ⟨hb, h⟩ => by
  rcases h with ⟨h, -⟩ | ⟨k, hk, -, -, h2⟩
  · exact ⟨h, hb⟩
  · rw [ha k hk] at h2; cases h2
theorem idx_some (v : Value) (zs : List Idn) (bx : Nat) (S : Idn → Bool) (W : World) (h : RowAt W v zs) (hl : zs.length ≤ 100000) (hw : ∀ x ∈ zs, wfId x) (C : ScAt bx S W) (ha : ¬ ∀ j, j < zs.length → S (nth zs j) = true) :
    Calls Tryz.prog 71 #[v, scV bx] W fun E w' => ∃ k : Nat, E = .returned (.int .i64 k) ∧ k < zs.length ∧ (∀ j, j < k → S (nth zs j) = true) ∧ S (nth zs k) = false ∧ Below W.heap.size W w' := (idxI_any v zs bx S W h hl hw C).mono fun E w' ⟨hb, h⟩ => by
  rcases h with ⟨-, h⟩ | ⟨k, hk, e, h1, h2⟩
  · exact absurd h ha
  · exact ⟨k, e, hk, h1, h2, hb⟩
/-- What is left of a row. -/
def GivesW (base : Nat) (zs : List Idn) (w : World) (E : Ending) (w' : World) : Prop := ∃ v, E = .returned v ∧ RowW w' base v zs ∧ Below base w w'
set_option maxRecDepth 100000 in
set_option maxHeartbeats 4000000 in
theorem del_any (v : Value) (zs : List Idn) (bx : Nat) (S : Idn → Bool) (base : Nat) (W : World) (h : RowW W base v zs) (hbase : base ≤ W.heap.size) (hl : zs.length ≤ 100000) (hw : ∀ x ∈ zs, wfId x) (C : ScB bx S base W) :
    Calls Tryz.prog 35 #[v, scV bx] W (GivesW base (zs.filter S) W) := by
  by_cases ha : ∀ j, j < zs.length → S (nth zs j) = true
  · have HI := Lib.hid (idx_all v zs bx S W h.1 hl hw (C.at hbase) ha)
    have HF : Hid (zs.filter S = zs) := Lib.hid (by
      have := filter_first (zs := zs) (k := zs.length) (Nat.le_refl _) ha
      rwa [List.take_length] at this)
    have HR := Lib.hid h
    have HBS := Lib.hid hbase
    obtain ⟨p, cap, rfl, -⟩ := h.1
    clear h hl hw C ha hbase
    go_enter Tryz.func35, Tryz.ntmps35
    go_wp2_with (first
      | (go_at_call 71; (with_reducible refine HI.out.mono ?_); rintro E w1 ⟨rfl, hb⟩; have HB1 := Lib.hid hb; clear hb)
      | fail)
    go_ret
    exact ⟨_, rfl, by rw [HF.out]; exact roww_on HR.out HB1.out, HB1.out.mono HBS.out⟩
  · have HI : Hid (Calls Tryz.prog 71 #[v, scV bx] W fun E w' => ∃ k : Nat, E = .returned (.int .i64 k) ∧ ((k : Int) == -1) = false ∧ (0 : Int) ≤ k ∧ k < zs.length ∧ Hid ((∀ j, j < k → S (nth zs j) = true) ∧ S (nth zs k) = false) ∧ Below W.heap.size W w') := Lib.hid ((idx_some v zs bx S W h.1 hl hw (C.at hbase) ha).mono fun E w' ⟨k, e, h1, h2, h3, h4⟩ => ⟨k, e, by simp, by omega, h1, Lib.hid ⟨h2, h3⟩, h4⟩)
    have hz : zs ≠ [] := fun e => ha fun j hj => by rw [e] at hj; exact absurd hj (Nat.not_lt_zero _)
    obtain ⟨g, cap, rfl, hg0, hc1, hc2, hm⟩ := h.2 hz
    obtain ⟨n, hn⟩ : ∃ n, n = zs.length := ⟨_, rfl⟩
    have HN := Lib.hid hn
    have HM := Lib.hid hm
    have HC := Lib.hid C
    have HW := Lib.hid hw
    have HBS := Lib.hid (And.intro hbase hg0)
    rw [← hn] at HI hc1 ⊢
    have hnl : n ≤ 100000 := by omega
    clear h hl hw C ha hbase hz hn hm hg0
    go_enter Tryz.func35, Tryz.ntmps35
    go_wp2_with (first
      | (go_at_call 71; (with_reducible refine HI.out.mono ?_); rintro E w1 ⟨k, rfl, hne, hk0, hkn, HK, hb⟩; have HB1 := Lib.hid hb; clear hb)
      | fail)
    go_loopw [5, 6] (fun s5 s6 wr => ∃ (i j : Nat) (dk : Array Idn), s5 = .int .i64 i ∧ s6 = .int .i64 j ∧ i < j ∧ j ≤ n ∧ Hid (RowM wr g dk) ∧ Hid (DelAt S zs i j dk) ∧ Hid (Below base W wr)) (fun _ s6 _ => n - (intOf s6).toNat)
    case atStart => exact ⟨k, k + 1, zs.toArray, rfl, by go_num, by omega, by omega, Lib.hid (rowm_on HM.out HB1.out), Lib.hid (.start (by rw [← HN.out]; exact hkn) HK.out.1 HK.out.2), Lib.hid (HB1.out.mono HBS.out.1)⟩
    case round =>
      clear hne hkn hk0
      obtain ⟨i, j, dk, rfl, rfl, hij, hjn, hR, hD, hB⟩ := hrel
      have hds : dk.size = n := by rw [hD.out.size, HN.out]
      have j0 : (0 : Int) ≤ j := by omega
      have i0 : (0 : Int) ≤ i := by omega
      have iz : (i : Int) < n := by omega
      by_cases hlt : j < n
      · have jn : (j : Int) < n := by omega
        have hjl : j < zs.length := by rw [← HN.out]; exact hlt
        obtain ⟨⟨x, y⟩, hxy⟩ : ∃ z, nth zs j = z := ⟨_, rfl⟩
        have c1 := hR.out.fst j (by omega)
        have c2 := hR.out.snd j (by omega)
        rw [hD.out.high j (Nat.le_refl _) hjl, hxy] at c1 c2
        have hb1 := Cmd.below_one wr (.cells #[.int .i64 x, .int .i64 y] 41)
        have hx1 := heap_alloc_new wr (.cells #[.int .i64 x, .int .i64 y] 41)
        have b0 : (wr.alloc (.cells #[.int .i64 x, .int .i64 y] 41)).cell? ⟨wr.heap.size, 0, none⟩ = some (.int .i64 x) := cell_row (i := 0) hx1 rfl
        have b1 : (wr.alloc (.cells #[.int .i64 x, .int .i64 y] 41)).cell? ⟨wr.heap.size, 1, none⟩ = some (.int .i64 y) := cell_row (i := 1) hx1 rfl
        have HBX : Hid (Below base W (wr.alloc (.cells #[.int .i64 x, .int .i64 y] 41))) := Lib.hid (hB.out.trans (hb1.mono (Nat.le_trans HBS.out.1 hB.out.size)))
        have HRX := Lib.hid (rowm_on hR.out hb1)
        have HC1 := Lib.hid (HC.out _ x y HBX.out (HW.out _ (by rw [← hxy]; exact nth_in hjl)))
        have HX1 := Lib.hid hx1
        obtain ⟨t, ht⟩ : ∃ t, S (x, y) = t := ⟨_, rfl⟩
        rw [ht] at HC1
        have HXY : Hid (j < zs.length ∧ nth zs j = (x, y) ∧ S (nth zs j) = t) := Lib.hid ⟨hjl, hxy, by rw [hxy]; exact ht⟩
        have hi2 : i < dk.size := by omega
        have HI2 := Lib.hid hi2
        obtain ⟨o1, ho1⟩ : ∃ o, dk[i]!.1 = o := ⟨_, rfl⟩
        obtain ⟨o2, ho2⟩ : ∃ o, dk[i]!.2 = o := ⟨_, rfl⟩
        have HO1 := Lib.hid ho1
        have HO2 := Lib.hid ho2
        clear hb1 hx1 hjl hxy ht hds hi2 ho1 ho2 hR
        cases t with
        | true =>
          go_wp2_with (first
            | (go_at_call 37; (with_reducible refine HC1.out.mono ?_); rintro E w2 ⟨rfl, hb⟩
               have hr2 := rowm_on HRX.out hb
               have hx2 := (hb.block _ (Array.getElem?_eq_some_iff.1 HX1.out).1).trans HX1.out
               have c5 := hr2.fst i HI2.out
               have c6 := hr2.snd i HI2.out
               have f5 := hr2.fr0 i HI2.out
               have f6 := hr2.fr1 i HI2.out
               rw [HO1.out] at c5
               rw [HO2.out] at c6
               have d0 : w2.cell? ⟨wr.heap.size, 0, none⟩ = some (.int .i64 x) := cell_row (i := 0) hx2 rfl
               have d1 : w2.cell? ⟨wr.heap.size, 1, none⟩ = some (.int .i64 y) := cell_row (i := 1) hx2 rfl
               have HR2 := Lib.hid hr2
               have HB2 := Lib.hid (HBX.out.trans (hb.mono (Nat.le_trans HBS.out.1 HBX.out.size)))
               clear hb hr2 hx2)
            | fail)
          go_roundw
          case rel =>
            refine ⟨i + 1, j + 1, dk.setIfInBounds i (x, y), by go_num, by go_num, by omega, by omega, Lib.hid (HR2.out.set HI2.out x y), Lib.hid ?_, Lib.hid (below_put2 HB2.out HBS.out.2 _ _ _)⟩
            have := hD.out.keep hij HXY.out.1 HXY.out.2.2
            rwa [HXY.out.2.1] at this
          case measure => simp [intOf]; omega
        | false =>
          go_wp2_with (first
            | (go_at_call 37; (with_reducible refine HC1.out.mono ?_); rintro E w2 ⟨rfl, hb⟩
               have HR2 := Lib.hid (rowm_on HRX.out hb)
               have HB2 := Lib.hid (HBX.out.trans (hb.mono (Nat.le_trans HBS.out.1 HBX.out.size)))
               clear hb)
            | fail)
          go_roundw
          case rel => exact ⟨i, j + 1, dk, rfl, by go_num, by omega, by omega, HR2, Lib.hid (hD.out.skip HXY.out.1 HXY.out.2.2), HB2⟩
          case measure => simp [intOf]; omega
      · have jn : ¬ (j : Int) < n := by omega
        have hje : j = n := by omega
        subst hje
        have hcl : ∀ ty, (Builtin.clear_ #[35] ty #[.slice (some ⟨g, i * 2, none⟩) (j - i) (cap - i)]).run Tryz.prog wr = .ok (.tuple #[]) (wr.setCells g (i * 2) (zeros (j - i))) := fun ty =>
          run_clear_ids wr ty g (i * 2) (j - i) (cap - i) (by omega) (fun t ht => by
            rcases Nat.mod_two_eq_zero_or_one t with h | h
            · rw [show i * 2 + t = (i + t / 2) * 2 by omega, hR.out.fst _ (by omega)]; rfl
            · rw [show i * 2 + t = (i + t / 2) * 2 + 1 by omega, hR.out.snd _ (by omega)]; rfl) (fun t ht => by
            rcases Nat.mod_two_eq_zero_or_one t with h | h
            · rw [show i * 2 + t = (i + t / 2) * 2 by omega]; exact hR.out.fr0 _ (by omega)
            · rw [show i * 2 + t = (i + t / 2) * 2 + 1 by omega]; exact hR.out.fr1 _ (by omega))
        have HD : Hid (DelAt S zs i zs.length dk) := Lib.hid (by rw [← HN.out]; exact hD.out)
        have HRM : Hid (RowM (wr.setCells g (i * 2) (zeros (j - i))) g (zs.filter S).toArray) := Lib.hid (by
          have := del_rowM hR.out HD.out
          rwa [← HN.out] at this)
        have HLN : Hid ((zs.filter S).length = i) := Lib.hid (by have := HD.out.len; rwa [List.take_length] at this)
        have HBE := Lib.hid (below_setCells HBS.out.2 (zeros (j - i)) (i * 2) hB.out)
        clear hR hD hds
        go_wp2
        go_ret
        have hrm := HRM.out
        have hln := HLN.out
        refine ⟨_, rfl, ⟨?_, fun _ => ⟨g, cap, by rw [hln]; rfl, HBS.out.2, by omega, hc2, hrm⟩⟩, HBE.out⟩
        have hr2 : Row2 (wr.setCells g (i * 2) (zeros (j - i))) g 0 (zs.filter S) := by have := hrm.row; rwa [List.toList_toArray] at this
        exact ⟨some ⟨g, 0, none⟩, cap, by rw [hln]; rfl, by omega, hc2, (fun h => by cases h), fun _ => ⟨g, 0, rfl, hr2.lt, fun t ht => ⟨hr2.fst t ht, hr2.snd t ht⟩⟩⟩
end Go.Proofs.YthcejcffnjhomaaGreat.Cps
