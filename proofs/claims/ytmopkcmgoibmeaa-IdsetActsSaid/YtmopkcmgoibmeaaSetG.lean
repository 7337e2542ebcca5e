/- The statement's function of layer 4 (idset) on two lists of ids: it returns true. Conditions: the lists lie in memory xa their cells say; their ids fit into their kind. -/
import Derived.Test.YtmopkcmgoibmeaaSetE
namespace Go.Proofs.Ytmopkcmgoibmeaa
open Go.RowKit Go.Maps
set_option linter.unusedVariables false

def dels (xs l : List Idn) : List Idn := l.foldl del xs
theorem dels_mem (l : List Idn) : ∀ (xs : List Idn) (z : Idn), z ∈ dels xs l ↔ z ∈ xs ∧ z ∉ l := by
  induction l with
  | nil => intro xs z; simp [dels]
  | cons x t ih =>
    intro xs z
    have := ih (del xs x) z
    unfold dels at *
    rw [List.foldl_cons, this, del_mem, List.mem_cons]
    constructor
    · rintro ⟨⟨h1, h2⟩, h3⟩; exact ⟨h1, fun h => h.elim h2 h3⟩
    · rintro ⟨h1, h2⟩; exact ⟨⟨h1, fun e => h2 (.inl e)⟩, fun h => h2 (.inr h)⟩
theorem dels_rise (l : List Idn) : ∀ xs : List Idn, Rise xs → Rise (dels xs l) := by
  induction l with
  | nil => intro xs h; exact h
  | cons x t ih => intro xs h; exact ih _ (del_rise h x)
theorem dels_len (l : List Idn) : ∀ xs : List Idn, (dels xs l).length ≤ xs.length := by
  induction l with
  | nil => intro xs; exact Nat.le_refl _
  | cons x t ih => intro xs; exact Nat.le_trans (ih _) (List.length_filter_le _ _)
theorem dels_take (xs : List Idn) {l : List Idn} {k : Nat} (h : k < l.length) : dels xs (l.take (k + 1)) = del (dels xs (l.take k)) (nth l k) := by
  have e : nth l k = l[k] := by unfold nth; rw [List.getD_eq_getElem?_getD, List.getElem?_eq_getElem h]; rfl
  unfold dels
  rw [List.take_succ_eq_append_getElem h, List.foldl_append, e]; rfl
theorem dels_minus (xs l : List Idn) (h : Rise xs) : dels xs l = minus xs (srt l) :=
  rise_eq (dels_rise l xs h) (h.filter _) fun x => by rw [dels_mem, minus_mem, srt_mem]
theorem minus_none {A B : List Idn} (hA : Rise A) (hB : Rise B) : A = B ↔ (minus A B).length + (minus B A).length = 0 := by
  constructor
  · rintro rfl
    have : minus A A = [] := List.eq_nil_iff_forall_not_mem.2 fun x h => ((minus_mem A A x).1 h).2 ((minus_mem A A x).1 h).1
    rw [this]; rfl
  · intro h
    have h1 : minus A B = [] := List.eq_nil_of_length_eq_zero (by omega)
    have h2 : minus B A = [] := List.eq_nil_of_length_eq_zero (by omega)
    refine rise_eq hA hB fun x => ⟨fun hx => ?_, fun hx => ?_⟩
    · by_cases hn : x ∈ B
      · exact hn
      · have := (minus_mem A B x).2 ⟨hx, hn⟩; rw [h1] at this; cases this
    · by_cases hn : x ∈ A
      · exact hn
      · have := (minus_mem B A x).2 ⟨hx, hn⟩; rw [h2] at this; cases this
theorem srt_nil {l : List Idn} : [] = srt l ↔ l.length = 0 := by
  constructor
  · intro h
    by_cases hl : l = []
    · rw [hl]; rfl
    · obtain ⟨x, hx⟩ := List.exists_mem_of_ne_nil l hl
      have := (srt_mem l x).2 hx
      rw [← h] at this; cases this
  · intro h; rw [List.eq_nil_of_length_eq_zero h]; rfl

/-- Both sets stand; nothing that was there has turned. -/
structure Both (w : World) (g m g' m' : Nat) (xa xb : List Idn) (W : World) : Prop where
  below : Below w.heap.size w W
  s : SetP W g m (srt xa)
  o : SetP W g' m' (srt xb)
theorem Both.on {w : World} {g m g' m' : Nat} {xa xb : List Idn} {W W' : World} (h : Both w g m g' m' xa xb W) (hb : Below W.heap.size W W') : Both w g m g' m' xa xb W' :=
  ⟨h.below.trans (hb.mono h.below.size), h.s.on hb, h.o.on hb⟩
def RetB (v : Value) (w : World) (e : Ending) (w' : World) : Prop := e = .returned v ∧ Below w.heap.size w w'
structure Fin (w : World) (g m g' m' : Nat) (xa xb : List Idn) (v u : Value) (W : World) : Prop where
  both : Both w g m g' m' xa xb W
  want : RowAt W v (minus (srt xa) (srt xb))
  back : RowAt W u (minus (srt xb) (srt xa))
theorem Fin.on {w : World} {g m g' m' : Nat} {xa xb : List Idn} {v u : Value} {W W' : World} (h : Fin w g m g' m' xa xb v u W) (hb : Below W.heap.size W W') : Fin w g m g' m' xa xb v u W' := ⟨h.both.on hb, h.want.on hb, h.back.on hb⟩
theorem same_true (v u : Value) (zs : List Idn) (w : World) (h : RowAt w v zs) (g : RowAt w u zs) : Calls Try.prog 15 #[v, u] w (RetTrue w) := by
  have := same_any v u zs zs w h g
  rw [decide_eq_true rfl] at this
  exact this

set_option maxHeartbeats 8000000 in
set_option maxRecDepth 100000 in
theorem minuslaw_any (v0 v1 : Value) (xa xb : List Idn) (w : World) (h0 : RowAt w v0 xa) (h1 : RowAt w v1 xb) (hw0 : ∀ x ∈ xa, wfId x) (hw1 : ∀ x ∈ xb, wfId x) : Calls Try.prog 4 #[v0, v1] w (RetTrue w) := by
  have HWK := Lib.hid works_any
  obtain ⟨p0, cap0, rfl, hc0, hd0⟩ := h0.shape
  obtain ⟨p1, cap1, rfl, hc1, hd1⟩ := h1.shape
  obtain ⟨n, hn⟩ : ∃ n, xa.length = n := ⟨_, rfl⟩
  obtain ⟨k, hk⟩ : ∃ n, xb.length = n := ⟨_, rfl⟩
  rw [hn] at h0 hc0 ⊢
  rw [hk] at h1 hc1 ⊢
  have HR0 := Lib.hid h0
  have HR1 := Lib.hid h1
  have HN := Lib.hid hn
  have HK := Lib.hid hk
  have HW0 := Lib.hid hw0
  have HW1 := Lib.hid hw1
  clear h0 h1 hw0 hw1 hn hk
  by_cases hn1 : 100 < n
  · have h1 : 100 < (n : Int) := by omega
    go_enter Try.func4, Try.ntmps4
    go_wp2_with (go_at_call 5; (with_reducible refine (HWK.out _).mono ?_); rintro e w4 ⟨rfl, hb⟩; have HB := Lib.hid hb; clear hb)
    go_ret
    exact ⟨rfl, HB.out⟩
  · have h1 : ¬ 100 < (n : Int) := by omega
    by_cases hk1 : 100 < k
    · have h2 : 100 < (k : Int) := by omega
      go_enter Try.func4, Try.ntmps4
      go_wp2_with (go_at_call 5; (with_reducible refine (HWK.out _).mono ?_); rintro e w4 ⟨rfl, hb⟩; have HB := Lib.hid hb; clear hb)
      go_ret
      exact ⟨rfl, HB.out⟩
    · have h2 : ¬ 100 < (k : Int) := by omega
      have HN1 : Hid (Calls Try.prog 6 #[.slice p0 n cap0] w (GivesSet (srt xa) w)) := Lib.hid (new_any _ xa w HR0.out HW0.out (by rw [HN.out]; omega))
      have HN2 : Hid (∀ W, Below w.heap.size w W → Calls Try.prog 6 #[.slice p1 k cap1] W (GivesSet (srt xb) W)) := Lib.hid fun W hb => new_any _ xb W (HR1.out.on hb) HW1.out (by rw [HK.out]; omega)
      have HS1 : Hid (∀ W, Below w.heap.size w W → Calls Try.prog 7 #[.slice p0 n cap0] W (GivesRow (srt xa) W)) := Lib.hid fun W hb => refsorted_any _ xa W (HR0.out.on hb) (by rw [HN.out]; omega)
      have HS2 : Hid (∀ W, Below w.heap.size w W → Calls Try.prog 7 #[.slice p1 k cap1] W (GivesRow (srt xb) W)) := Lib.hid fun W hb => refsorted_any _ xb W (HR1.out.on hb) (by rw [HK.out]; omega)
      have LA : Hid ((srt xa).length ≤ 100) := Lib.hid (Nat.le_trans (srt_length xa) (by rw [HN.out]; omega))
      have LB : Hid ((srt xb).length ≤ 100) := Lib.hid (Nat.le_trans (srt_length xb) (by rw [HK.out]; omega))
      go_enter Try.func4, Try.ntmps4
      go_wp2_with (first
        | (go_at_call 6; ((with_reducible refine HN1.out.mono ?_); rintro e w1 ⟨g, m, rfl, -, -, hs, hb⟩; unfold setPtr; have S1 := Lib.hid hs; have B1 := Lib.hid hb; clear hs hb HN1))
        | (go_at_call 6; ((with_reducible refine (HN2.out _ B1.out).mono ?_); rintro e w2 ⟨g', m', rfl, -, -, hs, hb⟩; unfold setPtr; have S2 : Hid (Both w g m g' m' xa xb w2) := Lib.hid ⟨B1.out.trans (hb.mono B1.out.size), S1.out.on hb, hs⟩; clear hs hb HN2))
        | (go_at_call 7; ((with_reducible refine (HS1.out _ S2.out.below).mono ?_); rintro e w3 ⟨q, rfl, hr, hb⟩; have S3 := Lib.hid (S2.out.on hb); have R3 := Lib.hid hr; clear hr hb))
        | (go_at_call 7; ((with_reducible refine (HS2.out _ S3.out.below).mono ?_); rintro e w4 ⟨q', rfl, hr, hb⟩; have S4 := Lib.hid (S3.out.on hb); have R4 := Lib.hid (R3.out.on hb); have R4' := Lib.hid hr; clear hr hb)))
      go_loopw [7, 9] (fun o i wr => ∃ j : Nat, j ≤ k ∧ i = .int .i64 j ∧ Hid (Both w g m g' m' xa xb wr) ∧ Hid (RowAt wr o (dels (srt xa) (xb.take j))) ∧ Hid (RowAt wr q' (srt xb))) (fun _ i _ => k - (intOf i).toNat)
      case atStart => exact ⟨0, Nat.zero_le _, rfl, S4, R4, R4'⟩
      case round =>
        obtain ⟨j, hj, rfl, hst, hrow, hback⟩ := hrel
        by_cases hjk : j < k
        · obtain ⟨B, off, rfl, hr2⟩ := (HR1.out.on hst.out.below).row2 (by rw [HK.out]; omega)
          have c1 := hr2.fst j (by rw [HK.out]; exact hjk)
          have c2 := hr2.snd j (by rw [HK.out]; exact hjk)
          have k0 : (0 : Int) ≤ j := by omega
          have kn : (j : Int) < k := by omega
          obtain ⟨x, y, hxy⟩ : ∃ x y, nth xb j = (x, y) := ⟨_, _, rfl⟩
          rw [hxy] at c1 c2
          have HD : Hid (dels (srt xa) (xb.take (j + 1)) = del (dels (srt xa) (xb.take j)) (x, y)) := Lib.hid (by rw [dels_take _ (by rw [HK.out]; exact hjk), hxy])
          have HC := Lib.hid (cut_any u7 _ x y wr hrow.out (by have := dels_len (xb.take j) (srt xa); have := LA.out; omega))
          clear hr2 hxy
          go_wp2_with (go_at_call 9; ((with_reducible refine HC.out.mono ?_); rintro e w5 ⟨v, rfl, hr, hb⟩; have HR5 := Lib.hid hr; have HB5 := Lib.hid hb; clear hr hb))
          go_roundw
          case rel => exact ⟨j + 1, by omega, by go_num, Lib.hid (hst.out.on HB5.out), Lib.hid (by rw [HD.out]; exact HR5.out), Lib.hid (hback.out.on HB5.out)⟩
          case measure => simp [intOf]; omega
        · have kn : ¬ (j : Int) < k := by omega
          have HE : Hid (xb.take j = xb) := Lib.hid (List.take_of_length_le (by rw [HK.out]; omega))
          rw [HE.out, dels_minus _ _ (srt_rise xa)] at hrow
          clear HS2 S1 B1 S2 S3 R3 S4 R4 R4' HE
          go_wp2
          go_loopw [8, 10] (fun o i wr' => ∃ j : Nat, j ≤ n ∧ i = .int .i64 j ∧ Hid (Both w g m g' m' xa xb wr') ∧ Hid (RowAt wr' o (dels (srt xb) (xa.take j))) ∧ Hid (RowAt wr' u7 (minus (srt xa) (srt xb)))) (fun _ i _ => n - (intOf i).toNat)
          case atStart => exact ⟨0, Nat.zero_le _, rfl, hst, hback, hrow⟩
          case round =>
            obtain ⟨j', hj', rfl, hst2, hrow2, hwant⟩ := hrel
            by_cases hjn : j' < n
            · obtain ⟨B, off, rfl, hr2⟩ := (HR0.out.on hst2.out.below).row2 (by rw [HN.out]; omega)
              have c1 := hr2.fst j' (by rw [HN.out]; exact hjn)
              have c2 := hr2.snd j' (by rw [HN.out]; exact hjn)
              have k0 : (0 : Int) ≤ j' := by omega
              have kn2 : (j' : Int) < n := by omega
              obtain ⟨x, y, hxy⟩ : ∃ x y, nth xa j' = (x, y) := ⟨_, _, rfl⟩
              rw [hxy] at c1 c2
              have HD : Hid (dels (srt xb) (xa.take (j' + 1)) = del (dels (srt xb) (xa.take j')) (x, y)) := Lib.hid (by rw [dels_take _ (by rw [HN.out]; exact hjn), hxy])
              have HC := Lib.hid (cut_any u8 _ x y wr hrow2.out (by have := dels_len (xa.take j') (srt xb); have := LB.out; omega))
              clear hr2 hxy
              go_wp2_with (go_at_call 9; ((with_reducible refine HC.out.mono ?_); rintro e w5 ⟨v, rfl, hr, hb⟩; have HR5 := Lib.hid hr; have HB5 := Lib.hid hb; clear hr hb))
              go_roundw
              case rel => exact ⟨j' + 1, by omega, by go_num, Lib.hid (hst2.out.on HB5.out), Lib.hid (by rw [HD.out]; exact HR5.out), Lib.hid (hwant.out.on HB5.out)⟩
              case measure => simp [intOf]; omega
            · have kn2 : ¬ (j' : Int) < n := by omega
              have HE : Hid (xa.take j' = xa) := Lib.hid (List.take_of_length_le (by rw [HN.out]; omega))
              rw [HE.out, dels_minus _ _ (srt_rise xb)] at hrow2
              obtain ⟨qp, qc, eq, hq1, hq2⟩ := hwant.out.shape
              obtain ⟨rp, rc, er, hr1, hr2⟩ := hrow2.out.shape
              have HF : Hid (Fin w g m g' m' xa xb u7 u8 wr) := Lib.hid ⟨hst2.out, hwant.out, hrow2.out⟩
              have HMN := Lib.hid (minus_none (srt_rise xa) (srt_rise xb))
              obtain ⟨x, hx⟩ : ∃ x, (minus (srt xa) (srt xb)).length = x := ⟨_, rfl⟩
              obtain ⟨y, hy⟩ : ∃ x, (minus (srt xb) (srt xa)).length = x := ⟨_, rfl⟩
              rw [hx] at eq hq1 HMN
              rw [hy] at er hr1 HMN
              obtain ⟨r, hr⟩ : ∃ r, decide (srt xa = srt xb) = r := ⟨_, rfl⟩
              obtain ⟨r0, hr0⟩ : ∃ r, decide ([] = srt xa) = r := ⟨_, rfl⟩
              have hxl : x ≤ 100 := by rw [← hx]; exact Nat.le_trans (List.length_filter_le _ _) LA.out
              have hyl : y ≤ 100 := by rw [← hy]; exact Nat.le_trans (List.length_filter_le _ _) LB.out
              have er0 : ((n : Int) == 0) = r0 := by rw [← hr0, Bool.eq_iff_iff, beq_iff_eq, decide_eq_true_eq, srt_nil, HN.out]; omega
              have er2 : ((x : Int) + (y : Int) == 0) = r := by rw [← hr, Bool.eq_iff_iff, beq_iff_eq, decide_eq_true_eq, HMN.out]; omega
              have C1 : Hid (∀ W, Calls Try.prog 14 #[.pointer none] W fun e w' => e = .returned (.int .i64 0) ∧ W = w') := Lib.hid fun W => len_any _ [] W (.inl ⟨rfl, rfl⟩)
              have C2 : Hid (∀ W, Calls Try.prog 16 #[.pointer none] W fun e w' => ∃ p cap, e = .returned (.slice p 0 cap) ∧ Below W.heap.size W w') := Lib.hid fun W => (setlist_any _ [] W (.inl ⟨rfl, rfl⟩) (by decide)).mono fun e w' ⟨v, he, hr, hb⟩ => by
                obtain ⟨p, cap, rfl, _, _⟩ := hr.shape
                exact ⟨p, cap, he, hb⟩
              have C3 : Hid (∀ W, SetP W g m (srt xa) → Calls Try.prog 17 #[.pointer (some ⟨g, 0, none⟩), .pointer none] W (GivesRow (srt xa) W)) := Lib.hid fun W h => by
                have := minus_p g m (srt xa) (.pointer none) [] W h (.inl ⟨rfl, rfl⟩) (by have := LA.out; omega)
                rw [minus_nil] at this; exact this
              have C4 : Hid (∀ W, SetP W g m (srt xa) → Calls Try.prog 18 #[.pointer none, .pointer (some ⟨g, 0, none⟩)] W (RetB (.bool r0) W)) := Lib.hid fun W h => by
                have := same_nil (setPtr g) (srt xa) W (.inr ⟨g, m, rfl, h⟩)
                rw [hr0] at this; exact this
              have C5 : Hid (∀ W, SetP W g m (srt xa) → SetP W g' m' (srt xb) → Calls Try.prog 17 #[.pointer (some ⟨g, 0, none⟩), .pointer (some ⟨g', 0, none⟩)] W (GivesRow (minus (srt xa) (srt xb)) W)) := Lib.hid fun W h h' => minus_p g m (srt xa) (setPtr g') (srt xb) W h (.inr ⟨g', m', rfl, h'⟩) (by have := LA.out; omega)
              have C6 : Hid (∀ W, SetP W g m (srt xa) → SetP W g' m' (srt xb) → Calls Try.prog 18 #[.pointer (some ⟨g, 0, none⟩), .pointer (some ⟨g', 0, none⟩)] W (RetB (.bool r) W)) := Lib.hid fun W h h' => by
                have := same_p g m (srt xa) (setPtr g') (srt xb) W h (.inr ⟨g', m', rfl, h'⟩) (by have := LA.out; omega)
                rw [hr] at this; exact this
              subst eq; subst er
              clear hrow hback hst hrow2 hwant hst2 HE HMN hx hy hr hr0 HR0 HR1 HW0 HW1
              go_wp2_with (first
                | (go_at_call 12; ((with_reducible refine (add_nil _ _ _).mono ?_); rintro e x1 ⟨rfl, hb⟩; have D1 := Lib.hid (HF.out.on hb); clear hb))
                | (go_at_call 14; ((with_reducible refine (C1.out _).mono ?_); rintro e x2 ⟨rfl, rfl⟩))
                | (go_at_call 16; ((with_reducible refine (C2.out _).mono ?_); rintro e x3 ⟨lp, lc, rfl, hb⟩; have D2 := Lib.hid (D1.out.on hb); clear hb))
                | (go_at_call 17; ((with_reducible refine (C3.out _ D2.out.both.s).mono ?_); rintro e x4 ⟨t1, rfl, hr, hb⟩; have D3 := Lib.hid (D2.out.on hb); have T3 := Lib.hid hr; clear hr hb))
                | (go_at_call 7; ((with_reducible refine (HS1.out _ D3.out.both.below).mono ?_); rintro e x5 ⟨t2, rfl, hr, hb⟩; have D4 := Lib.hid (D3.out.on hb); have T4 := Lib.hid (T3.out.on hb); have T4' := Lib.hid hr; clear hr hb))
                | (go_at_call 15; ((with_reducible refine (same_true _ _ _ _ T4.out T4'.out).mono ?_); rintro e x6 ⟨rfl, hb⟩; have D5 := Lib.hid (D4.out.on hb); clear hb))
                | (go_at_call 18; ((with_reducible refine (C4.out _ D5.out.both.s).mono ?_); rintro e x7 ⟨rfl, hb⟩; have D6 := Lib.hid (D5.out.on hb); clear hb))
                | (go_at_call 17; ((with_reducible refine (C5.out _ D6.out.both.s D6.out.both.o).mono ?_); rintro e x8 ⟨t3, rfl, hr, hb⟩; have D7 := Lib.hid (D6.out.on hb); have T7 := Lib.hid hr; clear hr hb))
                | (go_at_call 15; ((with_reducible refine (same_true _ _ _ _ T7.out D7.out.want).mono ?_); rintro e x9 ⟨rfl, hb⟩; have D8 := Lib.hid (D7.out.on hb); clear hb))
                | (go_at_call 18; ((with_reducible refine (C6.out _ D8.out.both.s D8.out.both.o).mono ?_); rintro e x10 ⟨rfl, hb⟩; have D9 := Lib.hid (D8.out.on hb); clear hb))
                | (go_at_call 5; ((with_reducible refine (HWK.out _).mono ?_); rintro e x11 ⟨rfl, hb⟩; have D10 := Lib.hid (D9.out.on hb); clear hb)))
              go_ret
              exact ⟨rfl, D10.out.both.below⟩
end Go.Proofs.Ytmopkcmgoibmeaa
