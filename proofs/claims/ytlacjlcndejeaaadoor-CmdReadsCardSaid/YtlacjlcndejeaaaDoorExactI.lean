/- What the document's Read (layer 2, exact) gives: of any text the number whose text it is, or that there is none. Condition: a text of at most 1000 bytes. -/
import Derived.Test.YtlacjlcndejeaaaDoorExactH
import Derived.Test.YtlacjlcndejeaaaDoorNan
namespace Go.Proofs.YtlacjlcndejeaaaDoor
open Go.RowKit F64 Go.Lib
set_option linter.unusedVariables false

structure RefRead (l : List UInt8) (z : Nat) (ok : Bool) : Prop where
  lt : z < 18446744073709551616
  is : (ok = true ∧ text z = l) ∨ (ok = false ∧ z = 0 ∧ ∀ b, b < 18446744073709551616 → text b ≠ l)
def GivesRef (l : List UInt8) (w : World) (e : Ending) (w' : World) : Prop := ∃ (z : Nat) (ok : Bool), e = .returned (.tuple #[.float .f64 z, .bool ok]) ∧ RefRead l z ok ∧ ∃ q, w' = w.drewN q
theorem RefRead.none {l : List UInt8} (h : ∀ b, b < 18446744073709551616 → text b ≠ l) : RefRead l 0 false := ⟨by omega, .inr ⟨rfl, rfl, h⟩⟩

/-- On the way from n to n times 2 to the power: if that is a number b's text, f is b times 2 to the power -e. -/
structure Way (l : List UInt8) (f : Nat) (e : Int) : Prop where
  nn : isNan f = false
  lt : f < 18446744073709551616
  on : ∀ b, b < 18446744073709551616 → rung b ≠ 0 → rung b < 9218868437227405312 → text b = l → rung f ≠ 0 ∧ rung f < 9218868437227405312 ∧ neg f = neg b ∧ val (rung b) * 2 ^ (-e).toNat = val (rung f) * 2 ^ e.toNat

theorem way_start {l : List UInt8} {n e : Int} (h : ∀ b, rung b ≠ 0 → rung b < 9218868437227405312 → text b = l → oddOf b = n ∧ powOf b = e) : Way l (floatOfInt .f64 n) e := by
  refine ⟨(ofint_some n).1, (ofint_some n).2, fun b hb hz hf ht => ?_⟩
  obtain ⟨h1, h2⟩ := h b hz hf ht
  have hs := odd_small hz
  obtain ⟨r0, hr0⟩ := val_rep (m := (oddOf b).natAbs) (by omega) (K 1074)
  have hv : val (rung b) = (oddOf b).natAbs * 2 ^ tw (val (rung b)) := by rw [hs.2.2.2.2.2]; exact (od_tw (val_ne hz)).1
  have h0 : 0 < r0 := by
    rcases Nat.eq_zero_or_pos r0 with e | e
    · subst e
      rw [val_zero] at hr0
      have := Nat.mul_pos (show 0 < (oddOf b).natAbs by omega) (two_pos (K 1074))
      omega
    · exact e
  have hi : r0 < 9218868437227405312 := val_lt_iff.1 (small_inf (by rewrite [hr0]; exact Nat.mul_lt_mul_of_pos_right (show (oddOf b).natAbs < 9007199254740992 by omega) (two_pos (K 1074))))
  have hw := ofint_eq (n := oddOf b) h0 hi hr0
  have hp := word_rung (n := decide (oddOf b < 0)) (r := r0) (by omega)
  have e1 : decide (oddOf b < 0) = neg b := by rw [Bool.eq_iff_iff, decide_eq_true_eq]; exact hs.2.2.2.1
  rw [← h1, ← h2, hw, hp.1, hp.2.1, hr0, hv]
  refine ⟨by omega, hi, e1, ?_⟩
  unfold powOf
  by_cases hc : 1074 ≤ tw (val (rung b))
  · rw [show (-((tw (val (rung b)) : Int) - 1074)).toNat = 0 by omega, show ((tw (val (rung b)) : Int) - 1074).toNat = tw (val (rung b)) - 1074 by omega, Nat.pow_zero, Nat.mul_one, Nat.mul_assoc, ← Nat.pow_add]
    rw [show K 1074 + (tw (val (rung b)) - 1074) = tw (val (rung b)) by rw [K_eq]; omega]
  · rw [show (-((tw (val (rung b)) : Int) - 1074)).toNat = 1074 - tw (val (rung b)) by omega, show ((tw (val (rung b)) : Int) - 1074).toNat = 0 by omega, Nat.pow_zero, Nat.mul_one, Nat.mul_assoc, ← Nat.pow_add]
    rw [show tw (val (rung b)) + (1074 - tw (val (rung b))) = K 1074 by rw [K_eq]; omega]

theorem rep_twice (r : Nat) : ∃ s, val s = 2 * val r := by
  obtain ⟨s, hs⟩ := val_rep (m := mag r) (by unfold mag; split <;> omega) (plc r + 1)
  exact ⟨s, by rw [hs]; unfold val; rw [Nat.pow_succ, ← Nat.mul_assoc, Nat.mul_comm 2]⟩
theorem rep_shift (r k : Nat) : ∃ s, val s = val r * 2 ^ k := by
  obtain ⟨s, hs⟩ := val_rep (m := mag r) (by unfold mag; split <;> omega) (plc r + k)
  exact ⟨s, by rw [hs]; unfold val; rw [Nat.pow_add, ← Nat.mul_assoc]⟩

theorem way_up {l : List UInt8} {f : Nat} {e : Int} (W : Way l f e) (he : 0 < e) : ∃ f', floatBits .mul .f64 4611686018427387904 f = some f' ∧ Way l f' (e - 1) := by
  obtain ⟨x, hx, hn, hl⟩ := dbl_some W.nn
  refine ⟨x, hx, hn, hl, fun b hb hz hf ht => ?_⟩
  obtain ⟨h1, h2, h3, h4⟩ := W.on b hb hz hf ht
  rw [show (-e).toNat = 0 by omega, show e.toNat = (e - 1).toNat + 1 by omega, Nat.pow_zero, Nat.mul_one, Nat.pow_succ] at h4
  obtain ⟨s, hs⟩ := rep_twice (rung f)
  have hv := val_ne h1
  have h5 : val (rung b) = val s * 2 ^ (e - 1).toNat := by rw [hs, h4, Nat.mul_comm 2, Nat.mul_assoc, Nat.mul_comm 2]
  have hs0 : 0 < s := by
    rcases Nat.eq_zero_or_pos s with e0 | e0
    · subst e0; rw [val_zero] at hs; omega
    · exact e0
  have hle : val s ≤ val (rung b) := by
    rw [h5]
    exact Nat.le_mul_of_pos_right _ (two_pos _)
  have hsi : s < 9218868437227405312 := Nat.lt_of_le_of_lt (val_le_iff.1 hle) hf
  have hq := dbl_exact h2 hs0 hsi hs
  rw [hx] at hq
  injection hq with hq
  have hp := word_rung (n := neg f) (r := s) (by omega)
  rw [hq, hp.1, hp.2.1]
  exact ⟨by omega, hsi, h3, by rw [show (-(e - 1)).toNat = 0 by omega, Nat.pow_zero, Nat.mul_one]; exact h5⟩
theorem way_down {l : List UInt8} {f : Nat} {e : Int} (W : Way l f e) (he : e < 0) : ∃ f', floatBits .quo .f64 f 4611686018427387904 = some f' ∧ Way l f' (e + 1) := by
  obtain ⟨x, hx, hn, hl⟩ := half_some W.nn W.lt
  refine ⟨x, hx, hn, hl, fun b hb hz hf ht => ?_⟩
  obtain ⟨h1, h2, h3, h4⟩ := W.on b hb hz hf ht
  rw [show e.toNat = 0 by omega, show (-e).toNat = (-(e + 1)).toNat + 1 by omega, Nat.pow_zero, Nat.mul_one, Nat.pow_succ, ← Nat.mul_assoc] at h4
  obtain ⟨s, hs⟩ := rep_shift (rung b) (-(e + 1)).toNat
  rw [← hs] at h4
  have hv := val_ne hz
  have hs1 : val s ≠ 0 := by rw [hs]; exact Nat.pos_iff_ne_zero.1 (Nat.mul_pos (by omega) (two_pos _))
  have hs0 : 0 < s := by
    rcases Nat.eq_zero_or_pos s with e0 | e0
    · subst e0; exact absurd val_zero hs1
    · exact e0
  have hle : val s ≤ val (rung f) := by omega
  have hsi : s < 9218868437227405312 := Nat.lt_of_le_of_lt (val_le_iff.1 hle) h2
  have hq := half_exact h2 hs0 hsi (by omega)
  rw [hx] at hq
  injection hq with hq
  have hp := word_rung (n := neg f) (r := s) (by omega)
  rw [hq, hp.1, hp.2.1]
  exact ⟨by omega, hsi, h3, by rw [show (e + 1).toNat = 0 by omega, Nat.pow_zero, Nat.mul_one]; exact hs.symm⟩
theorem way_end {l : List UInt8} {f : Nat} (W : Way l f 0) (hfive : ∀ b, text b = l → rung b ≠ 0 ∧ rung b < 9218868437227405312) (ht : text f ≠ l) : ∀ b, b < 18446744073709551616 → text b ≠ l := by
  intro b hb h
  obtain ⟨hz, hf⟩ := hfive b h
  obtain ⟨h1, h2, h3, h4⟩ := W.on b hb hz hf h
  simp only [Int.neg_zero, Int.toNat_zero, Nat.pow_zero, Nat.mul_one] at h4
  have : f = b := word_eq W.lt hb h3 (val_inj h4).symm
  rw [this] at ht
  exact ht h

def RelW (l : List UInt8) (x i : Value) : Prop := ∃ (f : Nat) (e : Int), x = .float .f64 f ∧ i = .int .i64 e ∧ -1074 ≤ e ∧ e ≤ 1023 ∧ Way l f e
def RelD (l : List UInt8) (x i : Value) : Prop := ∃ (f : Nat) (e : Int), x = .float .f64 f ∧ i = .int .i64 e ∧ -1074 ≤ e ∧ e ≤ 0 ∧ Way l f e

/-- Where the first p stands. -/
theorem text_cut {b : Nat} {l : List UInt8} {k : Nat} (hz : rung b ≠ 0) (hf : rung b < 9218868437227405312) (ht : text b = l) (hk : k < l.length) (hp : l[k] = 112) (hn : ∀ j, (h : j < l.length) → j < k → l[j].toNat ≠ 112) : l.take k = itoa (oddOf b) ∧ l.drop (k + 1) = itoa (powOf b) := by
  have e : l = l.take k ++ 112 :: l.drop (k + 1) := by
    rw [← hp, ← List.drop_eq_getElem_cons hk, List.take_append_drop]
  have h1 := Dec.cut_p (l.take k) (l.drop (k + 1)) (by
    intro c hc
    obtain ⟨j, hj, rfl⟩ := List.getElem_of_mem hc
    rw [List.getElem_take]
    rw [List.length_take] at hj
    exact hn j (by omega) (by omega))
  rw [← e] at h1
  have h2 := Dec.cut_p (itoa (oddOf b)) (itoa (powOf b)) (Dec.itoa_no_p _)
  rw [← text_num hz hf, ht, h1] at h2
  injection h2 with h3 h4
  injection h4 with h4 _
  exact ⟨h3, h4⟩
theorem text_has_p {b : Nat} {l : List UInt8} (hz : rung b ≠ 0) (hf : rung b < 9218868437227405312) (ht : text b = l) (hn : ∀ j, (h : j < l.length) → l[j].toNat ≠ 112) : False := by
  have hm : (112 : UInt8) ∈ l := by rw [← ht, text_num hz hf]; simp
  obtain ⟨j, hj, e⟩ := List.getElem_of_mem hm
  exact hn j hj (by rw [e]; rfl)

def RelP (l : List UInt8) (i : Value) : Prop := ∃ k : Nat, k ≤ l.length ∧ i = .int .i64 k ∧ ∀ j, (h : j < l.length) → j < k → l[j].toNat ≠ 112

theorem five_of {l : List UInt8} (h1 : l ≠ [110, 97, 110]) (h2 : l ≠ [45, 105, 110, 102]) (h3 : l ≠ [45, 48]) (h4 : l ≠ [48]) (h5 : l ≠ [105, 110, 102]) : ∀ b, text b = l → rung b ≠ 0 ∧ rung b < 9218868437227405312 := by
  intro b h
  by_cases hs : isNan b = true ∨ rung b = 9218868437227405312 ∨ rung b = 0
  · exfalso
    have := text_five b hs
    rw [h] at this
    rcases this with e | e | e | e | e
    · exact h1 e
    · exact h2 e
    · exact h5 e
    · exact h3 e
    · exact h4 e
  · have hn : isNan b = false := by simpa using fun e => hs (.inl e)
    have := not_nan hn
    omega

set_option maxHeartbeats 2000000 in
theorem refr_five (l : List UInt8) (w : World) (h : l = [110, 97, 110] ∨ l = [45, 105, 110, 102] ∨ l = [45, 48] ∨ l = [48] ∨ l = [105, 110, 102]) : Calls Tryd.prog 27 #[.string (str l)] w (GivesRef l w) := by
  have d0 : ∀ w, (binOp .quo 22 (.float .f64 0) (.float .f64 0)).run Tryd.prog w = .ok (.float .f64 (nb 0 0 w)) w.drew := fun w => run_nan .quo _ _ _ w (.inr (.inr (.inr rfl))) (by decide)
  have d1 : ∀ w, (binOp .quo 22 (.float .f64 4607182418800017408) (.float .f64 0)).run Tryd.prog w = .ok (.float .f64 9218868437227405312) w := fun w => run_float_arith w .quo _ .f64 _ _ _ (by decide)
  have d2 : ∀ w, (binOp .quo 22 (.float .f64 13830554455654793216) (.float .f64 0)).run Tryd.prog w = .ok (.float .f64 18442240474082181120) w := fun w => run_float_arith w .quo _ .f64 _ _ _ (by decide)
  have d3 : ∀ w, (binOp .quo 22 (.float .f64 4607182418800017408) (.float .f64 18442240474082181120)).run Tryd.prog w = .ok (.float .f64 9223372036854775808) w := fun w => run_float_arith w .quo _ .f64 _ _ _ (by decide)
  have HN := Lib.hid (nb_nan 0 0 w)
  have s1 : ∀ l : List UInt8, (str l).toList = l := fun l => by rw [str, ByteArray.toList_mk]
  rcases h with rfl | rfl | rfl | rfl | rfl
  all_goals
    have e1 := s1 [110, 97, 110]
    have e2 := s1 [45, 105, 110, 102]
    have e3 := s1 [45, 48]
    have e4 := s1 [48]
    have e5 := s1 [105, 110, 102]
    clear s1
    go_enter Tryd.func27, Tryd.ntmps27
    go_wp2_with fail
    go_ret2
    first
      | exact ⟨_, _, rfl, ⟨by omega, .inl ⟨rfl, by decide⟩⟩, 0, rfl⟩
      | exact ⟨_, _, rfl, ⟨HN.out.2, .inl ⟨rfl, by unfold text; rw [if_pos HN.out.1]⟩⟩, 1, rfl⟩

structure Parts (l : List UInt8) (n1 : Int) (ok1 : Bool) (n2 : Int) (ok2 : Bool) : Prop where
  lo : -10000000000000000 < n1
  hi : n1 < 10000000000000000
  lo2 : -10000000000000000 < n2
  hi2 : n2 < 10000000000000000
  on : ∀ b, rung b ≠ 0 → rung b < 9218868437227405312 → text b = l → oddOf b = n1 ∧ ok1 = true ∧ powOf b = n2 ∧ ok2 = true
theorem parts_of {l : List UInt8} {k : Nat} {n1 n2 : Int} {ok1 ok2 : Bool} (h1 : NumIs (l.take k) n1 ok1) (h2 : NumIs (l.drop (k + 1)) n2 ok2) (hk : k < l.length) (hp : l[k] = 112) (hn : ∀ j, (h : j < l.length) → j < k → l[j].toNat ≠ 112) : Parts l n1 ok1 n2 ok2 := by
  refine ⟨h1.lo, h1.hi, h2.lo, h2.hi, fun b hz hf ht => ?_⟩
  obtain ⟨e1, e2⟩ := text_cut hz hf ht hk hp hn
  have hs := odd_small hz
  have hq := pow_small hz hf
  have a := h1.hit (oddOf b) (by omega) (by omega) e1
  have c := h2.hit (powOf b) (by omega) (by omega) e2
  exact ⟨a.1.symm, a.2, c.1.symm, c.2⟩
theorem odd_tmod {b : Nat} (hz : rung b ≠ 0) : (oddOf b).tmod 2 ≠ 0 := by
  have hs := odd_small hz
  intro e
  rcases Int.le_total 0 (oddOf b) with h | h
  · rw [Int.tmod_eq_emod_of_nonneg h] at e
    exact hs.2.2.2.2.1 e
  · have : (-(oddOf b)).tmod 2 = 0 := by rw [Int.neg_tmod, e]; rfl
    rw [Int.tmod_eq_emod_of_nonneg (by omega)] at this
    omega
/-- Parts that are out of bounds are no number's. -/
theorem parts_bad {l : List UInt8} {n1 n2 : Int} {ok1 ok2 : Bool} (P : Parts l n1 ok1 n2 ok2) (hfive : ∀ b, text b = l → rung b ≠ 0 ∧ rung b < 9218868437227405312) (h : ok1 = false ∨ ok2 = false ∨ n1.tmod 2 = 0 ∨ n2 < -1074 ∨ 1023 < n2 ∨ 9007199254740992 < n1 ∨ n1 < -9007199254740992) : RefRead l 0 false := by
  refine RefRead.none fun b hb ht => ?_
  obtain ⟨hz, hf⟩ := hfive b ht
  obtain ⟨e1, e2, e3, e4⟩ := P.on b hz hf ht
  have hs := odd_small hz
  have hq := pow_small hz hf
  have hm := odd_tmod hz
  rw [e1] at hm hs
  rw [e3] at hq
  rcases h with h | h | h | h | h | h | h
  · rw [e2] at h; cases h
  · rw [e4] at h; cases h
  · exact hm h
  all_goals omega

set_option maxHeartbeats 4000000 in
theorem refr_gen (l : List UInt8) (w : World) (h1 : l ≠ [110, 97, 110]) (h2 : l ≠ [45, 105, 110, 102]) (h3 : l ≠ [45, 48]) (h4 : l ≠ [48]) (h5 : l ≠ [105, 110, 102]) (hl : (l.length : Int) ≤ 1000) : Calls Tryd.prog 27 #[.string (str l)] w (GivesRef l w) := by
  have HV := Lib.hid (five_of h1 h2 h3 h4 h5)
  have e1 : ((str l).toList == [110, 97, 110]) = false := by rw [str, ByteArray.toList_mk]; exact beq_ne h1
  have e2 : ((str l).toList == [45, 105, 110, 102]) = false := by rw [str, ByteArray.toList_mk]; exact beq_ne h2
  have e3 : ((str l).toList == [45, 48]) = false := by rw [str, ByteArray.toList_mk]; exact beq_ne h3
  have e4 : ((str l).toList == [48]) = false := by rw [str, ByteArray.toList_mk]; exact beq_ne h4
  have e5 : ((str l).toList == [105, 110, 102]) = false := by rw [str, ByteArray.toList_mk]; exact beq_ne h5
  obtain ⟨L, hL⟩ : ∃ L : Int, L = (l.length : Nat) := ⟨_, rfl⟩
  have hsz : (((str l).size : Nat) : Int) = L := by rw [str_size, hL]
  have hL0 : 0 ≤ L := by omega
  have hL1 : L ≤ 1000 := by omega
  have HL := Lib.hid hL
  clear h1 h2 h3 h4 h5 hl hL
  go_enter Tryd.func27, Tryd.ntmps27
  go_wp2_with fail
  clear e1 e2 e3 e4 e5
  go_loop [5] (fun i => RelP l i) (fun i => l.length - (RowKit.intOf i).toNat)
  case atStart => exact ⟨0, by omega, rfl, fun j _ h => by omega⟩
  case round =>
    obtain ⟨k, hk, rfl, hn⟩ := hrel
    have HN := Lib.hid hn
    have hl := HL.out
    clear hn
    by_cases hlt : k < l.length
    · have hx := idx_run l k hlt
      have hkL : (k : Int) < L := by omega
      obtain ⟨x, hxx⟩ : ∃ x : Int, x = ((l[k]).toNat : Nat) := ⟨_, rfl⟩
      rw [← hxx] at hx
      by_cases hp : l[k] = 112
      · have ht := fun w => to_run l k hk w
        have hfr : ∀ w, (Instr.slice 9 (.string (str l)) (some (.int .i64 ((k : Int) + 1))) none none).run Tryd.prog w = .ok (.string (str (l.drop (k + 1)))) w := fun w => from_run l (k + 1) hlt w
        have N1 : Hid (∀ w, Calls Tryd.prog 42 #[.string (str (l.take k))] w (GivesNum (l.take k) w)) := Lib.hid fun w => num_any _ w (by rw [List.length_take]; omega)
        have N2 : Hid (∀ w, Calls Tryd.prog 42 #[.string (str (l.drop (k + 1)))] w (GivesNum (l.drop (k + 1)) w)) := Lib.hid fun w => num_any _ w (by rw [List.length_drop]; omega)
        have HPt : Hid (∀ n1 ok1 n2 ok2, NumIs (l.take k) n1 ok1 → NumIs (l.drop (k + 1)) n2 ok2 → Parts l n1 ok1 n2 ok2) := Lib.hid fun n1 ok1 n2 ok2 a b => parts_of a b hlt hp HN.out
        have ex : (x == 112) = true := by rw [beq_iff_eq, hxx, hp]; rfl
        have ekL : ((k : Int) == L) = false := by rw [beq_eq_false_iff_ne]; omega
        clear hp hxx hl hlt hk
        go_wp2_with (first
          | (go_at_call 42; ((with_reducible refine (N1.out _).mono ?_); rintro e w1 ⟨n1, ok1, rfl, hN1, rfl⟩; have HN1 := Lib.hid hN1; clear hN1))
          | (go_at_call 42; ((with_reducible refine (N2.out _).mono ?_); rintro e w2 ⟨n2, ok2, rfl, hN2, rfl⟩; have HN2 := Lib.hid hN2; clear hN2; refine Hid.out ?_)))
        have HQ := Lib.hid (HPt.out n1 ok1 n2 ok2 HN1.out HN2.out)
        clear HPt HN1 HN2 N1 N2 ht hfr hx ex ekL hkL HN
        cases ok1
        · have HB := Lib.hid (parts_bad HQ.out HV.out (.inl rfl))
          refine Lib.hid ?_
          go_wp2_with fail
          all_goals
            go_ret2
            exact ⟨_, _, rfl, HB.out, 0, rfl⟩
        cases ok2
        · have HB := Lib.hid (parts_bad HQ.out HV.out (.inr (.inl rfl)))
          refine Lib.hid ?_
          go_wp2_with fail
          all_goals
            go_ret2
            exact ⟨_, _, rfl, HB.out, 0, rfl⟩
        by_cases hm : n1.tmod 2 = 0
        · have HB := Lib.hid (parts_bad HQ.out HV.out (.inr (.inr (.inl hm))))
          refine Lib.hid ?_
          go_wp2_with fail
          all_goals
            go_ret2
            exact ⟨_, _, rfl, HB.out, 0, rfl⟩
        have em : (n1.tmod 2 == 0) = false := by rw [beq_eq_false_iff_ne]; exact hm
        clear hm
        by_cases c1 : n2 < -1074
        · have HB := Lib.hid (parts_bad HQ.out HV.out (.inr (.inr (.inr (.inl c1)))))
          refine Lib.hid ?_
          go_wp2_with fail
          all_goals
            go_ret2
            exact ⟨_, _, rfl, HB.out, 0, rfl⟩
        have d1 : -1074 ≤ n2 := by omega
        clear c1
        by_cases c2 : 1023 < n2
        · have HB := Lib.hid (parts_bad HQ.out HV.out (.inr (.inr (.inr (.inr (.inl c2))))))
          refine Lib.hid ?_
          go_wp2_with fail
          all_goals
            go_ret2
            exact ⟨_, _, rfl, HB.out, 0, rfl⟩
        have d2 : n2 ≤ 1023 := by omega
        clear c2
        by_cases c3 : 9007199254740992 < n1
        · have HB := Lib.hid (parts_bad HQ.out HV.out (.inr (.inr (.inr (.inr (.inr (.inl c3)))))))
          refine Lib.hid ?_
          go_wp2_with fail
          all_goals
            go_ret2
            exact ⟨_, _, rfl, HB.out, 0, rfl⟩
        have d3 : n1 ≤ 9007199254740992 := by omega
        clear c3
        by_cases c4 : n1 < -9007199254740992
        · have HB := Lib.hid (parts_bad HQ.out HV.out (.inr (.inr (.inr (.inr (.inr (.inr c4)))))))
          refine Lib.hid ?_
          go_wp2_with fail
          all_goals
            go_ret2
            exact ⟨_, _, rfl, HB.out, 0, rfl⟩
        have d4 : -9007199254740992 ≤ n1 := by omega
        clear c4
        have HW : Hid (RelW l (.float .f64 (floatOfInt .f64 n1)) (.int .i64 n2)) := Lib.hid ⟨_, _, rfl, rfl, d1, d2, way_start fun b hz hf ht => ⟨(HQ.out.on b hz hf ht).1, (HQ.out.on b hz hf ht).2.2.1⟩⟩
        refine Lib.hid ?_
        go_wp2_with fail
        clear d1 d2 d3 d4 em
        go_loop [8, 10] (fun i x => RelW l x i) (fun i _ => (RowKit.intOf i).toNat)
        case atStart => exact HW.out
        case round =>
          obtain ⟨f, e, rfl, rfl, b1, b2, W⟩ := hrel
          by_cases he : 0 < e
          · obtain ⟨f', hq, W'⟩ := way_up W he
            have hm : ∀ w, (binOp .mul 22 (.float .f64 4611686018427387904) (.float .f64 f)).run Tryd.prog w = .ok (.float .f64 f') w := fun w => run_float_arith w .mul _ .f64 _ _ _ hq
            have HR : Hid (RelW l (.float .f64 f') (.int .i64 (e - 1))) := Lib.hid ⟨f', e - 1, rfl, rfl, by omega, by omega, W'⟩
            clear W W' hq
            go_wp2_with fail
            go_round
            case rel => exact HR.out
            case measure => simp [RowKit.intOf]; omega
          · have HR : Hid (RelD l (.float .f64 f) (.int .i64 e)) := Lib.hid ⟨f, e, rfl, rfl, by omega, by omega, W⟩
            clear W
            go_wp2_with fail
            clear b1 b2 he
            go_loop [8, 10] (fun i x => RelD l x i) (fun i _ => (-(RowKit.intOf i)).toNat)
            case atStart => exact HR.out
            case round =>
              obtain ⟨f, e, rfl, rfl, b1, b2, W⟩ := hrel
              by_cases he : e < 0
              · obtain ⟨f', hq, W'⟩ := way_down W he
                have hm : ∀ w, (binOp .quo 22 (.float .f64 f) (.float .f64 4611686018427387904)).run Tryd.prog w = .ok (.float .f64 f') w := fun w => run_float_arith w .quo _ .f64 _ _ _ hq
                have HR : Hid (RelD l (.float .f64 f') (.int .i64 (e + 1))) := Lib.hid ⟨f', e + 1, rfl, rfl, by omega, by omega, W'⟩
                clear W W' hq
                go_wp2_with fail
                go_round
                case rel => exact HR.out
                case measure => simp [RowKit.intOf]; omega
              · obtain rfl : e = 0 := by omega
                have HT : Hid (∀ w, Calls Tryd.prog 24 #[.float .f64 f] w (DrewStr (text f) w)) := Lib.hid fun w => reft_any f w W.lt
                have hs : ∀ a b : List UInt8, ((str a).toList == (str b).toList) = (a == b) := fun a b => by rw [str, str, ByteArray.toList_mk, ByteArray.toList_mk]
                by_cases ht : text f = l
                · have hq : ((str (text f)).toList == (str l).toList) = true := by rw [hs, ht]; exact beq_self_eq_true _
                  have HB : Hid (RefRead l f true) := Lib.hid ⟨W.lt, .inl ⟨rfl, ht⟩⟩
                  clear W b1 b2 he hs ht
                  go_wp2_with (go_at_call 24; ((with_reducible refine (HT.out _).mono ?_); rintro e w1 ⟨rfl, hw1⟩; have HW1 := Lib.hid hw1; clear hw1))
                  go_ret2
                  exact ⟨_, _, rfl, HB.out, HW1.out⟩
                · have hq : ((str (text f)).toList == (str l).toList) = false := by rw [hs]; exact beq_ne ht
                  have HB : Hid (RefRead l 0 false) := Lib.hid (RefRead.none (way_end W HV.out ht))
                  clear W b1 b2 he hs ht
                  go_wp2_with (go_at_call 24; ((with_reducible refine (HT.out _).mono ?_); rintro e w1 ⟨rfl, hw1⟩; have HW1 := Lib.hid hw1; clear hw1))
                  go_ret2
                  exact ⟨_, _, rfl, HB.out, HW1.out⟩
      · have ex : (x == 112) = false := by
          rw [beq_eq_false_iff_ne]
          intro e
          exact hp (UInt8.toNat_inj.1 (by show l[k].toNat = 112; omega))
        have HR : Hid (RelP l (.int .i64 ((k : Int) + 1))) := by
          refine Lib.hid ⟨k + 1, hlt, by rw [Int.natCast_succ], fun j hj hjk => ?_⟩
          by_cases e : j = k
          · subst e
            intro e2
            exact hp (UInt8.toNat_inj.1 e2)
          · exact HN.out j hj (by omega)
        clear hp hxx hl hk
        go_wp2_with fail
        go_round
        case rel => exact HR.out
        case measure => simp [RowKit.intOf]; omega
    · have hkL : L ≤ (k : Int) := by omega
      have ekL : ((k : Int) == L) = true := by rw [beq_iff_eq]; omega
      have HB : Hid (RefRead l 0 false) := Lib.hid (RefRead.none fun b hb ht => text_has_p (HV.out b ht).1 (HV.out b ht).2 ht fun j hj => HN.out j hj (by omega))
      clear hl hk hlt
      go_wp2_with fail
      go_ret2
      exact ⟨_, _, rfl, HB.out, 0, rfl⟩

theorem refr_any (l : List UInt8) (w : World) (hl : (l.length : Int) ≤ 1000) : Calls Tryd.prog 27 #[.string (str l)] w (GivesRef l w) := by
  by_cases h : l = [110, 97, 110] ∨ l = [45, 105, 110, 102] ∨ l = [45, 48] ∨ l = [48] ∨ l = [105, 110, 102]
  · exact refr_five l w h
  · simp only [not_or] at h
    exact refr_gen l w h.1 h.2.1 h.2.2.1 h.2.2.2.1 h.2.2.2.2 hl
end Go.Proofs.YtlacjlcndejeaaaDoor
