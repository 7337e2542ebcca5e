/- The statement's function of layer 7 (batch) on two lists: it returns true. Conditions: the lists lie in memory as their cells say; numbers' words of 64 bits; texts of a length that a machine holds. -/
import Derived.Test.YthmhkkhjcnihmaaBatJ
namespace Go.Proofs.Ythmhkkhjcnihmaa.Bat
open Go.RowKit Cmd
set_option linter.unusedVariables false

/-! ### Two lists conflict just if one writes a key that the other one has a command of that may be -/
def hit (xs ys : List Cmdn) (j : Nat) : Bool := right (layC.at xs j) && decide (0 < (places ys (layC.at xs j).2.1).length)
def acc (xs ys : List Cmdn) (k : Nat) : Bool := (List.range k).any (hit xs ys)
theorem acc_zero (xs ys : List Cmdn) : acc xs ys 0 = false := rfl
theorem acc_succ (xs ys : List Cmdn) (k : Nat) : acc xs ys (k + 1) = (acc xs ys k || hit xs ys k) := by
  unfold acc; rw [List.range_succ, List.any_append]; simp
theorem places_some {ys : List Cmdn} {s : Text} : 0 < (places ys s).length ↔ ∃ k, k < ys.length ∧ (layC.at ys k).2.1 = s ∧ wrt (layC.at ys k) = true := by
  unfold places plc
  rw [List.length_map, List.length_pos_iff_exists_mem]
  constructor
  · rintro ⟨k, hk⟩
    rw [List.mem_filter, Bool.and_eq_true, decide_eq_true_eq] at hk
    exact ⟨k, List.mem_range.1 hk.1, hk.2.1, hk.2.2⟩
  · rintro ⟨k, h1, h2, h3⟩
    exact ⟨k, by rw [List.mem_filter, Bool.and_eq_true, decide_eq_true_eq]; exact ⟨List.mem_range.2 h1, h2, h3⟩⟩
theorem acc_iff {xs ys : List Cmdn} : acc xs ys xs.length = true ↔ ∃ j, j < xs.length ∧ ∃ k, k < ys.length ∧ right (layC.at xs j) = true ∧ (layC.at ys k).2.1 = (layC.at xs j).2.1 ∧ wrt (layC.at ys k) = true := by
  unfold acc
  rw [List.any_eq_true]
  constructor
  · rintro ⟨j, hj, h⟩
    unfold hit at h
    rw [Bool.and_eq_true, decide_eq_true_eq, places_some] at h
    obtain ⟨h1, k, h2, h3, h4⟩ := h
    exact ⟨j, List.mem_range.1 hj, k, h2, h1, h3, h4⟩
  · rintro ⟨j, hj, k, hk, h1, h2, h3⟩
    refine ⟨j, List.mem_range.2 hj, ?_⟩
    unfold hit
    rw [Bool.and_eq_true, decide_eq_true_eq, places_some]
    exact ⟨h1, k, hk, h2, h3⟩
theorem conf_iff (x y : Cmdn) : conf x y = true ↔ right x = true ∧ right y = true ∧ x.2.1 = y.2.1 ∧ (x.1 ≠ 1 ∨ y.1 ≠ 1) := by
  unfold conf cConf right
  rw [Bool.and_eq_true, Bool.and_eq_true, Bool.and_eq_true, Bool.or_eq_true, decide_eq_true_eq, decide_eq_true_eq, decide_eq_true_eq, and_assoc, and_assoc]
theorem wrt_iff (x : Cmdn) : wrt x = true ↔ right x = true ∧ x.1 ≠ 1 := by
  unfold wrt cWrites right
  rw [Bool.and_eq_true, decide_eq_true_eq]
theorem bconf_iff {xs ys : List Cmdn} : bConf xs ys = true ↔ ∃ j, j < xs.length ∧ ∃ k, k < ys.length ∧ conf (layC.at xs j) (layC.at ys k) = true := by
  unfold bConf
  rw [List.any_eq_true]
  constructor
  · rintro ⟨x, hx, h⟩
    rw [List.any_eq_true] at h
    obtain ⟨y, hy, h⟩ := h
    obtain ⟨j, hj, rfl⟩ := (Lay.mem (L := layC)).1 hx
    obtain ⟨k, hk, rfl⟩ := (Lay.mem (L := layC)).1 hy
    exact ⟨j, hj, k, hk, h⟩
  · rintro ⟨j, hj, k, hk, h⟩
    exact ⟨_, layC.at_mem hj, List.any_eq_true.2 ⟨_, layC.at_mem hk, h⟩⟩
theorem bconf_sym (xs ys : List Cmdn) : bConf ys xs = bConf xs ys := by
  rw [Bool.eq_iff_iff, bconf_iff, bconf_iff]
  constructor
  · rintro ⟨j, hj, k, hk, h⟩
    refine ⟨k, hk, j, hj, ?_⟩
    rw [conf_iff] at h ⊢
    exact ⟨h.2.1, h.1, h.2.2.1.symm, h.2.2.2.symm⟩
  · rintro ⟨j, hj, k, hk, h⟩
    refine ⟨k, hk, j, hj, ?_⟩
    rw [conf_iff] at h ⊢
    exact ⟨h.2.1, h.1, h.2.2.1.symm, h.2.2.2.symm⟩
theorem acc_conf (xs ys : List Cmdn) : (acc xs ys xs.length || acc ys xs ys.length) = bConf xs ys := by
  rw [Bool.eq_iff_iff, Bool.or_eq_true, acc_iff, acc_iff, bconf_iff]
  constructor
  · rintro (⟨j, hj, k, hk, h1, h2, h3⟩ | ⟨k, hk, j, hj, h1, h2, h3⟩)
    · rw [wrt_iff] at h3
      exact ⟨j, hj, k, hk, (conf_iff _ _).2 ⟨h1, h3.1, h2.symm, .inr h3.2⟩⟩
    · rw [wrt_iff] at h3
      exact ⟨j, hj, k, hk, (conf_iff _ _).2 ⟨h3.1, h1, h2, .inl h3.2⟩⟩
  · rintro ⟨j, hj, k, hk, h⟩
    rw [conf_iff] at h
    obtain ⟨h1, h2, h3, h4 | h4⟩ := h
    · exact .inr ⟨k, hk, j, hj, h2, h3, (wrt_iff _).2 ⟨h1, h4⟩⟩
    · exact .inl ⟨j, hj, k, hk, h1, h3.symm, (wrt_iff _).2 ⟨h2, h4⟩⟩

/-- What the statement's call has: its two lists, seen from the elder world. -/
structure Pair2 (w : World) (v u : Value) (xs ys : List Cmdn) (W : World) : Prop where
  below : Below w.heap.size w W
  a : layC.Row W v xs
  b : layC.Row W u ys
theorem Pair2.on {w W W' : World} {v u : Value} {xs ys : List Cmdn} (h : Pair2 w v u xs ys W) (hb : Below W.heap.size W W') : Pair2 w v u xs ys W' := ⟨h.below.trans (hb.mono h.below.size), h.a.on hb, h.b.on hb⟩
/-- A row, its length told. -/
theorem gives_len {zs : List Int} {w : World} {e : Ending} {w' : World} (h : layI.Gives zs w e w') : ∃ p cap, e = .returned (.slice p zs.length cap) ∧ Below w.heap.size w w' := by
  obtain ⟨v, rfl, hr, hb⟩ := h
  obtain ⟨p, cap, rfl, -, -⟩ := hr.parts
  exact ⟨p, cap, rfl, hb⟩
def GivesLen (L : Nat) (w : World) (e : Ending) (w' : World) : Prop := ∃ p cap, e = .returned (.slice p L cap) ∧ Below w.heap.size w w'

set_option maxHeartbeats 16000000 in
set_option maxRecDepth 100000 in
theorem pairs_any (v u : Value) (xs ys : List Cmdn) (w : World) (h : layC.Row w v xs) (g : layC.Row w u ys) (hx : ∀ x ∈ xs, wfC x) (hy : ∀ x ∈ ys, wfC x) : Calls Try.prog 4 #[v, u] w (RetBelow (.bool true) w) := by
  obtain ⟨p, cap, rfl, h1, hd⟩ := h.parts
  obtain ⟨q, cap', rfl, g1, hd'⟩ := g.parts
  obtain ⟨n, hn⟩ : ∃ n, n = xs.length := ⟨_, rfl⟩
  obtain ⟨m, hm⟩ : ∃ m, m = ys.length := ⟨_, rfl⟩
  have HWK := Lib.hid works_any
  rw [← hn] at h1 hd h ⊢
  rw [← hm] at g1 hd' g ⊢
  by_cases hl : 50 < n
  · have h2 : 50 < (n : Int) := by omega
    clear hl h g hx hy hn hm hd hd'
    go_enter Try.func4, Try.ntmps4
    go_wp2_with (go_at_call 5; (with_reducible refine (HWK.out _).mono ?_); rintro e w4 ⟨rfl, hb⟩; have HB := Lib.hid hb; clear hb)
    go_ret
    exact ⟨rfl, HB.out⟩
  by_cases hl' : 50 < m
  · have h2 : ¬ 50 < (n : Int) := by omega
    have h3 : 50 < (m : Int) := by omega
    clear hl hl' h g hx hy hn hm hd hd'
    go_enter Try.func4, Try.ntmps4
    go_wp2_with (go_at_call 5; (with_reducible refine (HWK.out _).mono ?_); rintro e w4 ⟨rfl, hb⟩; have HB := Lib.hid hb; clear hb)
    go_ret
    exact ⟨rfl, HB.out⟩
  have h2 : ¬ 50 < (n : Int) := by omega
  have h3 : ¬ 50 < (m : Int) := by omega
  have hxl : xs.length ≤ 100000 := by omega
  have hyl : ys.length ≤ 100000 := by omega
  have P0 : Hid (Pair2 w (.slice p n cap) (.slice q m cap') xs ys w) := Lib.hid ⟨Below.refl _ _, h, g⟩
  have C1 : Hid (∀ W, Pair2 w (.slice p n cap) (.slice q m cap') xs ys W → Calls Try.prog 16 #[.slice p n cap, .slice q m cap'] W (RetBelow (.bool (bConf xs ys)) W)) := Lib.hid fun W h => refbconf_any _ _ xs ys W h.a h.b hx hy
  have C2 : Hid (∀ W, Pair2 w (.slice p n cap) (.slice q m cap') xs ys W → Calls Try.prog 18 #[.slice p n cap, .slice q m cap'] W (RetBelow (.bool (bConf xs ys)) W)) := Lib.hid fun W h => bconf_any _ _ xs ys W h.a h.b hx hy
  have C3 : Hid (∀ W, Pair2 w (.slice p n cap) (.slice q m cap') xs ys W → Calls Try.prog 18 #[.slice q m cap', .slice p n cap] W (RetBelow (.bool (bConf xs ys)) W)) := Lib.hid fun W h => by have := bconf_any _ _ ys xs W h.b h.a hy hx; rw [bconf_sym] at this; exact this
  have C4 : Hid (∀ W, Pair2 w (.slice p n cap) (.slice q m cap') xs ys W → Calls Try.prog 19 #[.slice p n cap, .slice q m cap'] W (RetBelow (.bool (bSame xs ys)) W)) := Lib.hid fun W h => bsame_any _ _ xs ys W h.a h.b
  have C5 : Hid (∀ W, Pair2 w (.slice p n cap) (.slice q m cap') xs ys W → Calls Try.prog 20 #[.slice p n cap, .slice q m cap'] W (RetBelow (.bool (bSame xs ys)) W)) := Lib.hid fun W h => refbsame_any _ _ xs ys W h.a h.b hx hy
  have W1 : Hid (∀ W s, Pair2 w (.slice p n cap) (.slice q m cap') xs ys W → Calls Try.prog 12 #[.slice q m cap', .string (str s)] W (GivesLen (places ys s).length W)) := Lib.hid fun W s h => (bwrites_any _ ys s W h.b hyl hy).mono fun e w' hg => gives_len hg
  have W2 : Hid (∀ W s, Pair2 w (.slice p n cap) (.slice q m cap') xs ys W → Calls Try.prog 12 #[.slice p n cap, .string (str s)] W (GivesLen (places xs s).length W)) := Lib.hid fun W s h => (bwrites_any _ xs s W h.a hxl hx).mono fun e w' hg => gives_len hg
  have HEND : Hid ((acc xs ys n || acc ys xs m) = bConf xs ys) := Lib.hid (by rw [hn, hm]; exact acc_conf xs ys)
  generalize bConf xs ys = r at C1 C2 C3 HEND
  generalize bSame xs ys = t at C4 C5
  have HN := Lib.hid hn
  have HM := Lib.hid hm
  have HX := Lib.hid hx
  have HY := Lib.hid hy
  have HD : Hid (∀ W, Pair2 w (.slice p n cap) (.slice q m cap') xs ys W → n = 0 ∨ ∃ B off, p = some ⟨B, off, none⟩ ∧ Hid (layC.In W B off xs)) := Lib.hid fun W h => by
    obtain ⟨p2, cap2, e, -, h5⟩ := h.a.parts
    simp only [Value.slice.injEq] at e
    obtain ⟨rfl, e2, -⟩ := e
    rw [e2]; exact h5
  have HD' : Hid (∀ W, Pair2 w (.slice p n cap) (.slice q m cap') xs ys W → m = 0 ∨ ∃ B off, q = some ⟨B, off, none⟩ ∧ Hid (layC.In W B off ys)) := Lib.hid fun W h => by
    obtain ⟨p2, cap2, e, -, h5⟩ := h.b.parts
    simp only [Value.slice.injEq] at e
    obtain ⟨rfl, e2, -⟩ := e
    rw [e2]; exact h5
  have er : ∀ w, (binOp .eql 4 (.bool r) (.bool r)).run Try.prog w = .ok (.bool true) w := fun w => by rw [run_eql_bool _ _ _ _ Try.underlying4]; simp
  have et : ∀ w, (binOp .eql 4 (.bool t) (.bool t)).run Try.prog w = .ok (.bool true) w := fun w => by rw [run_eql_bool _ _ _ _ Try.underlying4]; simp
  clear h g hx hy hn hm hl hl' hd hd' hxl hyl
  go_enter Try.func4, Try.ntmps4
  go_wp2_with (first
    | (go_at_call 16; (with_reducible refine (C1.out _ P0.out).mono ?_); rintro e w1 ⟨rfl, hb⟩; have P1 := Lib.hid (P0.out.on hb); clear hb))
  go_loopw [6, 7] (fun s i wr => ∃ k : Nat, k ≤ n ∧ i = .int .i64 k ∧ s = .bool (acc xs ys k) ∧ Hid (Pair2 w (.slice p n cap) (.slice q m cap') xs ys wr)) (fun _ i _ => n - (intOf i).toNat)
  case atStart => exact ⟨0, Nat.zero_le _, rfl, rfl, P1⟩
  case round =>
    obtain ⟨k, hk, rfl, rfl, hP⟩ := hrel
    by_cases hkn : k < n
    · have hS := acc_succ xs ys k
      have hkx : k < xs.length := by rw [← HN.out]; exact hkn
      obtain ⟨c, s, f, hx⟩ : ∃ c s f, layC.at xs k = (c, s, f) := ⟨_, _, _, rfl⟩
      have hH : hit xs ys k = (cRight c s f && decide (0 < (places ys s).length)) := by unfold hit; rw [hx]; rfl
      rw [hH] at hS
      have HS := Lib.hid hS
      have hwx := wf_at HX.out hkx hx
      have HR := Lib.hid (fun w => right_any c s f w hwx.1 (wf_len hwx))
      have HC := Lib.hid (fun W (h : Pair2 w (.slice p n cap) (.slice q m cap') xs ys W) B off (hi : layC.In W B off xs) => cellC hi hkx hx)
      have hw1 := Lib.hid (fun W h => W1.out W s h)
      have k0 : (0 : Int) ≤ k := by omega
      have kn : (k : Int) < n := by omega
      have hd := HD.out wr hP.out
      obtain ⟨B, off, hp, hi⟩ := hd.resolve_left (by omega)
      obtain ⟨c0, c1, c2⟩ := HC.out wr hP.out B off hi.out
      have HI := hi
      clear hS hH hx hwx hkx hd hi
      generalize acc xs ys k = z at HS
      cases z
      · generalize cRight c s f = y at HR HS
        cases y
        · have HQ : Hid (acc xs ys (k + 1) = false) := Lib.hid HS.out
          subst hp
          go_wp2_with (first
            | (go_at_call 17; (with_reducible refine (HR.out _).mono ?_); rintro e w2 ⟨rfl, hb⟩; have P2 := Lib.hid (hP.out.on hb); clear hb))
          go_roundw
          case rel => exact ⟨k + 1, by omega, by go_num, by rw [HQ.out], P2⟩
          case measure => simp [intOf]; omega
        · obtain ⟨L, hL⟩ : ∃ L, L = (places ys s).length := ⟨_, rfl⟩
          rw [← hL] at hw1 HS
          subst hp
          clear hL
          go_wp2_with (first
            | (go_at_call 17; (with_reducible refine (HR.out _).mono ?_); rintro e w2 ⟨rfl, hb⟩; have P2 := Lib.hid (hP.out.on hb); have q1 := (HC.out w2 P2.out _ _ (HI.out.on hb)).2.1; clear hb)
            | (go_at_call 12; (with_reducible refine (hw1.out _ P2.out).mono ?_); rintro e w3 ⟨a1, a2, rfl, hb⟩; have P3 := Lib.hid (P2.out.on hb); clear hb))
          go_roundw
          case rel => exact ⟨k + 1, by omega, by go_num, by rw [HS.out]; rfl, P3⟩
          case measure => simp [intOf]; omega
      · have HQ : Hid (acc xs ys (k + 1) = true) := Lib.hid HS.out
        subst hp
        go_wp2
        go_roundw
        case rel => exact ⟨k + 1, by omega, by go_num, by rw [HQ.out], hP⟩
        case measure => simp [intOf]; omega
    · have kn : ¬ (k : Int) < n := by omega
      obtain rfl : k = n := by omega
      obtain ⟨z0, hz0⟩ : ∃ z, acc xs ys k = z := ⟨_, rfl⟩
      rw [hz0] at HEND ⊢
      clear hz0
      obtain ⟨wq, hwq⟩ : ∃ wq, wq = wr := ⟨_, rfl⟩
      subst hwq
      go_wp2
      go_loopw [6, 8] (fun s i wr => ∃ l : Nat, l ≤ m ∧ i = .int .i64 l ∧ s = .bool (z0 || acc ys xs l) ∧ Hid (Pair2 w (.slice p k cap) (.slice q m cap') xs ys wr)) (fun _ i _ => m - (intOf i).toNat)
      case atStart => exact ⟨0, Nat.zero_le _, rfl, by rw [acc_zero, Bool.or_false], hP⟩
      case round =>
        obtain ⟨l, hl, rfl, rfl, hP⟩ := hrel
        by_cases hlm : l < m
        · have hS : (z0 || acc ys xs (l + 1)) = ((z0 || acc ys xs l) || hit ys xs l) := by rw [acc_succ, Bool.or_assoc]
          have hkx : l < ys.length := by rw [← HM.out]; exact hlm
          obtain ⟨c, s, f, hx⟩ : ∃ c s f, layC.at ys l = (c, s, f) := ⟨_, _, _, rfl⟩
          have hH : hit ys xs l = (cRight c s f && decide (0 < (places xs s).length)) := by unfold hit; rw [hx]; rfl
          rw [hH] at hS
          have HS := Lib.hid hS
          have hwx := wf_at HY.out hkx hx
          have HR := Lib.hid (fun w => right_any c s f w hwx.1 (wf_len hwx))
          have HC := Lib.hid (fun W (h : Pair2 w (.slice p k cap) (.slice q m cap') xs ys W) B off (hi : layC.In W B off ys) => cellC hi hkx hx)
          have hw1 := Lib.hid (fun W h => W2.out W s h)
          have k0 : (0 : Int) ≤ l := by omega
          have lm : (l : Int) < m := by omega
          have hd := HD'.out wr hP.out
          obtain ⟨B, off, hp, hi⟩ := hd.resolve_left (by omega)
          obtain ⟨c0, c1, c2⟩ := HC.out wr hP.out B off hi.out
          have HI := hi
          clear hS hH hx hwx hkx hd hi
          generalize (z0 || acc ys xs l) = z at HS
          cases z
          · generalize cRight c s f = y at HR HS
            cases y
            · have HQ : Hid ((z0 || acc ys xs (l + 1)) = false) := Lib.hid HS.out
              subst hp
              go_wp2_with (first
                | (go_at_call 17; (with_reducible refine (HR.out _).mono ?_); rintro e w2 ⟨rfl, hb⟩; have P2 := Lib.hid (hP.out.on hb); clear hb))
              go_roundw
              case rel => exact ⟨l + 1, by omega, by go_num, by rw [HQ.out], P2⟩
              case measure => simp [intOf]; omega
            · obtain ⟨L, hL⟩ : ∃ L, L = (places xs s).length := ⟨_, rfl⟩
              rw [← hL] at hw1 HS
              subst hp
              clear hL
              go_wp2_with (first
                | (go_at_call 17; (with_reducible refine (HR.out _).mono ?_); rintro e w2 ⟨rfl, hb⟩; have P2 := Lib.hid (hP.out.on hb); have q1 := (HC.out w2 P2.out _ _ (HI.out.on hb)).2.1; clear hb)
                | (go_at_call 12; (with_reducible refine (hw1.out _ P2.out).mono ?_); rintro e w3 ⟨a1, a2, rfl, hb⟩; have P3 := Lib.hid (P2.out.on hb); clear hb))
              go_roundw
              case rel => exact ⟨l + 1, by omega, by go_num, by rw [HS.out]; rfl, P3⟩
              case measure => simp [intOf]; omega
          · have HQ : Hid ((z0 || acc ys xs (l + 1)) = true) := Lib.hid HS.out
            subst hp
            go_wp2
            go_roundw
            case rel => exact ⟨l + 1, by omega, by go_num, by rw [HQ.out], hP⟩
            case measure => simp [intOf]; omega
        · have lm : ¬ (l : Int) < m := by omega
          obtain rfl : l = m := by omega
          rw [HEND.out]
          go_wp2_with (first
            | (go_at_call 18; (with_reducible refine (C2.out _ hP.out).mono ?_); rintro e w2 ⟨rfl, hb⟩; have P2 := Lib.hid (hP.out.on hb); clear hb)
            | (go_at_call 18; (with_reducible refine (C3.out _ P2.out).mono ?_); rintro e w3 ⟨rfl, hb⟩; have P3 := Lib.hid (P2.out.on hb); clear hb)
            | (go_at_call 19; (with_reducible refine (C4.out _ P3.out).mono ?_); rintro e w4 ⟨rfl, hb⟩; have P4 := Lib.hid (P3.out.on hb); clear hb)
            | (go_at_call 20; (with_reducible refine (C5.out _ P4.out).mono ?_); rintro e w5 ⟨rfl, hb⟩; have P5 := Lib.hid (P4.out.on hb); clear hb)
            | (go_at_call 5; (with_reducible refine (HWK.out _).mono ?_); rintro e w6 ⟨rfl, hb⟩; have P6 := Lib.hid (P5.out.on hb); clear hb))
          go_ret
          exact ⟨rfl, P6.out.below⟩
end Go.Proofs.Ythmhkkhjcnihmaa.Bat
