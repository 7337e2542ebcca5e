/- What the document's Read (layer 2, exact) gives: of any text the number whose text it is, or that there is none. Condition: a text of at most 1000 bytes. -/
import Derived.Test.YtlacjlcndejeaaaDoorExactG
import Derived.Test.YtlacjlcndejeaaaDoorExactE
import Derived.Deep.DeepFit
namespace Go.Proofs.YtlacjlcndejeaaaDoor
open Go.RowKit F64 Go.Lib
set_option linter.unusedVariables false

/-- What number gives: some number of at most 16 digits; the one whose digits these are, if there is one. -/
structure NumIs (l : List UInt8) (n : Int) (ok : Bool) : Prop where
  lo : -10000000000000000 < n
  hi : n < 10000000000000000
  hit : ∀ k : Int, -10000000000000000 < k → k < 10000000000000000 → l = itoa k → n = k ∧ ok = true
def GivesNum (l : List UInt8) (w : World) (e : Ending) (w' : World) : Prop := ∃ (n : Int) (ok : Bool), e = .returned (.tuple #[.int .i64 n, .bool ok]) ∧ NumIs l n ok ∧ w = w'

theorem num_neg {r : List UInt8} {n : Int} {ok : Bool} (h : NumIs r n ok) : NumIs (45 :: r) (-n) (ok && decide (0 < n)) := by
  refine ⟨by have := h.hi; omega, by have := h.lo; omega, fun k h1 h2 e => ?_⟩
  by_cases hk : k < 0
  · rw [Dec.itoa_head_neg hk] at e
    injection e with _ e
    have := h.hit (-k) (by omega) (by omega) e
    refine ⟨by omega, ?_⟩
    rw [this.2, this.1]; simp; omega
  · exfalso
    obtain ⟨c, r', e2, h3⟩ := itoa_first k
    rw [e2] at e
    injection e with e3 _
    rw [← e3] at h3
    obtain ⟨u, hu⟩ : ∃ u : Nat, k = u := ⟨k.toNat, by omega⟩
    rw [hu, itoa_nonneg] at e2
    obtain ⟨c', r'', e4, _, _, h5⟩ := Dec.dd_head u
    rw [e4] at e2
    injection e2 with e5 _
    rw [e5, ← e3] at h5
    have : (45 : UInt8).toNat = 45 := rfl
    omega
/-- A list that is no numeral of a number that is not negative. -/
theorem num_none {l : List UInt8} (h : ∀ u : Nat, u < 10000000000000000 → l ≠ decDigits u) (hm : l.head? ≠ some 45) : NumIs l 0 false := by
  refine ⟨by omega, by omega, fun k h1 h2 e => ?_⟩
  exfalso
  by_cases hk : k < 0
  · rw [Dec.itoa_head_neg hk] at e
    rw [e] at hm
    exact hm rfl
  · obtain ⟨u, hu⟩ : ∃ u : Nat, k = u := ⟨k.toNat, by omega⟩
    rw [hu, itoa_nonneg] at e
    exact h u (by omega) e
theorem num_some {l : List UInt8} {n : Nat} (hn : n = Dec.spell 0 l) (hb : n < 10000000000000000) (hm : l.head? ≠ some 45) : NumIs l n true := by
  refine ⟨by omega, by omega, fun k h1 h2 e => ?_⟩
  by_cases hk : k < 0
  · exfalso
    rw [Dec.itoa_head_neg hk] at e
    rw [e] at hm
    exact hm rfl
  · obtain ⟨u, hu⟩ : ∃ u : Nat, k = u := ⟨k.toNat, by omega⟩
    rw [hu, itoa_nonneg] at e
    rw [e, Dec.spell_dd] at hn
    exact ⟨by omega, rfl⟩

def isDig (c : UInt8) : Prop := 48 ≤ c.toNat ∧ c.toNat ≤ 57
theorem spell_step (l : List UInt8) (k : Nat) (hk : k < l.length) (hd : isDig l[k]) (hb : Dec.spell 0 (l.take k) < 10 ^ k) : Dec.spell 0 (l.take (k + 1)) = 10 * Dec.spell 0 (l.take k) + (l[k].toNat - 48) ∧ Dec.spell 0 (l.take (k + 1)) < 10 ^ (k + 1) := by
  have e : l.take (k + 1) = l.take k ++ [l[k]] := by rw [List.take_succ_eq_append_getElem hk]
  rw [e, Dec.spell_snoc]
  refine ⟨rfl, ?_⟩
  rw [Nat.pow_succ]
  unfold isDig at hd
  omega
def RelN (l : List UInt8) (n i : Value) : Prop := ∃ k : Nat, k ≤ l.length ∧ i = .int .i64 k ∧ n = .int .i64 (Dec.spell 0 (l.take k) : Nat) ∧ Dec.spell 0 (l.take k) < 10 ^ k

theorem dd_len16 {u : Nat} (h : u < 10000000000000000) : (decDigits u).length ≤ 16 := by
  rw [decDigits_length]
  exact Dec.nd_le (k := 16) (by omega) (by rw [show (10 : Nat) ^ 16 = 10000000000000000 by decide]; exact h)

set_option maxHeartbeats 2000000 in
theorem num_plain (l : List UInt8) (w : World) (hm : l.head? ≠ some 45) (hl : (l.length : Int) ≤ 1000) : Calls Tryd.prog 42 #[.string (str l)] w (GivesNum l w) := by
  cases l with
  | nil =>
    have HN := Lib.hid (num_none (l := []) (fun u _ e => Dec.dd_ne u e.symm) hm)
    have hsz : (str []).size = 0 := rfl
    clear hm hl
    go_enter Tryd.func42, Tryd.ntmps42
    go_wp2_with fail
    go_ret2
    exact ⟨_, _, rfl, HN.out, rfl⟩
  | cons c r =>
    have hc : c.toNat ≠ 45 := by
      intro e
      apply hm
      have : c = 45 := UInt8.toNat_inj.1 e
      rw [this]; rfl
    have hi0 := idx_zero c r
    obtain ⟨y, hy⟩ : ∃ y : Int, y = (c.toNat : Nat) := ⟨_, rfl⟩
    rw [← hy] at hi0
    have e1 : (y == 45) = false := by rw [beq_eq_false_iff_ne]; omega
    obtain ⟨L, hL⟩ : ∃ L : Int, L = (r.length : Nat) + 1 := ⟨_, rfl⟩
    have hsz : (((str (c :: r)).size : Nat) : Int) = L := by rw [str_size, List.length_cons, hL]; omega
    have hL0 : 1 ≤ L := by omega
    have hlen : (c :: r).length = r.length + 1 := rfl
    rw [hlen] at hl
    have hL1 : L ≤ 1000 := by omega
    clear hl
    by_cases h16 : 16 < L
    · have HN := Lib.hid (num_none (l := c :: r) (fun u hu e => by have := dd_len16 hu; rw [← e] at this; omega) hm)
      clear hm hc hy hlen hL
      go_enter Tryd.func42, Tryd.ntmps42
      go_wp2_with fail
      go_ret2
      exact ⟨_, _, rfl, HN.out, rfl⟩
    · by_cases h48 : c.toNat = 48 ∧ 1 < L
      · have HN := Lib.hid (num_none (l := c :: r) (fun u hu e => by
          obtain ⟨c', r', e2, h1, _⟩ := Dec.dd_head u
          rw [← e] at e2
          injection e2 with e3 e4
          refine h1 ?_ (by rw [← e3]; exact h48.1)
          rw [← e4]; intro e5; have h6 := h48.2; rw [hL, e5] at h6; simp at h6) hm)
        obtain ⟨h481, h482⟩ := h48
        have e2 : (y == 48) = true := by rw [beq_iff_eq]; omega
        clear hm hc h481 hy hlen hL
        go_enter Tryd.func42, Tryd.ntmps42
        go_wp2_with fail
        go_ret2
        exact ⟨_, _, rfl, HN.out, rfl⟩
      · have HH := Lib.hid h48
        have HM := Lib.hid hm
        have key : ((y == 48) = false) ∨ ((y == 48) = true ∧ L ≤ 1) := by
          by_cases e : c.toNat = 48
          · right; exact ⟨by rw [beq_iff_eq]; omega, by omega⟩
          · left; rw [beq_eq_false_iff_ne]; omega
        have HL0 : Hid (((c :: r).length : Int) = L) := Lib.hid (by rw [hlen, hL]; omega)
        have hL16 : L ≤ 16 := by omega
        clear hm hc h48 hy hlen hL h16
        rcases key with e2 | ⟨e2, e3⟩
        all_goals
          go_enter Tryd.func42, Tryd.ntmps42
          go_wp2_with fail
          clear hi0 e1 e2
          try clear e3
          generalize c :: r = l at *
          have hll : l.length ≤ 16 := by have := HL0.out; omega
          have HK : Hid (l.length ≤ 16) := Lib.hid hll
          clear hll
          go_loop [6, 7] (fun n i => RelN l n i) (fun _ i => l.length - (RowKit.intOf i).toNat)
          case atStart => exact ⟨0, by omega, rfl, rfl, by rw [List.take_zero]; decide⟩
          case round =>
            obtain ⟨k, hk, rfl, rfl, hb⟩ := hrel
            have h16 := HK.out
            have hLl := HL0.out
            have hkL : (k : Int) ≤ L := by omega
            clear hLl
            by_cases hlt : k < l.length
            · have hkl : (k : Int) < L := by have := HL0.out; omega
              have hx := idx_run l k hlt
              have hp : 10 ^ k ≤ 10 ^ 15 := Nat.pow_le_pow_right (by omega) (by omega)
              rw [show (10 : Nat) ^ 15 = 1000000000000000 by decide] at hp
              by_cases hd : isDig l[k]
              · have hst := spell_step l k hlt hd hb
                obtain ⟨a, ha⟩ : ∃ a : Int, a = (Dec.spell 0 (l.take k) : Nat) := ⟨_, rfl⟩
                obtain ⟨x, hxx⟩ : ∃ x : Int, x = ((l[k]).toNat : Nat) := ⟨_, rfl⟩
                have hx1 : 48 ≤ x := by unfold isDig at hd; omega
                have hx2 : x ≤ 57 := by unfold isDig at hd; omega
                have ha1 : 0 ≤ a := by omega
                have ha2 : a < 1000000000000000 := by omega
                have HR : Hid (RelN l (.int .i64 (10 * a + (x - 48))) (.int .i64 ((k : Int) + 1))) := Lib.hid ⟨k + 1, by omega, by rw [Int.natCast_succ], by rw [show (10 * a + (x - 48)) = ((Dec.spell 0 (l.take (k + 1)) : Nat) : Int) by omega], hst.2⟩
                have w1 : IntKind.u8.wrap (x - 48) = x - 48 := IntWalk.u8_in _ (by omega)
                rw [← ha]
                rw [← hxx] at hx
                clear hd hst hb hp ha hxx h16 hlt hk
                go_wp2_with fail
                go_round
                case rel => exact HR.out
                case measure => have := HL0.out; simp [RowKit.intOf]; omega
              · have HN : Hid (NumIs l 0 false) := Lib.hid (num_none (fun u hu e => hd (by
                    have := Dec.dd_digit u (l[k]) (by rw [← e]; exact List.getElem_mem hlt)
                    exact this)) HM.out)
                obtain ⟨x, hxx⟩ : ∃ x : Int, x = ((l[k]).toNat : Nat) := ⟨_, rfl⟩
                rw [← hxx] at hx
                have hx0 : x < 48 ∨ 57 < x := by unfold isDig at hd; omega
                clear hd hb hp hxx h16 hlt hk
                rcases hx0 with hx0 | hx0
                · go_wp2_with fail
                  go_ret2
                  exact ⟨_, _, rfl, HN.out, rfl⟩
                · have hx1 : 48 ≤ x := by omega
                  go_wp2_with fail
                  go_ret2
                  exact ⟨_, _, rfl, HN.out, rfl⟩
            · have hkl : L ≤ (k : Int) := by have := HL0.out; omega
              obtain rfl : k = l.length := by omega
              rw [List.take_of_length_le (Nat.le_refl _)] at hb ⊢
              have HN : Hid (NumIs l (Dec.spell 0 l : Nat) true) := by
                refine Lib.hid (num_some rfl ?_ HM.out)
                have hp : 10 ^ l.length ≤ 10 ^ 16 := Nat.pow_le_pow_right (by omega) (by omega)
                rw [show (10 : Nat) ^ 16 = 10000000000000000 by decide] at hp
                omega
              clear hb h16 hk hlt
              go_wp2_with fail
              go_ret2
              exact ⟨_, _, rfl, HN.out, rfl⟩

theorem num_any : ∀ (l : List UInt8) (w : World), (l.length : Int) ≤ 1000 → Calls Tryd.prog 42 #[.string (str l)] w (GivesNum l w) := by
  intro l
  induction l with
  | nil => intro w hl; exact num_plain [] w (by simp) hl
  | cons c r ih =>
    intro w hl
    by_cases hc : c = 45
    · subst hc
      have hi0 := idx_zero 45 r
      have hn : ((45 : UInt8).toNat : Int) = 45 := rfl
      rw [hn] at hi0
      have hsz : (str (45 :: r)).size = (45 :: r : List UInt8).length := rfl
      have hlen : (45 :: r : List UInt8).length = r.length + 1 := rfl
      have hfrom : ∀ w, (Instr.slice 9 (.string (str (45 :: r))) (some (.int .i64 1)) none none).run Tryd.prog w = .ok (.string (str r)) w := fun w => from_run (45 :: r) 1 (by simp) w
      have I1 : Hid (∀ w, Calls Tryd.prog 42 #[.string (str r)] w (GivesNum r w)) := Lib.hid fun w => ih w (by rw [hlen] at hl; omega)
      rw [hlen] at hl
      clear ih hn
      go_enter Tryd.func42, Tryd.ntmps42
      go_wp2_with (go_at_call 42; ((with_reducible refine (I1.out _).mono ?_); rintro e w1 ⟨n, ok, rfl, hN, rfl⟩; have HN := Lib.hid hN; have hlo := hN.lo; have hhi := hN.hi; clear hN; cases ok))
      all_goals
        have HM := Lib.hid (num_neg HN.out)
        clear hlo hhi
        go_ret2
        exact ⟨_, _, rfl, HM.out, rfl⟩
    · exact num_plain (c :: r) w (by simp [hc]) hl
end Go.Proofs.YtlacjlcndejeaaaDoor
