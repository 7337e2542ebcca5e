/- The statement's function of layer 7 (batch) on a list and a text: it returns true. Conditions: the list lies in memory as its cells say; numbers' words of 64 bits; texts of a length that a machine holds. -/
import Derived.Test.YthmhkkhjcnihmaaBatI
namespace Go.Proofs.Ythmhkkhjcnihmaa.Bat
open Go.RowKit Cmd
set_option linter.unusedVariables false

/-- What the statement's call has: its list, seen from the elder world. -/
structure Tel (w : World) (v : Value) (zs : List Cmdn) (W : World) : Prop where
  below : Below w.heap.size w W
  row : layC.Row W v zs
theorem Tel.on {w W W' : World} {v : Value} {zs : List Cmdn} (h : Tel w v zs W) (hb : Below W.heap.size W W') : Tel w v zs W' := ⟨h.below.trans (hb.mono h.below.size), h.row.on hb⟩

set_option maxHeartbeats 8000000 in
set_option maxRecDepth 100000 in
theorem tells_any (v : Value) (zs : List Cmdn) (s : Text) (w : World) (h : layC.Row w v zs) (hw : ∀ x ∈ zs, wfC x) : Calls Try.prog 3 #[v, .string (str s)] w (RetBelow (.bool true) w) := by
  obtain ⟨p, cap, rfl, h1, -⟩ := h.parts
  obtain ⟨n, hn⟩ : ∃ n, n = zs.length := ⟨_, rfl⟩
  have HWK := Lib.hid works_any
  rw [← hn] at h1 h ⊢
  by_cases hl : 100 < n
  · have h2 : 100 < (n : Int) := by omega
    clear hl h hw hn
    go_enter Try.func3, Try.ntmps3
    go_wp2_with (go_at_call 5; (with_reducible refine (HWK.out _).mono ?_); rintro e w4 ⟨rfl, hb⟩; have HB := Lib.hid hb; clear hb)
    go_ret
    exact ⟨rfl, HB.out⟩
  · have h2 : ¬ 100 < (n : Int) := by omega
    have hz : zs.length ≤ 100000 := by omega
    have P0 : Hid (Tel w (.slice p n cap) zs w) := Lib.hid ⟨Below.refl _ _, h⟩
    have C1 : Hid (∀ W, Tel w (.slice p n cap) zs W → Calls Try.prog 6 #[.slice p n cap] W (RetBelow (.int .i64 (bErr zs)) W)) := Lib.hid fun W h => bcheck_any _ zs W h.row hw
    have C2 : Hid (∀ W, Tel w (.slice p n cap) zs W → Calls Try.prog 7 #[.slice p n cap] W (RetBelow (.int .i64 (bErr zs)) W)) := Lib.hid fun W h => refcheck_any _ zs W h.row hw
    have C3 : Hid (∀ W, Tel w (.slice p n cap) zs W → Calls Try.prog 9 #[.slice p n cap] W (layS.Gives (kset (keys zs)) W)) := Lib.hid fun W h => bkeys_any _ zs W h.row hz hw
    have C4 : Hid (∀ W, Tel w (.slice p n cap) zs W → Calls Try.prog 10 #[.slice p n cap] W (layS.Gives (kset (keys zs)) W)) := Lib.hid fun W h => refkeys_any _ zs W h.row hz
    have C5 : Hid (∀ W u v, layS.Row W u (kset (keys zs)) → layS.Row W v (kset (keys zs)) → Calls Try.prog 8 #[u, v] W (RetBelow (.bool true) W)) := Lib.hid fun W u v h k => by have := sametexts_any u v _ _ W h k; rw [decide_eq_true rfl] at this; exact this
    have C6 : Hid (∀ W, Tel w (.slice p n cap) zs W → Calls Try.prog 12 #[.slice p n cap, .string (str s)] W (layI.Gives (places zs s) W)) := Lib.hid fun W h => bwrites_any _ zs s W h.row hz hw
    have C7 : Hid (∀ W, Tel w (.slice p n cap) zs W → Calls Try.prog 13 #[.slice p n cap, .string (str s)] W (layI.Gives (places zs s) W)) := Lib.hid fun W h => refbwrites_any _ zs s W h.row hz hw
    have C8 : Hid (∀ W u v, layI.Row W u (places zs s) → layI.Row W v (places zs s) → Calls Try.prog 11 #[u, v] W (RetBelow (.bool true) W)) := Lib.hid fun W u v h k => by have := sameints_any u v _ _ W h k; rw [decide_eq_true rfl] at this; exact this
    have C9 : Hid (∀ W, Tel w (.slice p n cap) zs W → Calls Try.prog 14 #[.slice p n cap, .string (str s)] W (RetBelow (.bool (decide (s ∈ keys zs))) W)) := Lib.hid fun W h => touches_any _ zs s W h.row
    have C10 : Hid (∀ W u, layS.Row W u (kset (keys zs)) → Calls Try.prog 15 #[u, .string (str s)] W fun e w' => e = .returned (.bool (decide (s ∈ keys zs))) ∧ W = w') := Lib.hid fun W u h => by have := in_any u _ s W h; simp only [kset_mem] at this; exact this
    generalize bErr zs = q at C1 C2
    generalize decide (s ∈ keys zs) = r at C9 C10
    generalize kset (keys zs) = ks at C3 C4 C5 C10
    generalize places zs s = is at C6 C7 C8
    have er : ∀ w, (binOp .eql 4 (.bool r) (.bool r)).run Try.prog w = .ok (.bool true) w := fun w => by rw [run_eql_bool _ _ _ _ Try.underlying4]; simp
    clear h hw hn hl hz
    go_enter Try.func3, Try.ntmps3
    go_wp2_with (first
      | (go_at_call 6; (with_reducible refine (C1.out _ P0.out).mono ?_); rintro e w1 ⟨rfl, hb⟩; have P1 := Lib.hid (P0.out.on hb); clear hb)
      | (go_at_call 7; (with_reducible refine (C2.out _ P1.out).mono ?_); rintro e w2 ⟨rfl, hb⟩; have P2 := Lib.hid (P1.out.on hb); clear hb)
      | (go_at_call 9; (with_reducible refine (C3.out _ P2.out).mono ?_); rintro e w3 ⟨x1, rfl, hx, hb⟩; have P3 := Lib.hid (P2.out.on hb); have R1 := Lib.hid hx; clear hb hx)
      | (go_at_call 10; (with_reducible refine (C4.out _ P3.out).mono ?_); rintro e w4 ⟨x2, rfl, hx, hb⟩; have P4 := Lib.hid (P3.out.on hb); have R2 := Lib.hid hx; have R3 := Lib.hid (R1.out.on hb); clear hb hx)
      | (go_at_call 8; (with_reducible refine (C5.out _ _ _ R3.out R2.out).mono ?_); rintro e w5 ⟨rfl, hb⟩; have P5 := Lib.hid (P4.out.on hb); clear hb)
      | (go_at_call 12; (with_reducible refine (C6.out _ P5.out).mono ?_); rintro e w6 ⟨x3, rfl, hx, hb⟩; have P6 := Lib.hid (P5.out.on hb); have R4 := Lib.hid hx; clear hb hx)
      | (go_at_call 13; (with_reducible refine (C7.out _ P6.out).mono ?_); rintro e w7 ⟨x4, rfl, hx, hb⟩; have P7 := Lib.hid (P6.out.on hb); have R5 := Lib.hid hx; have R6 := Lib.hid (R4.out.on hb); clear hb hx)
      | (go_at_call 11; (with_reducible refine (C8.out _ _ _ R6.out R5.out).mono ?_); rintro e w8 ⟨rfl, hb⟩; have P8 := Lib.hid (P7.out.on hb); clear hb)
      | (go_at_call 14; (with_reducible refine (C9.out _ P8.out).mono ?_); rintro e w9 ⟨rfl, hb⟩; have P9 := Lib.hid (P8.out.on hb); clear hb)
      | (go_at_call 10; (with_reducible refine (C4.out _ P9.out).mono ?_); rintro e w10 ⟨x5, rfl, hx, hb⟩; have P10 := Lib.hid (P9.out.on hb); have R7 := Lib.hid hx; clear hb hx)
      | (go_at_call 15; (with_reducible refine (C10.out _ _ R7.out).mono ?_); rintro e w11 ⟨rfl, rfl⟩)
      | (go_at_call 5; (with_reducible refine (HWK.out _).mono ?_); rintro e w12 ⟨rfl, hb⟩; have P11 := Lib.hid (P10.out.on hb); clear hb))
    go_ret
    exact ⟨rfl, P11.out.below⟩
end Go.Proofs.Ythmhkkhjcnihmaa.Bat
