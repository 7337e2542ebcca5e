/- The world that these proofs ask for (the library's tables and errors as they are laid), what a call leaves of it; numerals by strconv.Itoa and by the document's Digits. Conditions: those in each statement. -/
import Derived.Test.YtobechecnkmpaaaDoorChecked
import Derived.Test.YtobechecnkmpaaaDoorDec
import Derived.Test.YtobechecnkmpaaaDoorShelf
import Derived.Test.YtobechecnkmpaaaDoorStr
import Derived.WalkKit
import Derived.WalkSpells
import Derived.Lib.Hide
import Derived.Lib.SmallJoins
import Derived.Lib.AppendIntMem
import Derived.Deep.QuietTactic
import Derived.BigQuiet
import Derived.IntWalk
import Derived.KernelRfl
namespace Go.Proofs.YtobechecnkmpaaaDoor
open Go.RowKit Go.Lib
set_option linter.unusedVariables false

/-! ### The world -/
structure Env (w : World) : Prop where
  tab : Lib.TabIs Tryd.prog w "internal/strconv.uint64pow10" .u64 Lib.pow10Tab
theorem var_on {w w' : World} {n : String} {cs : Array Value} (h : w.var? Tryd.prog n = some cs) (hb : Below w.heap.size w w') : w'.var? Tryd.prog n = some cs := by
  cases hg : Tryd.prog.globalNamed n with
  | none => unfold World.var? at h; rw [hg] at h; cases h
  | some g => exact Go.Joins.var_stays hg h hb (Nat.le_refl _)
theorem Env.on {w w' : World} (h : Env w) (hb : Below w.heap.size w w') : Env w' := ⟨var_on h.tab hb⟩
/-- What a call leaves: the tables still stand, and nothing that was there has turned. -/
structure Left (w w' : World) : Prop where
  env : Env w'
  below : Below w.heap.size w w'
theorem Left.refl {w : World} (h : Env w) : Left w w := ⟨h, Below.refl _ _⟩
theorem Left.trans {a b c : World} (h : Left a b) (k : Left b c) : Left a c := ⟨k.env, h.below.trans (k.below.mono h.below.size)⟩
theorem Left.of {w w' : World} (h : Env w) (hb : Below w.heap.size w w') : Left w w' := ⟨h.on hb, hb⟩

/-- Draws alone. -/
theorem left_draws {w w' : World} (hE : Env w) (h : ∃ q, w' = w.drewN q) : Left w w' := by
  obtain ⟨q, rfl⟩ := h
  exact .of hE (Go.Joins.below_draws _ _ _)

def GivesStr (l : List UInt8) (w : World) (e : Ending) (w' : World) : Prop := e = .returned (.string (str l)) ∧ Left w w'

theorem itoa_any (n : Int) (w : World) (h : Env w) (h0 : -9223372036854775808 ≤ n) (h1 : n ≤ 9223372036854775807) : Calls Tryd.prog 37 #[.int .i64 n] w (GivesStr (itoa n) w) :=
  (Tryd.strconv_Itoa n h0 h1 w h.tab).mono fun e w' ⟨he, k, os, hw⟩ => ⟨he, .of h (by rw [hw]; exact Lib.below_grow _ w (Nat.le_refl _) k os)⟩
theorem formatInt_any (n : Int) (w : World) (h : Env w) (h0 : -9223372036854775808 ≤ n) (h1 : n ≤ 9223372036854775807) : Calls Tryd.prog 36 #[.int .i64 n, .int .i64 10] w (GivesStr (itoa n) w) :=
  (Tryd.strconv_FormatInt_10 n h0 h1 w h.tab).mono fun e w' ⟨he, k, os, hw⟩ => ⟨he, .of h (by rw [hw]; exact Lib.below_grow _ w (Nat.le_refl _) k os)⟩

def DrewStr (l : List UInt8) (w : World) (e : Ending) (w' : World) : Prop := e = .returned (.string (str l)) ∧ ∃ q, w' = w.drewN q

/-! ### Digits -/

theorem digs_at : ∀ d : Fin 10, ((([48, 49, 50, 51, 52, 53, 54, 55, 56, 57] : List UInt8).drop d.val).take 1) = [UInt8.ofNat (48 + d.val)] := by decide
theorem slice_digs (d : Nat) (h : d < 10) : (⟨#[48, 49, 50, 51, 52, 53, 54, 55, 56, 57]⟩ : ByteArray).extract d (d + 1) = str [UInt8.ofNat (48 + d)] := by
  have e : (⟨#[48, 49, 50, 51, 52, 53, 54, 55, 56, 57]⟩ : ByteArray) = ⟨([48, 49, 50, 51, 52, 53, 54, 55, 56, 57] : List UInt8).toArray⟩ := rfl
  rw [e, ByteArray.extract_mk, show d + 1 - d = 1 by omega, digs_at ⟨d, h⟩]
  rfl

def one (d : Int) : ByteArray := str [UInt8.ofNat (48 + d.toNat)]
set_option maxHeartbeats 1000000 in
theorem digits_any (k : Nat) : ∀ (n : Int) (w : World), 2 * n.natAbs + (if n < 0 then 1 else 0) < k → -9223372036854775808 ≤ n → n ≤ 9223372036854775807 → Calls Tryd.prog 39 #[.int .i64 n] w (DrewStr (itoa n) w) := by
  induction k with
  | zero => intro n w h; omega
  | succ k ih =>
    intro n w hk h0 h1
    have hlen : ∀ m : Int, -9223372036854775808 ≤ m → m ≤ 9223372036854775807 → (itoa m).length ≤ 20 := fun m a b => by
      have := Dec.itoa_len (k := 19) (n := m) (by omega) (by rw [show (10 : Nat) ^ 19 = 10000000000000000000 by decide]; omega)
      omega
    by_cases h2 : n < -9
    · have hlo := Dec.itoa_lo h2
      have q1 : n.tdiv 10 = -((n.natAbs / 10 : Nat) : Int) := by
        obtain ⟨u, rfl⟩ : ∃ u : Nat, n = -(u : Int) := ⟨n.natAbs, by omega⟩
        rw [Int.neg_tdiv]
        rw [Int.natAbs_neg, Int.natAbs_natCast]; rfl
      have q2 : n.tmod 10 = -((n.natAbs % 10 : Nat) : Int) := by
        obtain ⟨u, rfl⟩ : ∃ u : Nat, n = -(u : Int) := ⟨n.natAbs, by omega⟩
        rw [Int.neg_tmod]
        rw [Int.natAbs_neg, Int.natAbs_natCast]; rfl
      have i1 : ∀ w, Calls Tryd.prog 39 #[.int .i64 (n.tdiv 10)] w (DrewStr (itoa (n.tdiv 10)) w) := fun w => ih _ w (by split at hk <;> split <;> omega) (by omega) (by omega)
      have i2 : ∀ w, Calls Tryd.prog 39 #[.int .i64 (-(n.tmod 10))] w (DrewStr (itoa (-(n.tmod 10))) w) := fun w => ih _ w (by split at hk <;> split <;> omega) (by omega) (by omega)
      have l1 := hlen (n.tdiv 10) (by omega) (by omega)
      have l2 := hlen (-(n.tmod 10)) (by omega) (by omega)
      have a1 : ∀ w, (Op.stringOp .add (str (itoa (n.tdiv 10))) (str (itoa (-(n.tmod 10))))).run Tryd.prog w = .ok (.string (str (itoa n))) w := fun w => by
        rw [run_string_add_sum w _ _ (by rw [str_size, str_size]; omega), str_append, hlo]
      have w1 : wrap64 (n.tdiv 10) = n.tdiv 10 := IntWalk.wrap64_in _ (by omega)
      have w2 : wrap64 (n.tmod 10) = n.tmod 10 := IntWalk.wrap64_in _ (by omega)
      have w3 : wrap64 (-(n.tmod 10)) = -(n.tmod 10) := IntWalk.wrap64_in _ (by omega)
      have I1 := Lib.hid i1
      have I2 := Lib.hid i2
      clear hlen hlo q1 q2 i1 i2 l1 l2 ih hk
      go_enter Tryd.func39, Tryd.ntmps39
      go_wp2_with (first
        | (go_at_call 39; ((with_reducible refine (I1.out _).mono ?_); rintro e w1 ⟨rfl, hw1⟩; have HW1 := Lib.hid hw1; clear hw1))
        | (go_at_call 39; ((with_reducible refine (I2.out _).mono ?_); rintro e w2 ⟨rfl, hw2⟩; have HW2 := Lib.hid hw2; clear hw2)))
      go_ret
      obtain ⟨q1, h1⟩ := HW1.out
      obtain ⟨q2, h2⟩ := HW2.out
      exact ⟨rfl, q1 + q2, by rw [h2, h1, World.drewN_drewN]⟩
    · by_cases h3 : n < 0
      · have hneg := Dec.itoa_head_neg h3
        have i1 : ∀ w, Calls Tryd.prog 39 #[.int .i64 (-n)] w (DrewStr (itoa (-n)) w) := fun w => ih _ w (by split at hk <;> split <;> omega) (by omega) (by omega)
        have l2 := hlen (-n) (by omega) (by omega)
        have a1 : ∀ w, (Op.stringOp .add ⟨#[45]⟩ (str (itoa (-n)))).run Tryd.prog w = .ok (.string (str (itoa n))) w := fun w => by
          rw [run_string_add_sum w _ _ (by rw [str_size]; show 1 + _ ≤ _; omega), hneg]
          exact congrArg (fun x => Result.ok (Value.string x) w) (str_append [45] (itoa (-n)))
        have I1 := Lib.hid i1
        clear hlen hneg i1 l2 ih hk
        go_enter Tryd.func39, Tryd.ntmps39
        go_wp2_with (first
          | (go_at_call 39; ((with_reducible refine (I1.out _).mono ?_); rintro e w1 ⟨rfl, hw1⟩; have HW1 := Lib.hid hw1; clear hw1)))
        go_ret
        exact ⟨rfl, HW1.out⟩
      · by_cases h4 : n < 10
        · have hs : n.toNat < 10 := by omega
          have HS := Lib.hid (slice_digs n.toNat hs)
          have HI := Lib.hid (Dec.itoa_one (n := n) (by omega) h4)
          clear hk ih hlen
          go_enter Tryd.func39, Tryd.ntmps39
          go_wp2_with fail
          go_ret
          exact ⟨ret_str (by rw [HI.out, show (n + 1).toNat = n.toNat + 1 by omega, HS.out]), 0, rfl⟩
        · have hhi := Dec.itoa_hi (n := n) (by omega)
          have i1 : ∀ w, Calls Tryd.prog 39 #[.int .i64 (n / 10)] w fun e w' => e = .returned (.string (str (itoa (n / 10)))) ∧ ∃ q, w' = w.drewN q := fun w => ih _ w (by split at hk <;> split <;> omega) (by omega) (by omega)
          have l1 := hlen (n / 10) (by omega) (by omega)
          have hx := slice_digs (n % 10).toNat (by omega)
          rw [show (n % 10).toNat + 1 = (n % 10 + 1).toNat by omega] at hx
          have a1 : ∀ w, (Op.stringOp .add (str (itoa (n / 10))) (one (n % 10))).run Tryd.prog w = .ok (.string (str (itoa n))) w := fun w => by
            unfold one; rw [run_string_add_sum w _ _ (by rw [str_size, str_size]; show _ + 1 ≤ _; omega), str_append, hhi]
          have b1 : 0 ≤ n % 10 := by omega
          have b2 : n % 10 < 10 := by omega
          have hsl : ∀ w, (Instr.slice 9 (.string ⟨#[48, 49, 50, 51, 52, 53, 54, 55, 56, 57]⟩) (some (.int .i64 (n % 10))) (some (.int .i64 (n % 10 + 1))) none).run Tryd.prog w = .ok (.string (one (n % 10))) w := fun w => by
            rw [run_slice_string w _ _ _ _ _ _ (by kernel_rfl) (by omega) (by omega) (by show _ ≤ (10 : Int); omega), hx]; rfl
          have I1 : Hid (∀ x, Calls Tryd.prog 39 #[.int .i64 (n / 10)] (w.drewN x) fun e w' => e = .returned (.string (str (itoa (n / 10)))) ∧ ∃ q, w' = w.drewN q) := Lib.hid fun x => Calls.quiet_of (i1 (w.drewN x))
          have g1 : IntKind.i64.wrap (n.tdiv 10) = n / 10 := by rw [Int.tdiv_eq_ediv_of_nonneg (by omega)]; exact IntWalk.i64_in _ (by omega)
          have g2 : n.tmod 10 = n % 10 := Int.tmod_eq_emod_of_nonneg (by omega)
          have g3 : IntKind.i64.wrap (n % 10) = n % 10 := IntWalk.i64_in _ (by omega)
          have g4 : IntKind.i64.wrap (n % 10 + 1) = n % 10 + 1 := IntWalk.i64_in _ (by omega)
          clear hlen hhi i1 l1 ih hk hx
          go_enter Tryd.func39, Tryd.ntmps39
          go_wp2_with fail
          go_quiet ((exact I1.out _))
          go_wp2_with fail
          go_ret
          exact ⟨rfl, _, rfl⟩
end Go.Proofs.YtobechecnkmpaaaDoor
