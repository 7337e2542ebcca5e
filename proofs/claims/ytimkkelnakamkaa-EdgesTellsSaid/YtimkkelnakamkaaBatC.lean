/- What a search with a predicate gives over a list of commands; and by it the program's Check, Touches and Conflict (layer 7, batch). Conditions: the list lies in memory as its cells say; numbers' words of 64 bits. -/
import Derived.Test.YtimkkelnakamkaaBatB
namespace Go.Proofs.Ytimkkelnakamkaa.Bat
open Go.RowKit Cmd
set_option linter.unusedVariables false

/-- What is asked of a predicate: of each command of the list, in whatever world in which all that lay lies. -/
def PredOn (g : Nat) (lb : Array Value) (p : Cmdn → Bool) (zs : List Cmdn) (w : World) : Prop :=
  ∀ (W : World) (x : Cmdn), x ∈ zs → Below w.heap.size w W → Calls Try.prog g (#[cval x] ++ lb) W (RetBelow (.bool (p x)) W)
theorem callAt {g : Nat} {lb : Array Value} {p : Cmdn → Bool} {zs : List Cmdn} {w : World} (h : PredOn g lb p zs w) {W : World} {c : Int} {s : List UInt8} {f : Nat} (hx : (c, s, f) ∈ zs) (hb : Below w.heap.size w W) :
    Calls Try.prog g (#[.agg #[.int .i64 c, .string (str s), .float .f64 f]] ++ lb) W (RetBelow (.bool (p (c, s, f))) W) := h W (c, s, f) hx hb
def GivesIdx (b : Bool) (w : World) (e : Ending) (w' : World) : Prop := ∃ r : Int, e = .returned (.int .i64 r) ∧ decide (0 ≤ r) = b ∧ Below w.heap.size w w'

/-- The functions that are handed over. -/
def OneOf (g : Nat) : Prop :=
  g = 77 ∨
  False

set_option maxHeartbeats 4000000 in
theorem index_any (v : Value) (zs : List Cmdn) (g : Nat) (lb : Array Value) (p : Cmdn → Bool) (w : World) (h : layC.Row w v zs) (hg : OneOf g) (hp : PredOn g lb p zs w) :
    Calls Try.prog 85 #[v, .func (.func g) #[] lb] w (GivesIdx (zs.any p) w) := by
  obtain ⟨a, cap, rfl, h1, hd⟩ := h.parts
  obtain ⟨n, hn⟩ : ∃ n, n = zs.length := ⟨_, rfl⟩
  rw [← hn] at h1 hd ⊢
  have HZ := Lib.hid hn
  clear h hn
  have HT : Hid (∀ j, j < n → p (layC.at zs j) = true → zs.any p = true) := Lib.hid fun j hj h => List.any_eq_true.2 ⟨_, layC.at_mem (by rw [← HZ.out]; exact hj), h⟩
  have HF : Hid ((∀ j, j < n → p (layC.at zs j) = false) → zs.any p = false) := Lib.hid fun h => by
    rw [List.any_eq_false]
    intro x hx
    obtain ⟨j, hj, rfl⟩ := (Lay.mem (L := layC)).1 hx
    rw [h j (by rw [HZ.out]; exact hj)]; decide
  have HP := Lib.hid hp
  generalize zs.any p = r at HT HF
  clear hp
  rcases hg with
    rfl |
    hf
  all_goals try exact hf.elim
  all_goals
    go_enter Try.func85, Try.ntmps85
    go_wp2
    go_loopw [8] (fun i wr => ∃ k : Nat, k ≤ n ∧ i = .int .i64 k ∧ Hid (Below w.heap.size w wr) ∧ Hid (∀ j, j < k → p (layC.at zs j) = false)) (fun i _ => n - (intOf i).toNat)
    case atStart => exact ⟨0, Nat.zero_le _, rfl, Lib.hid (Below.refl _ _), Lib.hid fun j hj => absurd hj (Nat.not_lt_zero _)⟩
    case round =>
      obtain ⟨k, hk, rfl, hbw, hno⟩ := hrel
      by_cases hkn : k < n
      · obtain ⟨B, off, rfl, HC⟩ := hd.resolve_left (by omega)
        obtain ⟨c, s, f, hx⟩ : ∃ c s f, layC.at zs k = (c, s, f) := ⟨_, _, _, rfl⟩
        obtain ⟨c0, c1, c2⟩ := cellC (HC.out.on hbw.out) (by rw [← HZ.out]; exact hkn) hx
        have hcall := callAt HP.out (W := wr) (c := c) (s := s) (f := f) (by rw [← hx]; exact layC.at_mem (by rw [← HZ.out]; exact hkn)) hbw.out
        have HX := Lib.hid hx
        have k0 : (0 : Int) ≤ k := by omega
        have kn : (k : Int) < n := by omega
        clear hx hd
        cases hq : p (c, s, f) with
        | true =>
          rw [hq] at hcall
          have HR : Hid (r = true) := Lib.hid (HT.out k hkn (by rw [HX.out]; exact hq))
          have HQ := Lib.hid hcall
          clear hq hcall
          go_wp2_with (first
            | (go_at_call 77; (with_reducible refine HQ.out.mono ?_); rintro e w1 ⟨rfl, hb⟩; have HB := Lib.hid hb; clear hb)
            | fail)
          go_ret
          exact ⟨_, rfl, by rw [HR.out]; exact decide_eq_true k0, hbw.out.trans (HB.out.mono hbw.out.size)⟩
        | false =>
          rw [hq] at hcall
          have HR : Hid (p (layC.at zs k) = false) := Lib.hid (by rw [HX.out]; exact hq)
          have HQ := Lib.hid hcall
          clear hq hcall
          go_wp2_with (first
            | (go_at_call 77; (with_reducible refine HQ.out.mono ?_); rintro e w1 ⟨rfl, hb⟩; have HB := Lib.hid hb; clear hb)
            | fail)
          go_roundw
          case rel => exact ⟨k + 1, by omega, by go_num, Lib.hid (hbw.out.trans (HB.out.mono hbw.out.size)), Lib.hid fun j hj => by
            by_cases e : j = k
            · rw [e]; exact HR.out
            · exact hno.out j (by omega)⟩
          case measure => simp [intOf]; omega
      · have kn : ¬ (k : Int) < n := by omega
        obtain rfl : k = n := by omega
        clear hd
        go_wp2
        go_ret
        exact ⟨_, rfl, by rw [HF.out hno.out]; decide, hbw.out⟩

theorem contains_any (v : Value) (zs : List Cmdn) (g : Nat) (lb : Array Value) (p : Cmdn → Bool) (w : World) (h : layC.Row w v zs) (hg : OneOf g) (hp : PredOn g lb p zs w) :
    Calls Try.prog 76 #[v, .func (.func g) #[] lb] w (RetBelow (.bool (zs.any p)) w) := by
  have HI := Lib.hid (index_any v zs g lb p w h hg hp)
  generalize zs.any p = r at HI
  clear h hp hg
  go_enter Try.func76, Try.ntmps76
  go_wp2_with (go_at_call 85; (with_reducible refine HI.out.mono ?_); rintro e w1 ⟨x, rfl, hx, hb⟩; have HX := Lib.hid hx; have HB := Lib.hid hb; clear hx hb)
  go_ret
  exact ⟨ret_bool HX.out, HB.out⟩

/-! ### Check -/
theorem checkfn (c : Int) (s : List UInt8) (f : Nat) (w : World) (hf : f < 18446744073709551616) : Calls Try.prog 77 #[.agg #[.int .i64 c, .string (str s), .float .f64 f]] w (RetBelow (.bool (!cRight c s f)) w) := by
  have HB := Lib.hid (Boxed.start w c s f)
  have HC := Lib.hid (fun w => check_any c s f w hf)
  clear hf
  rcases err_cases c s f with ⟨h1, h2⟩ | ⟨h1, h2⟩
  all_goals
    rw [h1]; rw [h2] at HC; clear h1 h2
    go_enter Try.func77, Try.ntmps77
    go_wp2_with (first
      | (go_at_call 78; (with_reducible refine (HC.out _).mono ?_); rintro e w1 ⟨rfl, hb⟩; have HB1 := Lib.hid (HB.out.on hb); clear hb))
    go_ret
    exact ⟨rfl, HB1.out.below⟩

def bErr (zs : List Cmdn) : Int := if 8 < zs.length then 5 else if (zs.any fun x => !right x) = true then 12 else 0
theorem bcheck_any (v : Value) (zs : List Cmdn) (w : World) (h : layC.Row w v zs) (hw : ∀ x ∈ zs, wfC x) : Calls Try.prog 61 #[v] w (RetBelow (.int .i64 (bErr zs)) w) := by
  have HC : Hid (Calls Try.prog 76 #[v, .func (.func 77) #[] #[]] w (RetBelow (.bool (zs.any fun x => !right x)) w)) :=
    Lib.hid (contains_any v zs _ #[] (fun x => !right x) w h (by unfold OneOf; decide) fun W x hx hb => checkfn x.1 x.2.1 x.2.2 W (hw x hx).1)
  have HE : Hid (bErr zs = if 8 < zs.length then 5 else if (zs.any fun x => !right x) = true then 12 else 0) := Lib.hid rfl
  obtain ⟨p, cap, rfl, h1, -⟩ := h.parts
  generalize (zs.any fun x => !right x) = r at HC HE
  obtain ⟨n, hn⟩ : ∃ n, n = zs.length := ⟨_, rfl⟩
  rw [← hn] at h1 HC HE ⊢
  clear h hw hn
  by_cases h8 : 8 < n
  · have h2 : 8 < (n : Int) := by omega
    rw [if_pos h8] at HE
    clear h8
    go_enter Try.func61, Try.ntmps61
    go_wp2
    go_ret
    exact ⟨ret_int HE.out.symm, Below.refl _ _⟩
  · have h2 : ¬ 8 < (n : Int) := by omega
    rw [if_neg h8] at HE
    clear h8
    cases r
    all_goals
      go_enter Try.func61, Try.ntmps61
      go_wp2_with (first
        | (go_at_call 76; (with_reducible refine HC.out.mono ?_); rintro e w1 ⟨rfl, hb⟩; have HB := Lib.hid hb; clear hb))
      go_ret
      exact ⟨ret_int HE.out.symm, HB.out⟩

/-! ### Touches -/
def keys (zs : List Cmdn) : List (List UInt8) := zs.map fun x => x.2.1

/-! ### Conflict -/
def bConf (xs ys : List Cmdn) : Bool := xs.any fun x => ys.any (conf x)
end Go.Proofs.Ytimkkelnakamkaa.Bat
