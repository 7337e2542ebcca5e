/- Lists of commands, of texts and of numbers in memory (layer 7, batch). Conditions: those in each statement. -/
import Derived.Test.YtomidcbpnaajeaaGreatCmdA
import Derived.Test.YtomidcbpnaajeaaGreatLay
import Derived.LoopTactic
import Derived.IntWalk
import Derived.Deep.QuietTactic
import Derived.BigQuiet
import Derived.Lib.SmallJoins
namespace Go.Proofs.YtomidcbpnaajeaaGreat.Bat
open Go.RowKit Cmd
set_option linter.unusedVariables false

/-! ### Commands, texts, numbers -/
abbrev Cmdn := Int × List UInt8 × Nat
def cval (x : Cmdn) : Value := .agg #[.int .i64 x.1, .string (str x.2.1), .float .f64 x.2.2]
def layC : Lay Cmdn := ⟨(0, [], 0), fun o j => o + j * 3, fun w b o x => w.cell? ⟨b, o, none⟩ = some (.int .i64 x.1) ∧ w.cell? ⟨b, o + 1, none⟩ = some (.string (str x.2.1)) ∧ w.cell? ⟨b, o + 2, none⟩ = some (.float .f64 x.2.2),
  fun {w w' b o x} hb h ⟨h0, h1, h2⟩ => ⟨(h.cell (p := ⟨b, o, none⟩) hb).trans h0, (h.cell (p := ⟨b, o + 1, none⟩) hb).trans h1, (h.cell (p := ⟨b, o + 2, none⟩) hb).trans h2⟩⟩
def layS : Lay (List UInt8) := ⟨[], fun o j => o + j, fun w b o x => w.cell? ⟨b, o, none⟩ = some (.string (str x)), fun {w w' b o x} hb h h0 => (h.cell (p := ⟨b, o, none⟩) hb).trans h0⟩
def layI : Lay Int := ⟨0, fun o j => o + j, fun w b o x => w.cell? ⟨b, o, none⟩ = some (.int .i64 x), fun {w w' b o x} hb h h0 => (h.cell (p := ⟨b, o, none⟩) hb).trans h0⟩
theorem cellS {w : World} {B off : Nat} {zs : List (List UInt8)} (h : layS.In w B off zs) {k : Nat} (hk : k < zs.length) {x : List UInt8} (hx : layS.at zs k = x) : w.cell? ⟨B, off + k, none⟩ = some (.string (str x)) := by
  subst hx; exact h.cell k hk
theorem cellI {w : World} {B off : Nat} {zs : List Int} (h : layI.In w B off zs) {k : Nat} (hk : k < zs.length) {x : Int} (hx : layI.at zs k = x) : w.cell? ⟨B, off + k, none⟩ = some (.int .i64 x) := by
  subst hx; exact h.cell k hk
theorem cellC {w : World} {B off : Nat} {zs : List Cmdn} (h : layC.In w B off zs) {k : Nat} (hk : k < zs.length) {c : Int} {s : List UInt8} {f : Nat} (hx : layC.at zs k = (c, s, f)) :
    w.cell? ⟨B, off + k * 3, none⟩ = some (.int .i64 c) ∧ w.cell? ⟨B, off + k * 3 + 1, none⟩ = some (.string (str s)) ∧ w.cell? ⟨B, off + k * 3 + 2, none⟩ = some (.float .f64 f) := by
  have := h.cell k hk
  rw [hx] at this; exact this
/-- Which commands' numbers and texts the walks can go on with. -/
def wfC (x : Cmdn) : Prop := x.2.2 < 18446744073709551616 ∧ x.2.1.length ≤ 140737488351232
def right (x : Cmdn) : Bool := cRight x.1 x.2.1 x.2.2
def wrt (x : Cmdn) : Bool := cWrites x.1 x.2.1 x.2.2
def conf (x y : Cmdn) : Bool := cConf x.1 x.2.1 x.2.2 y.1 y.2.1 y.2.2
def same (x y : Cmdn) : Bool := cSame x.1 x.2.1 x.2.2 y.1 y.2.1 y.2.2
end Go.Proofs.YtomidcbpnaajeaaGreat.Bat

/- What the document's In, SameTexts and SameInts give (layer 7, batch). Conditions: the lists lie in memory as their cells say. -/
namespace Go.Proofs.YtomidcbpnaajeaaGreat.Bat
open Go.RowKit Cmd
set_option linter.unusedVariables false



end Go.Proofs.YtomidcbpnaajeaaGreat.Bat

/- What a search with a predicate gives over a list of commands; and by it the program's Check, Touches and Conflict (layer 7, batch). Conditions: the list lies in memory as its cells say; numbers' words of 64 bits. -/
namespace Go.Proofs.YtomidcbpnaajeaaGreat.Bat
open Go.RowKit Cmd
set_option linter.unusedVariables false

/-- What is asked of a predicate: of each command of the list, in whatever world in which all that lay lies. -/
def PredOn (g : Nat) (lb : Array Value) (p : Cmdn → Bool) (zs : List Cmdn) (w : World) : Prop :=
  ∀ (W : World) (x : Cmdn), x ∈ zs → Below w.heap.size w W → Calls Tryz.prog g (#[cval x] ++ lb) W (RetBelow (.bool (p x)) W)
theorem callAt {g : Nat} {lb : Array Value} {p : Cmdn → Bool} {zs : List Cmdn} {w : World} (h : PredOn g lb p zs w) {W : World} {c : Int} {s : List UInt8} {f : Nat} (hx : (c, s, f) ∈ zs) (hb : Below w.heap.size w W) :
    Calls Tryz.prog g (#[.agg #[.int .i64 c, .string (str s), .float .f64 f]] ++ lb) W (RetBelow (.bool (p (c, s, f))) W) := h W (c, s, f) hx hb
def GivesIdx (b : Bool) (w : World) (e : Ending) (w' : World) : Prop := ∃ r : Int, e = .returned (.int .i64 r) ∧ decide (0 ≤ r) = b ∧ Below w.heap.size w w'

/-- The functions that are handed over. -/
def OneOf (g : Nat) : Prop :=
  g = 101 ∨
  False

set_option maxHeartbeats 4000000 in
theorem index_any (v : Value) (zs : List Cmdn) (g : Nat) (lb : Array Value) (p : Cmdn → Bool) (w : World) (h : layC.Row w v zs) (hg : OneOf g) (hp : PredOn g lb p zs w) :
    Calls Tryz.prog 117 #[v, .func (.func g) #[] lb] w (GivesIdx (zs.any p) w) := by
  obtain ⟨a, cap, rfl, h1, hd⟩ := h.parts
  obtain ⟨n, hn⟩ : ∃ n, n = zs.length := ⟨_, rfl⟩
  rw [← hn] at h1 hd ⊢
  have HZ := Lib.hid hn
  clear h hn
  have HT : Hid (∀ j, j < n → p (layC.at zs j) = true → zs.any p = true) := Lib.hid fun j hj h => List.any_eq_true.2 ⟨_, layC.at_mem (by rw [← HZ.out]; exact hj), h⟩
  have HF : Hid ((∀ j, j < n → p (layC.at zs j) = false) → zs.any p = false) := Lib.hid fun h => by
    rw [List.any_eq_false]
    intro x hx
    obtain ⟨j, hj, rfl⟩ := (Lay.mem (L := layC)).1 hx
    rw [h j (by rw [HZ.out]; exact hj)]; decide
  have HP := Lib.hid hp
  generalize zs.any p = r at HT HF
  clear hp
  rcases hg with
    rfl |
    hf
  all_goals try exact hf.elim
  all_goals
    go_enter Tryz.func117, Tryz.ntmps117
    go_wp2
    go_loopw [8] (fun i wr => ∃ k : Nat, k ≤ n ∧ i = .int .i64 k ∧ Hid (Below w.heap.size w wr) ∧ Hid (∀ j, j < k → p (layC.at zs j) = false)) (fun i _ => n - (intOf i).toNat)
    case atStart => exact ⟨0, Nat.zero_le _, rfl, Lib.hid (Below.refl _ _), Lib.hid fun j hj => absurd hj (Nat.not_lt_zero _)⟩
    case round =>
      obtain ⟨k, hk, rfl, hbw, hno⟩ := hrel
      by_cases hkn : k < n
      · obtain ⟨B, off, rfl, HC⟩ := hd.resolve_left (by omega)
        obtain ⟨c, s, f, hx⟩ : ∃ c s f, layC.at zs k = (c, s, f) := ⟨_, _, _, rfl⟩
        obtain ⟨c0, c1, c2⟩ := cellC (HC.out.on hbw.out) (by rw [← HZ.out]; exact hkn) hx
        have hcall := callAt HP.out (W := wr) (c := c) (s := s) (f := f) (by rw [← hx]; exact layC.at_mem (by rw [← HZ.out]; exact hkn)) hbw.out
        have HX := Lib.hid hx
        have k0 : (0 : Int) ≤ k := by omega
        have kn : (k : Int) < n := by omega
        clear hx hd
        cases hq : p (c, s, f) with
        | true =>
          rw [hq] at hcall
          have HR : Hid (r = true) := Lib.hid (HT.out k hkn (by rw [HX.out]; exact hq))
          have HQ := Lib.hid hcall
          clear hq hcall
          go_wp2_with (first
            | (go_at_call 101; (with_reducible refine HQ.out.mono ?_); rintro e w1 ⟨rfl, hb⟩; have HB := Lib.hid hb; clear hb)
            | fail)
          go_ret
          exact ⟨_, rfl, by rw [HR.out]; exact decide_eq_true k0, hbw.out.trans (HB.out.mono hbw.out.size)⟩
        | false =>
          rw [hq] at hcall
          have HR : Hid (p (layC.at zs k) = false) := Lib.hid (by rw [HX.out]; exact hq)
          have HQ := Lib.hid hcall
          clear hq hcall
          go_wp2_with (first
            | (go_at_call 101; (with_reducible refine HQ.out.mono ?_); rintro e w1 ⟨rfl, hb⟩; have HB := Lib.hid hb; clear hb)
            | fail)
          go_roundw
          case rel => exact ⟨k + 1, by omega, by go_num, Lib.hid (hbw.out.trans (HB.out.mono hbw.out.size)), Lib.hid fun j hj => by
            by_cases e : j = k
            · rw [e]; exact HR.out
            · exact hno.out j (by omega)⟩
          case measure => simp [intOf]; omega
      · have kn : ¬ (k : Int) < n := by omega
        obtain rfl : k = n := by omega
        clear hd
        go_wp2
        go_ret
        exact ⟨_, rfl, by rw [HF.out hno.out]; decide, hbw.out⟩

theorem contains_any (v : Value) (zs : List Cmdn) (g : Nat) (lb : Array Value) (p : Cmdn → Bool) (w : World) (h : layC.Row w v zs) (hg : OneOf g) (hp : PredOn g lb p zs w) :
    Calls Tryz.prog 100 #[v, .func (.func g) #[] lb] w (RetBelow (.bool (zs.any p)) w) := by
  have HI := Lib.hid (index_any v zs g lb p w h hg hp)
  generalize zs.any p = r at HI
  clear h hp hg
  go_enter Tryz.func100, Tryz.ntmps100
  go_wp2_with (go_at_call 117; (with_reducible refine HI.out.mono ?_); rintro e w1 ⟨x, rfl, hx, hb⟩; have HX := Lib.hid hx; have HB := Lib.hid hb; clear hx hb)
  go_ret
  exact ⟨ret_bool HX.out, HB.out⟩

/-! ### Check -/
theorem checkfn (c : Int) (s : List UInt8) (f : Nat) (w : World) (hf : f < 18446744073709551616) : Calls Tryz.prog 101 #[.agg #[.int .i64 c, .string (str s), .float .f64 f]] w (RetBelow (.bool (!cRight c s f)) w) := by
  have HB := Lib.hid (Boxed.start w c s f)
  have HC := Lib.hid (fun w => check_any c s f w hf)
  clear hf
  rcases err_cases c s f with ⟨h1, h2⟩ | ⟨h1, h2⟩
  all_goals
    rw [h1]; rw [h2] at HC; clear h1 h2
    go_enter Tryz.func101, Tryz.ntmps101
    go_wp2_with (first
      | (go_at_call 74; (with_reducible refine (HC.out _).mono ?_); rintro e w1 ⟨rfl, hb⟩; have HB1 := Lib.hid (HB.out.on hb); clear hb))
    go_ret
    exact ⟨rfl, HB1.out.below⟩

def bErr (zs : List Cmdn) : Int := if 8 < zs.length then 5 else if (zs.any fun x => !right x) = true then 12 else 0
theorem bcheck_any (v : Value) (zs : List Cmdn) (w : World) (h : layC.Row w v zs) (hw : ∀ x ∈ zs, wfC x) : Calls Tryz.prog 82 #[v] w (RetBelow (.int .i64 (bErr zs)) w) := by
  have HC : Hid (Calls Tryz.prog 100 #[v, .func (.func 101) #[] #[]] w (RetBelow (.bool (zs.any fun x => !right x)) w)) :=
    Lib.hid (contains_any v zs _ #[] (fun x => !right x) w h (by unfold OneOf; decide) fun W x hx hb => checkfn x.1 x.2.1 x.2.2 W (hw x hx).1)
  have HE : Hid (bErr zs = if 8 < zs.length then 5 else if (zs.any fun x => !right x) = true then 12 else 0) := Lib.hid rfl
  obtain ⟨p, cap, rfl, h1, -⟩ := h.parts
  generalize (zs.any fun x => !right x) = r at HC HE
  obtain ⟨n, hn⟩ : ∃ n, n = zs.length := ⟨_, rfl⟩
  rw [← hn] at h1 HC HE ⊢
  clear h hw hn
  by_cases h8 : 8 < n
  · have h2 : 8 < (n : Int) := by omega
    rw [if_pos h8] at HE
    clear h8
    go_enter Tryz.func82, Tryz.ntmps82
    go_wp2
    go_ret
    exact ⟨ret_int HE.out.symm, Below.refl _ _⟩
  · have h2 : ¬ 8 < (n : Int) := by omega
    rw [if_neg h8] at HE
    clear h8
    cases r
    all_goals
      go_enter Tryz.func82, Tryz.ntmps82
      go_wp2_with (first
        | (go_at_call 100; (with_reducible refine HC.out.mono ?_); rintro e w1 ⟨rfl, hb⟩; have HB := Lib.hid hb; clear hb))
      go_ret
      exact ⟨ret_int HE.out.symm, HB.out⟩

/-! ### Touches -/
def keys (zs : List Cmdn) : List (List UInt8) := zs.map fun x => x.2.1

/-! ### Conflict -/
def bConf (xs ys : List Cmdn) : Bool := xs.any fun x => ys.any (conf x)
end Go.Proofs.YtomidcbpnaajeaaGreat.Bat

/- What the document's Check, Conflict and Same give over lists of commands, and the program's Same (layer 7, batch). Conditions: the lists lie in memory as their cells say; numbers' words of 64 bits; texts of a length that Go reads. -/

namespace Go.Proofs.YtomidcbpnaajeaaGreat.Bat
open Go.RowKit Cmd
set_option linter.unusedVariables false

/-- A float is one cell: a store of it. -/
@[go_sem] theorem run_store_float {P : Program} {w : World} {m : Mode} (a : Addr) (k : FloatKind) (b : Nat) : (store a (.float k b) m).run P w = stored P w a (.float k b) m := run_store P w a _ m rfl
theorem wf_len {c : Int} {s : List UInt8} {f : Nat} (h : wfC (c, s, f)) : (s.length : Int) ≤ 9223372036854775807 := by have := h.2; simp at this; omega
theorem wf_at {zs : List Cmdn} (h : ∀ x ∈ zs, wfC x) {k : Nat} (hk : k < zs.length) {c : Int} {s : List UInt8} {f : Nat} (hx : layC.at zs k = (c, s, f)) : wfC (c, s, f) := hx ▸ h _ (layC.at_mem hk)

set_option maxHeartbeats 1000000 in
theorem refcheck_any (v : Value) (zs : List Cmdn) (w : World) (h : layC.Row w v zs) (hw : ∀ x ∈ zs, wfC x) : Calls Tryz.prog 41 #[v] w (RetBelow (.int .i64 (bErr zs)) w) := by
  obtain ⟨p, cap, rfl, h1, hd⟩ := h.parts
  obtain ⟨n, hn⟩ : ∃ n, n = zs.length := ⟨_, rfl⟩
  have HE : Hid (bErr zs = if 8 < zs.length then 5 else if (zs.any fun x => !right x) = true then 12 else 0) := Lib.hid rfl
  rw [← hn] at h1 hd HE ⊢
  have HZ := Lib.hid hn
  have HW := Lib.hid hw
  clear h hn hw
  by_cases h8 : 8 < n
  · have h2 : 8 < (n : Int) := by omega
    rw [if_pos h8] at HE
    clear h8 hd
    go_enter Tryz.func41, Tryz.ntmps41
    go_wp2
    go_ret
    exact ⟨ret_int HE.out.symm, Below.refl _ _⟩
  · have h2 : ¬ 8 < (n : Int) := by omega
    rw [if_neg h8] at HE
    have HT : Hid (∀ j, j < n → right (layC.at zs j) = false → (zs.any fun x => !right x) = true) := Lib.hid fun j hj h => List.any_eq_true.2 ⟨_, layC.at_mem (by rw [← HZ.out]; exact hj), by rw [h]; rfl⟩
    have HF : Hid ((∀ j, j < n → right (layC.at zs j) = true) → (zs.any fun x => !right x) = false) := Lib.hid fun h => by
      rw [List.any_eq_false]
      intro x hx
      obtain ⟨j, hj, rfl⟩ := (Lay.mem (L := layC)).1 hx
      rw [h j (by rw [HZ.out]; exact hj)]; decide
    generalize (zs.any fun x => !right x) = r at HE HT HF
    clear h8
    go_enter Tryz.func41, Tryz.ntmps41
    go_wp2
    go_loopw [3] (fun i wr => ∃ k : Nat, k ≤ n ∧ i = .int .i64 k ∧ Hid (Below w.heap.size w wr) ∧ Hid (∀ j, j < k → right (layC.at zs j) = true)) (fun i _ => n - (intOf i).toNat)
    case atStart => exact ⟨0, Nat.zero_le _, rfl, Lib.hid (Below.refl _ _), Lib.hid fun j hj => absurd hj (Nat.not_lt_zero _)⟩
    case round =>
      obtain ⟨k, hk, rfl, hbw, hno⟩ := hrel
      by_cases hkn : k < n
      · obtain ⟨B, off, rfl, HC⟩ := hd.resolve_left (by omega)
        have hkz : k < zs.length := by rw [← HZ.out]; exact hkn
        obtain ⟨c, s, f, hx⟩ : ∃ c s f, layC.at zs k = (c, s, f) := ⟨_, _, _, rfl⟩
        obtain ⟨c0, c1, c2⟩ := cellC (HC.out.on hbw.out) hkz hx
        have hwx := wf_at HW.out hkz hx
        have HR := Lib.hid (fun w => right_any c s f w hwx.1 (wf_len hwx))
        have hrx : right (layC.at zs k) = cRight c s f := by rw [hx]; rfl
        have HX := Lib.hid hrx
        have k0 : (0 : Int) ≤ k := by omega
        have kn : (k : Int) < n := by omega
        clear hx hd hrx hwx hkz
        generalize cRight c s f = q at HR HX
        cases q with
        | true =>
          go_wp2_with (go_at_call 32; (with_reducible refine (HR.out _).mono ?_); rintro e w1 ⟨rfl, hb⟩; have HB := Lib.hid hb; clear hb)
          go_roundw
          case rel => exact ⟨k + 1, by omega, by go_num, Lib.hid (hbw.out.trans (HB.out.mono hbw.out.size)), Lib.hid fun j hj => by
            by_cases e : j = k
            · rw [e]; exact HX.out
            · exact hno.out j (by omega)⟩
          case measure => simp [intOf]; omega
        | false =>
          have HR2 : Hid (r = true) := Lib.hid (HT.out k hkn HX.out)
          go_wp2_with (go_at_call 32; (with_reducible refine (HR.out _).mono ?_); rintro e w1 ⟨rfl, hb⟩; have HB := Lib.hid hb; clear hb)
          go_ret
          exact ⟨ret_int (by rw [HE.out, HR2.out]; rfl), hbw.out.trans (HB.out.mono hbw.out.size)⟩
      · have kn : ¬ (k : Int) < n := by omega
        obtain rfl : k = n := by omega
        clear hd
        have HR2 : Hid (r = false) := Lib.hid (HF.out hno.out)
        go_wp2
        go_ret
        exact ⟨ret_int (by rw [HE.out, HR2.out]; rfl), hbw.out⟩

/-! ### Same -/
def bSame (xs ys : List Cmdn) : Bool := decide (xs.length = ys.length) && (List.range xs.length).all fun j => same (layC.at xs j) (layC.at ys j)
theorem bsame_len {xs ys : List Cmdn} (h : xs.length ≠ ys.length) : bSame xs ys = false := by unfold bSame; rw [decide_eq_false h]; rfl
theorem bsame_no {xs ys : List Cmdn} {k : Nat} (hk : k < xs.length) (h : same (layC.at xs k) (layC.at ys k) = false) : bSame xs ys = false := by
  unfold bSame
  rw [Bool.and_eq_false_iff]; right
  rw [List.all_eq_false]
  exact ⟨k, List.mem_range.2 hk, by rw [h]; decide⟩
theorem bsame_yes {xs ys : List Cmdn} (hl : xs.length = ys.length) (h : ∀ j, j < xs.length → same (layC.at xs j) (layC.at ys j) = true) : bSame xs ys = true := by
  unfold bSame
  rw [decide_eq_true hl, Bool.true_and, List.all_eq_true]
  exact fun j hj => h j (List.mem_range.1 hj)

theorem pairC {w : World} {B off B' off' : Nat} {xs ys : List Cmdn} (h : layC.In w B off xs) (h' : layC.In w B' off' ys) {j k : Nat} (hj : j < xs.length) (hk : k < ys.length) {c : Int} {s : List UInt8} {f : Nat} {c' : Int} {s' : List UInt8} {f' : Nat} (hx : layC.at xs j = (c, s, f)) (hy : layC.at ys k = (c', s', f')) {W : World} (hb : Below w.heap.size w W) :
    W.cell? ⟨B, off + j * 3, none⟩ = some (.int .i64 c) ∧ W.cell? ⟨B, off + j * 3 + 1, none⟩ = some (.string (str s)) ∧ W.cell? ⟨B, off + j * 3 + 2, none⟩ = some (.float .f64 f) ∧ W.cell? ⟨B', off' + k * 3, none⟩ = some (.int .i64 c') ∧ W.cell? ⟨B', off' + k * 3 + 1, none⟩ = some (.string (str s')) ∧ W.cell? ⟨B', off' + k * 3 + 2, none⟩ = some (.float .f64 f') := by
  obtain ⟨a0, a1, a2⟩ := cellC (h.on hb) hj hx
  obtain ⟨b0, b1, b2⟩ := cellC (h'.on hb) hk hy
  exact ⟨a0, a1, a2, b0, b1, b2⟩

set_option maxHeartbeats 2000000 in
theorem refbsame_any (v u : Value) (xs ys : List Cmdn) (w : World) (h : layC.Row w v xs) (g : layC.Row w u ys) (hx : ∀ x ∈ xs, wfC x) (hy : ∀ x ∈ ys, wfC x) : Calls Tryz.prog 38 #[v, u] w (RetBelow (.bool (bSame xs ys)) w) := by
  obtain ⟨p, cap, rfl, h1, hd⟩ := h.parts
  obtain ⟨q, cap', rfl, g1, hd'⟩ := g.parts
  obtain ⟨n, hn⟩ : ∃ n, n = xs.length := ⟨_, rfl⟩
  obtain ⟨m, hm⟩ : ∃ m, m = ys.length := ⟨_, rfl⟩
  rw [← hn] at h1 hd ⊢
  rw [← hm] at g1 hd' ⊢
  clear h g
  by_cases hnm : n = m
  · subst hnm
    have HN := Lib.hid hn
    have HM := Lib.hid hm
    have HWX := Lib.hid hx
    have HWY := Lib.hid hy
    have HE : Hid ((∀ j, j < n → same (layC.at xs j) (layC.at ys j) = true) → bSame xs ys = true) := Lib.hid fun h => bsame_yes (by rw [← hn, ← hm]) fun j hj => h j (by rw [hn]; exact hj)
    have HF : Hid (∀ j, j < n → same (layC.at xs j) (layC.at ys j) = false → bSame xs ys = false) := Lib.hid fun j hj h => bsame_no (by rw [← hn]; exact hj) h
    generalize bSame xs ys = r at HE HF
    have hnn : ((n : Int) != (n : Int)) = false := by simp
    clear hn hm hx hy
    go_enter Tryz.func38, Tryz.ntmps38
    go_wp2
    go_loopw [5] (fun i wr => ∃ k : Nat, k ≤ n ∧ i = .int .i64 k ∧ Hid (Below w.heap.size w wr) ∧ Hid (∀ j, j < k → same (layC.at xs j) (layC.at ys j) = true)) (fun i _ => n - (intOf i).toNat)
    case atStart => exact ⟨0, Nat.zero_le _, rfl, Lib.hid (Below.refl _ _), Lib.hid fun j hj => absurd hj (Nat.not_lt_zero _)⟩
    case round =>
      obtain ⟨k, hk, rfl, hbw, hno⟩ := hrel
      by_cases hkn : k < n
      · obtain ⟨B, off, rfl, HC⟩ := hd.resolve_left (by omega)
        obtain ⟨B', off', rfl, HC'⟩ := hd'.resolve_left (by omega)
        have hkx : k < xs.length := by rw [← HN.out]; exact hkn
        have hky : k < ys.length := by rw [← HM.out]; exact hkn
        obtain ⟨c, s, f, hx⟩ : ∃ c s f, layC.at xs k = (c, s, f) := ⟨_, _, _, rfl⟩
        obtain ⟨c', s', f', hy⟩ : ∃ c s f, layC.at ys k = (c, s, f) := ⟨_, _, _, rfl⟩
        obtain ⟨c0, c1, c2⟩ := cellC (HC.out.on hbw.out) hkx hx
        obtain ⟨d0, d1, d2⟩ := cellC (HC'.out.on hbw.out) hky hy
        have hwx := wf_at HWX.out hkx hx
        have hwy := wf_at HWY.out hky hy
        have HR := Lib.hid (fun w => refsame_c c s f c' s' f' w hwx.1 hwy.1)
        have HX : Hid (same (layC.at xs k) (layC.at ys k) = cSame c s f c' s' f') := Lib.hid (by rw [hx, hy]; rfl)
        have HK := Lib.hid (fun W (hb : Below wr.heap.size wr W) => pairC (HC.out.on hbw.out) (HC'.out.on hbw.out) hkx hky hx hy hb)
        have HD := Lib.hid ((Below.refl wr.heap.size wr).drew)
        have k0 : (0 : Int) ≤ k := by omega
        have kn : (k : Int) < n := by omega
        clear hx hy hd hd' hwx hwy hkx hky
        generalize cSame c s f c' s' f' = z at HR HX
        cases z with
        | true =>
          go_wp2
          go_region_held3 (fun w' => w'.cell? ⟨B, off + k * 3, none⟩ = some (.int .i64 c) ∧ w'.cell? ⟨B, off + k * 3 + 1, none⟩ = some (.string (str s)) ∧ w'.cell? ⟨B, off + k * 3 + 2, none⟩ = some (.float .f64 f) ∧ w'.cell? ⟨B', off' + k * 3, none⟩ = some (.int .i64 c') ∧ w'.cell? ⟨B', off' + k * 3 + 1, none⟩ = some (.string (str s')) ∧ w'.cell? ⟨B', off' + k * 3 + 2, none⟩ = some (.float .f64 f'))
            (first
              | exact HK.out _ HB.out
              | exact HK.out _ HD.out
              | go_keep)
            (first
              | (go_at_call 58; (with_reducible refine (HR.out _).mono ?_); rintro e w1 ⟨rfl, hb⟩; have HB := Lib.hid (HD.out.trans hb); clear hb))
          go_wp2
          go_roundw
          case rel => exact ⟨k + 1, by omega, by go_num, Lib.hid (hbw.out.trans (HB.out.mono hbw.out.size)), Lib.hid fun j hj => by
            by_cases e : j = k
            · rw [e]; exact HX.out
            · exact hno.out j (by omega)⟩
          case measure => simp [intOf]; omega
        | false =>
          have HR2 : Hid (r = false) := Lib.hid (HF.out k hkn HX.out)
          go_wp2
          go_region_held3 (fun w' => w'.cell? ⟨B, off + k * 3, none⟩ = some (.int .i64 c) ∧ w'.cell? ⟨B, off + k * 3 + 1, none⟩ = some (.string (str s)) ∧ w'.cell? ⟨B, off + k * 3 + 2, none⟩ = some (.float .f64 f) ∧ w'.cell? ⟨B', off' + k * 3, none⟩ = some (.int .i64 c') ∧ w'.cell? ⟨B', off' + k * 3 + 1, none⟩ = some (.string (str s')) ∧ w'.cell? ⟨B', off' + k * 3 + 2, none⟩ = some (.float .f64 f'))
            (first
              | exact HK.out _ HB.out
              | exact HK.out _ HD.out
              | go_keep)
            (first
              | (go_at_call 58; (with_reducible refine (HR.out _).mono ?_); rintro e w1 ⟨rfl, hb⟩; have HB := Lib.hid (HD.out.trans hb); clear hb))
          go_wp2
          go_ret
          exact ⟨ret_bool HR2.out.symm, hbw.out.trans (HB.out.mono hbw.out.size)⟩
      · have kn : ¬ (k : Int) < n := by omega
        obtain rfl : k = n := by omega
        clear hd hd'
        go_wp2
        go_ret
        exact ⟨ret_bool (HE.out hno.out).symm, hbw.out⟩
  · have h2 : ((n : Int) != (m : Int)) = true := by rw [bne_iff_ne]; omega
    have h3 : (n : Int) ≠ m := by omega
    have HX : Hid (bSame xs ys = false) := Lib.hid (bsame_len fun e => hnm (by rw [hn, hm, e]))
    clear hn hm hnm hd hd'
    go_enter Tryz.func38, Tryz.ntmps38
    go_wp2
    go_ret
    exact ⟨ret_bool HX.out.symm, Below.refl _ _⟩

end Go.Proofs.YtomidcbpnaajeaaGreat.Bat
