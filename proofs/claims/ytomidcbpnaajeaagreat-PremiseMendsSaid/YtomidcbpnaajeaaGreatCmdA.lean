/- Plain facts on commands (layer 6, cmd): which may be. No condition but those in each statement. -/
import Derived.Test.YtomidcbpnaajeaaGreatChecked
import Derived.Test.YtomidcbpnaajeaaGreatBase
import Derived.Lib.SliceRun
import Derived.Laws.StructEq
import Derived.Laws.ResultCell
import Derived.Deep.RegionHeld3
import Derived.Deep.DrawnRows
import Derived.KernelRfl
import Derived.Test.YtomidcbpnaajeaaGreatRealA
namespace Go.Proofs.YtomidcbpnaajeaaGreat.Cmd

/-- A key's bytes; a key; which number a kind may have; a command that may be. -/
def keyByte (c : UInt8) : Bool := decide (97 ≤ c.toNat ∧ c.toNat ≤ 122) || decide (48 ≤ c.toNat ∧ c.toNat ≤ 57)
def isKeyL (s : List UInt8) : Bool := decide (1 ≤ s.length ∧ s.length ≤ 12) && s.all keyByte
def mayV (k : Int) (v : Nat) : Bool := decide (k = 2 ∨ k = 4 ∨ ((k = 1 ∨ k = 3) ∧ v = 0))
def cRight (k : Int) (s : List UInt8) (v : Nat) : Bool := isKeyL s && mayV k v
theorem right_parts {k : Int} {s : List UInt8} {v : Nat} (h : cRight k s v = true) : isKeyL s = true ∧ mayV k v = true := by
  unfold cRight at h; rwa [Bool.and_eq_true] at h
theorem key_parts {s : List UInt8} (h : isKeyL s = true) : 1 ≤ s.length ∧ s.length ≤ 12 ∧ ∀ c ∈ s, keyByte c = true := by
  unfold isKeyL at h
  rw [Bool.and_eq_true, decide_eq_true_eq, List.all_eq_true] at h
  exact ⟨h.1.1, h.1.2, h.2⟩
theorem kb_no_blank {c : UInt8} (h : keyByte c = true) : c.toNat ≠ 32 := by
  unfold keyByte at h
  rw [Bool.or_eq_true, decide_eq_true_eq, decide_eq_true_eq] at h
  omega
theorem kinds {k : Int} {v : Nat} (h : mayV k v = true) : (k = 1 ∧ v = 0) ∨ k = 2 ∨ (k = 3 ∧ v = 0) ∨ k = 4 := by
  unfold mayV at h; rw [decide_eq_true_eq] at h; omega
theorem may_num {k : Int} (v : Nat) (h : k = 2 ∨ k = 4) : mayV k v = true := by unfold mayV; rw [decide_eq_true_eq]; omega
end Go.Proofs.YtomidcbpnaajeaaGreat.Cmd

/- Commands in memory (layer 6, cmd): a box of the call's own. Conditions: those in each statement. -/
namespace Go.Proofs.YtomidcbpnaajeaaGreat.Cmd
open Go.RowKit Go.Lib
set_option linter.unusedVariables false

/-! ### Boxes -/
def cells (k : Int) (s : List UInt8) (v : Nat) : Obj := .cells #[.int .i64 k, .string (str s), .float .f64 v] 55
/-- A box at block g, and that w's blocks lie as they did. -/
structure Boxed (w : World) (g : Nat) (k : Int) (s : List UInt8) (v : Nat) (wr : World) : Prop where
  below : Below w.heap.size w wr
  own : w.heap.size ≤ g
  lt : g < wr.heap.size
  c0 : wr.cell? ⟨g, 0, none⟩ = some (.int .i64 k)
  c1 : wr.cell? ⟨g, 1, none⟩ = some (.string (str s))
  c2 : wr.cell? ⟨g, 2, none⟩ = some (.float .f64 v)
  f0 : wr.frozen? ⟨g, 0, none⟩ = false
  f1 : wr.frozen? ⟨g, 1, none⟩ = false
  f2 : wr.frozen? ⟨g, 2, none⟩ = false
theorem box_free (w : World) (k : Int) (s : List UInt8) (v : Nat) (j : Nat) : (w.alloc (cells k s v)).frozen? ⟨w.heap.size, j, none⟩ = false := by
  have h : (w.alloc (cells k s v)).heap[w.heap.size]? = some (.cells #[.int .i64 k, .string (str s), .float .f64 v] 55 (0, 0)) := heap_alloc_new w _
  unfold World.frozen?
  simp only [h]
  simp
theorem Boxed.start (w : World) (k : Int) (s : List UInt8) (v : Nat) : Boxed w w.heap.size k s v (w.alloc (cells k s v)) :=
  ⟨below_one _ _, Nat.le_refl _, by simp, by unfold cells; rw [World.cell?_alloc_mark]; rfl, by unfold cells; rw [World.cell?_alloc_mark]; rfl, by unfold cells; rw [World.cell?_alloc_mark]; rfl, box_free _ _ _ _ _, box_free _ _ _ _ _, box_free _ _ _ _ _⟩
theorem Boxed.on {w wr w' : World} {g : Nat} {k : Int} {s : List UInt8} {v : Nat} (h : Boxed w g k s v wr) (hb : Below wr.heap.size wr w') : Boxed w g k s v w' :=
  ⟨h.below.trans (hb.mono h.below.size), h.own, Nat.lt_of_lt_of_le h.lt hb.size, (hb.cell (p := ⟨g, 0, none⟩) h.lt).trans h.c0, (hb.cell (p := ⟨g, 1, none⟩) h.lt).trans h.c1, (hb.cell (p := ⟨g, 2, none⟩) h.lt).trans h.c2,
    (hb.frozen (p := ⟨g, 0, none⟩) h.lt).trans h.f0, (hb.frozen (p := ⟨g, 1, none⟩) h.lt).trans h.f1, (hb.frozen (p := ⟨g, 2, none⟩) h.lt).trans h.f2⟩
/-- Seen from an elder world. -/
theorem Boxed.from {a w wr : World} {g : Nat} {k : Int} {s : List UInt8} {v : Nat} (h : Boxed w g k s v wr) (hb : Below a.heap.size a w) : Boxed a g k s v wr :=
  ⟨hb.trans (h.below.mono hb.size), Nat.le_trans hb.size h.own, h.lt, h.c0, h.c1, h.c2, h.f0, h.f1, h.f2⟩
/-- The next box. -/
theorem Boxed.next {a w : World} (hb : Below a.heap.size a w) (k : Int) (s : List UInt8) (v : Nat) : Boxed a w.heap.size k s v (w.alloc (cells k s v)) := (Boxed.start w k s v).from hb
end Go.Proofs.YtomidcbpnaajeaaGreat.Cmd

/- What the small functions of layer 6 (cmd) and of the document's answer give, for any command: which may be, which write, which conflict, which are the same. Condition: a number's word of 64 bits. -/
namespace Go.Proofs.YtomidcbpnaajeaaGreat.Cmd
open Go.RowKit F64 Go.Lib
set_option linter.unusedVariables false

theorem all_step {l : List UInt8} {k : Nat} (h : ∀ j (h : j < l.length), j < k → keyByte l[j] = true) (hk : k < l.length) (hd : keyByte l[k] = true) : ∀ j (h : j < l.length), j < k + 1 → keyByte l[j] = true := fun j hj hjk => by
  by_cases e : j = k
  · subst e; exact hd
  · exact h j hj (by omega)
theorem all_end {l : List UInt8} (h : ∀ j (h : j < l.length), j < l.length → keyByte l[j] = true) : l.all keyByte = true := by
  rw [List.all_eq_true]
  intro c hc
  obtain ⟨j, hj, rfl⟩ := List.getElem_of_mem hc
  exact h j hj hj
theorem all_bad {l : List UInt8} {k : Nat} (hk : k < l.length) (hd : keyByte l[k] = false) : l.all keyByte = false := by
  cases h : l.all keyByte with
  | false => rfl
  | true =>
    rw [List.all_eq_true] at h
    rw [h _ (List.getElem_mem hk)] at hd; cases hd
theorem key_cases (c : UInt8) (d : Int) (h : d = (c.toNat : Nat)) : (keyByte c = true ∧ decide (97 ≤ d) = true ∧ decide (d ≤ 122) = true ∧ decide (48 ≤ d) = true ∧ decide (d ≤ 57) = false) ∨ (keyByte c = true ∧ decide (97 ≤ d) = false ∧ decide (d ≤ 122) = true ∧ decide (48 ≤ d) = true ∧ decide (d ≤ 57) = true)
    ∨ (keyByte c = false ∧ decide (97 ≤ d) = false ∧ decide (d ≤ 122) = true ∧ decide (48 ≤ d) = false ∧ decide (d ≤ 57) = true) ∨ (keyByte c = false ∧ decide (97 ≤ d) = false ∧ decide (d ≤ 122) = true ∧ decide (48 ≤ d) = true ∧ decide (d ≤ 57) = false)
    ∨ (keyByte c = false ∧ decide (97 ≤ d) = true ∧ decide (d ≤ 122) = false ∧ decide (48 ≤ d) = true ∧ decide (d ≤ 57) = false) := by
  unfold keyByte
  simp only [Bool.or_eq_true, Bool.or_eq_false_iff, decide_eq_true_eq, decide_eq_false_iff_not]
  omega

set_option maxHeartbeats 2000000 in
theorem iskey_any (l : List UInt8) (w : World) : Calls Tryz.prog 88 #[.string (str l)] w fun e w' => e = .returned (.bool (isKeyL l)) ∧ w = w' := by
  obtain ⟨n, hn⟩ : ∃ n, n = l.length := ⟨_, rfl⟩
  have hsz : (((str l).size : Nat) : Int) = n := by rw [str_size, hn]
  have HN := Lib.hid hn
  by_cases h1 : n < 1
  · have h2 : (n : Int) < 1 := by omega
    have hk : isKeyL l = false := by unfold isKeyL; rw [← hn]; simp; omega
    rw [hk]
    clear hn h1
    go_enter Tryz.func88, Tryz.ntmps88
    go_wp2
    go_ret
    exact ⟨rfl, rfl⟩
  · by_cases h12 : 12 < n
    · have h2 : (12 : Int) < n := by omega
      have hk : isKeyL l = false := by unfold isKeyL; rw [← hn]; simp; omega
      rw [hk]
      clear hn h1 h12
      go_enter Tryz.func88, Tryz.ntmps88
      go_wp2
      go_ret
      exact ⟨rfl, rfl⟩
    · have k1 : (1 : Int) ≤ n := by omega
      have k2 : (n : Int) ≤ 12 := by omega
      have hk : isKeyL l = l.all keyByte := by
        unfold isKeyL; rw [← hn, decide_eq_true (by omega : 1 ≤ n ∧ n ≤ 12), Bool.true_and]
      rw [hk]
      clear hn h1 h12 hk
      go_enter Tryz.func88, Tryz.ntmps88
      go_wp2
      go_loop [16] (fun i => ∃ k : Nat, k ≤ n ∧ i = .int .i64 k ∧ Hid (∀ j (h : j < l.length), j < k → keyByte l[j] = true)) (fun i => n - (RowKit.intOf i).toNat)
      case atStart => exact ⟨0, Nat.zero_le _, rfl, Lib.hid fun j _ h => absurd h (Nat.not_lt_zero _)⟩
      case round =>
        obtain ⟨k, hkn, rfl, HA⟩ := hrel
        by_cases hlt : k < n
        · have hll : k < l.length := by rw [← HN.out]; exact hlt
          have hx := idx_run l k hll
          have kl : (k : Int) < n := by omega
          have k0 : (0 : Int) ≤ k := by omega
          obtain ⟨d, hd⟩ : ∃ d : Int, d = ((l[k]).toNat : Nat) := ⟨_, rfl⟩
          have hc := key_cases l[k] d hd
          rw [← hd] at hx
          rcases hc with ⟨h1, h2, h3, h4, h5⟩ | ⟨h1, h2, h3, h4, h5⟩ | ⟨h1, h2, h3, h4, h5⟩ | ⟨h1, h2, h3, h4, h5⟩ | ⟨h1, h2, h3, h4, h5⟩
          · have HR := Lib.hid (all_step HA.out hll h1)
            clear hd h1 hll
            go_wp2
            go_round
            case rel => exact ⟨k + 1, by omega, by go_num, HR⟩
            case measure => simp [RowKit.intOf]; omega
          · have HR := Lib.hid (all_step HA.out hll h1)
            clear hd h1 hll
            go_wp2
            go_round
            case rel => exact ⟨k + 1, by omega, by go_num, HR⟩
            case measure => simp [RowKit.intOf]; omega
          all_goals
            have HB := Lib.hid (all_bad hll h1)
            clear hd h1 hll
            go_wp2
            go_ret
            exact ⟨ret_bool HB.out.symm, rfl⟩
        · have kl : (n : Int) ≤ k := by omega
          obtain rfl : k = n := by omega
          have HB : Hid (l.all keyByte = true) := Lib.hid (all_end fun j h1 h2 => HA.out j h1 (by rw [HN.out]; exact h2))
          go_wp2
          go_ret
          exact ⟨ret_bool HB.out.symm, rfl⟩

set_option maxHeartbeats 2000000 in
theorem refkey_any (l : List UInt8) (w : World) (hl : (l.length : Int) ≤ 9223372036854775807) : Calls Tryz.prog 53 #[.string (str l)] w fun e w' => e = .returned (.bool (isKeyL l)) ∧ w = w' := by
  obtain ⟨n, hn⟩ : ∃ n, n = l.length := ⟨_, rfl⟩
  have hsz : (((str l).size : Nat) : Int) = n := by rw [str_size, hn]
  have HN := Lib.hid hn
  have HE : Hid (l.all keyByte = true → isKeyL l = (decide ((1 : Int) ≤ n) && decide ((n : Int) ≤ 12))) := Lib.hid fun h => by
    unfold isKeyL; rw [← hn, h, Bool.and_true]
    rw [Bool.eq_iff_iff]; simp; omega
  have HF : Hid (l.all keyByte = false → isKeyL l = false) := Lib.hid fun h => by unfold isKeyL; rw [h, Bool.and_false]
  rw [← hn] at hl
  clear hn
  go_enter Tryz.func53, Tryz.ntmps53
  go_wp2
  go_loop [3] (fun i => ∃ k : Nat, k ≤ n ∧ i = .int .i64 k ∧ Hid (∀ j (h : j < l.length), j < k → keyByte l[j] = true)) (fun i => n - (RowKit.intOf i).toNat)
  case atStart => exact ⟨0, Nat.zero_le _, rfl, Lib.hid fun j _ h => absurd h (Nat.not_lt_zero _)⟩
  case round =>
    obtain ⟨k, hkn, rfl, HA⟩ := hrel
    by_cases hlt : k < n
    · have hll : k < l.length := by rw [← HN.out]; exact hlt
      have hx := idx_run l k hll
      have kl : (k : Int) < n := by omega
      have k0 : (0 : Int) ≤ k := by omega
      obtain ⟨d, hd⟩ : ∃ d : Int, d = ((l[k]).toNat : Nat) := ⟨_, rfl⟩
      have hc := key_cases l[k] d hd
      rw [← hd] at hx
      rcases hc with ⟨h1, h2, h3, h4, h5⟩ | ⟨h1, h2, h3, h4, h5⟩ | ⟨h1, h2, h3, h4, h5⟩ | ⟨h1, h2, h3, h4, h5⟩ | ⟨h1, h2, h3, h4, h5⟩
      · have HR := Lib.hid (all_step HA.out hll h1)
        clear hd h1 hll
        go_wp2
        go_round
        case rel => exact ⟨k + 1, by omega, by go_num, HR⟩
        case measure => simp [RowKit.intOf]; omega
      · have HR := Lib.hid (all_step HA.out hll h1)
        clear hd h1 hll
        go_wp2
        go_round
        case rel => exact ⟨k + 1, by omega, by go_num, HR⟩
        case measure => simp [RowKit.intOf]; omega
      all_goals
        have HB := Lib.hid (all_bad hll h1)
        clear hd h1 hll
        go_wp2
        go_ret
        exact ⟨ret_bool (HF.out HB.out).symm, rfl⟩
    · have kl : (n : Int) ≤ k := by omega
      obtain rfl : k = n := by omega
      have HB : Hid (l.all keyByte = true) := Lib.hid (all_end fun j h1 h2 => HA.out j h1 (by rw [HN.out]; exact h2))
      by_cases h1 : (1 : Int) ≤ k
      · by_cases h2 : (k : Int) ≤ 12
        · go_wp2
          go_ret
          exact ⟨ret_bool (by rw [HE.out HB.out, decide_eq_true h1, decide_eq_true h2]; rfl), rfl⟩
        · have h3 : 12 < (k : Int) := by omega
          go_wp2
          go_ret
          exact ⟨ret_bool (by rw [HE.out HB.out, decide_eq_false (by omega : ¬ (k : Int) ≤ 12), Bool.and_false]), rfl⟩
      · have h3 : (k : Int) < 1 := by omega
        go_wp2
        go_ret
        exact ⟨ret_bool (by rw [HE.out HB.out, decide_eq_false (by omega : ¬ (1 : Int) ≤ k)]; rfl), rfl⟩

/-! ### Which may be -/
theorem same_zero {v : Nat} (hv : v < 18446744073709551616) : same v 0 = decide (v = 0) := by
  unfold same
  have h0 : canon 0 = 0 := by decide
  rw [h0]
  unfold canon
  split
  · rename_i hn
    have : v ≠ 0 := fun e => by subst e; revert hn; decide
    simp [this]
  · rfl
theorem kind_zero {v : Nat} (hv : v < 18446744073709551616) : (kind v == 4) = decide (v = 0) := by
  rw [Bool.eq_iff_iff, beq_iff_eq, decide_eq_true_eq]
  constructor
  · intro h
    rcases kind_cases v with h1 | h1 | h1 | h1 | h1 | h1
    · rw [h1.1] at h; cases h
    · rw [h1.1] at h; cases h
    · rw [h1.1] at h; cases h
    · rw [h1.1] at h; cases h
    · exact word_eq hv (by decide) (h1.2.2.2.trans (by decide)) (h1.2.2.1.trans (by decide))
    · rcases h1.1 with e | e <;> rw [e] at h <;> cases h
  · rintro rfl; decide
theorem may_any (k : Int) (v : Nat) (w : World) (hv : v < 18446744073709551616) : Calls Tryz.prog 89 #[.int .i64 k, .float .f64 v] w fun e w' => e = .returned (.bool (mayV k v)) ∧ w = w' := by
  have HZ := Lib.hid (same_zero hv)
  clear hv
  have key : (k = 1 ∧ mayV k v = decide (v = 0)) ∨ (k = 3 ∧ mayV k v = decide (v = 0)) ∨ (k = 2 ∧ mayV k v = true) ∨ (k = 4 ∧ mayV k v = true) ∨ ((k == 1) = false ∧ (k == 3) = false ∧ (k == 2) = false ∧ (k == 4) = false ∧ mayV k v = false) := by
    unfold mayV
    simp only [beq_eq_false_iff_ne, decide_eq_true_eq, decide_eq_false_iff_not, decide_eq_decide]
    omega
  rcases key with ⟨rfl, hm⟩ | ⟨rfl, hm⟩ | ⟨rfl, hm⟩ | ⟨rfl, hm⟩ | ⟨h1, h3, h2, h4, hm⟩
  all_goals
    have HM := Lib.hid hm
    clear hm
    go_enter Tryz.func89, Tryz.ntmps89
    go_wp2_with (first
      | (go_at_call 111; (with_reducible refine (same_any _ _ _).mono ?_); rintro e w' ⟨rfl, rfl⟩))
    go_ret
    first
      | exact ⟨ret_bool (by rw [HM.out, HZ.out]), rfl⟩
      | exact ⟨ret_bool HM.out.symm, rfl⟩
end Go.Proofs.YtomidcbpnaajeaaGreat.Cmd

/- What Check, Writes, Conflict and Same of layer 6 (cmd) give, and the document's Right, Same and Conflict, for any commands. Condition: a number's word of 64 bits. -/
namespace Go.Proofs.YtomidcbpnaajeaaGreat.Cmd
open Go.RowKit F64 Go.Lib
set_option linter.unusedVariables false

def cErr (k : Int) (s : List UInt8) (v : Nat) : Int := if cRight k s v then 0 else 12
def cWrites (k : Int) (s : List UInt8) (v : Nat) : Bool := cRight k s v && decide (k ≠ 1)
def cConf (k : Int) (s : List UInt8) (v : Nat) (k' : Int) (s' : List UInt8) (v' : Nat) : Bool := cRight k s v && cRight k' s' v' && decide (s = s') && (decide (k ≠ 1) || decide (k' ≠ 1))
def cSame (k : Int) (s : List UInt8) (v : Nat) (k' : Int) (s' : List UInt8) (v' : Nat) : Bool := decide (k = k') && decide (s = s') && same v v'

theorem check_any (k : Int) (s : List UInt8) (v : Nat) (w : World) (hv : v < 18446744073709551616) : Calls Tryz.prog 74 #[.agg #[.int .i64 k, .string (str s), .float .f64 v]] w (RetBelow (.int .i64 (cErr k s v)) w) := by
  have HB := Lib.hid (Boxed.start w k s v)
  have HK := Lib.hid (iskey_any s)
  have HM := Lib.hid (fun w => may_any k v w hv)
  have HE : Hid (cErr k s v = if (isKeyL s && mayV k v) = true then 0 else 12) := Lib.hid rfl
  clear hv
  generalize isKeyL s = x at HK HE
  generalize mayV k v = y at HM HE
  cases x
  · go_enter Tryz.func74, Tryz.ntmps74
    go_wp2_with (first
      | (go_at_call 88; (with_reducible refine (HK.out _).mono ?_); rintro e w' ⟨rfl, rfl⟩))
    go_ret
    exact ⟨ret_int HE.out.symm, HB.out.below⟩
  · cases y
    all_goals
      go_enter Tryz.func74, Tryz.ntmps74
      go_wp2_with (first
        | (go_at_call 88; (with_reducible refine (HK.out _).mono ?_); rintro e w' ⟨rfl, rfl⟩)
        | (go_at_call 89; (with_reducible refine (HM.out _).mono ?_); rintro e w' ⟨rfl, rfl⟩))
      go_ret
      exact ⟨ret_int HE.out.symm, HB.out.below⟩

theorem right_any (k : Int) (s : List UInt8) (v : Nat) (w : World) (hv : v < 18446744073709551616) (hl : (s.length : Int) ≤ 9223372036854775807) : Calls Tryz.prog 32 #[.agg #[.int .i64 k, .string (str s), .float .f64 v]] w (RetBelow (.bool (cRight k s v)) w) := by
  have HB := Lib.hid (Boxed.start w k s v)
  have HK := Lib.hid (fun w => refkey_any s w hl)
  have HM := Lib.hid (fun w => ref_kind_any v w hv)
  have hz := kind_zero hv
  have HE : Hid (cRight k s v = (isKeyL s && mayV k v)) := Lib.hid rfl
  have key : (k = 1 ∧ mayV k v = decide (v = 0)) ∨ (k = 3 ∧ mayV k v = decide (v = 0)) ∨ (k = 2 ∧ mayV k v = true) ∨ (k = 4 ∧ mayV k v = true) ∨ ((k == 1) = false ∧ (k == 3) = false ∧ (k == 2) = false ∧ (k == 4) = false ∧ mayV k v = false) := by
    unfold mayV
    simp only [beq_eq_false_iff_ne, decide_eq_true_eq, decide_eq_false_iff_not, decide_eq_decide]
    omega
  clear hv hl
  generalize isKeyL s = x at HK HE
  generalize mayV k v = y at HE key
  cases x
  · clear key
    go_enter Tryz.func32, Tryz.ntmps32
    go_wp2_with (first
      | (go_at_call 53; (with_reducible refine (HK.out _).mono ?_); rintro e w' ⟨rfl, rfl⟩))
    go_ret
    exact ⟨ret_bool HE.out.symm, HB.out.below⟩
  · rcases key with ⟨rfl, hm⟩ | ⟨rfl, hm⟩ | ⟨rfl, hm⟩ | ⟨rfl, hm⟩ | ⟨h1, h3, h2, h4, hm⟩
    all_goals
      have HQ := Lib.hid hm
      clear hm
      go_enter Tryz.func32, Tryz.ntmps32
      go_wp2_with (first
        | (go_at_call 53; (with_reducible refine (HK.out _).mono ?_); rintro e w' ⟨rfl, rfl⟩)
        | (go_at_call 54; (with_reducible refine (HM.out _).mono ?_); rintro e w' ⟨rfl, rfl⟩))
      go_ret
      exact ⟨ret_bool (by rw [HE.out, HQ.out]; rfl), HB.out.below⟩

theorem err_cases (k : Int) (s : List UInt8) (v : Nat) : (cRight k s v = true ∧ cErr k s v = 0) ∨ (cRight k s v = false ∧ cErr k s v = 12) := by
  unfold cErr
  cases cRight k s v
  · exact .inr ⟨rfl, rfl⟩
  · exact .inl ⟨rfl, rfl⟩
theorem writes_any (k : Int) (s : List UInt8) (v : Nat) (w : World) (hv : v < 18446744073709551616) : Calls Tryz.prog 52 #[.agg #[.int .i64 k, .string (str s), .float .f64 v]] w (RetBelow (.bool (cWrites k s v)) w) := by
  have HB := Lib.hid (Boxed.start w k s v)
  have HC := Lib.hid (fun w => check_any k s v w hv)
  have HE : Hid (cWrites k s v = (cRight k s v && decide (k ≠ 1))) := Lib.hid rfl
  clear hv
  rcases err_cases k s v with ⟨h1, h2⟩ | ⟨h1, h2⟩
  · rw [h1] at HE; rw [h2] at HC; clear h1 h2
    have hk : k = 1 ∨ (k == 1) = false := by rw [beq_eq_false_iff_ne]; omega
    rcases hk with rfl | hk
    all_goals
      go_enter Tryz.func52, Tryz.ntmps52
      go_wp2_with (first
        | (go_at_call 74; (with_reducible refine (HC.out _).mono ?_); rintro e w1 ⟨rfl, hb⟩; have HB1 := Lib.hid (HB.out.on hb); clear hb; have q0 := HB1.out.c0))
      go_ret
      first
        | exact ⟨ret_bool (by rw [HE.out]; rfl), HB1.out.below⟩
        | exact ⟨ret_bool (by rw [HE.out]; rw [beq_eq_false_iff_ne] at hk; simp [hk]), HB1.out.below⟩
  · rw [h1] at HE; rw [h2] at HC; clear h1 h2
    go_enter Tryz.func52, Tryz.ntmps52
    go_wp2_with (first
      | (go_at_call 74; (with_reducible refine (HC.out _).mono ?_); rintro e w1 ⟨rfl, hb⟩; have HB1 := Lib.hid (HB.out.on hb); clear hb))
    go_ret
    exact ⟨ret_bool HE.out.symm, HB1.out.below⟩

/-- Two boxes of the call's own. -/
structure Two (w : World) (k : Int) (s : List UInt8) (v : Nat) (k' : Int) (s' : List UInt8) (v' : Nat) (W : World) : Prop where
  a : Boxed w w.heap.size k s v W
  b : Boxed w (w.heap.size + 1) k' s' v' W
theorem Two.start (w : World) (k : Int) (s : List UInt8) (v : Nat) (k' : Int) (s' : List UInt8) (v' : Nat) : Two w k s v k' s' v' ((w.alloc (cells k s v)).alloc (cells k' s' v')) := by
  have h1 := (Boxed.start w k s v).on (below_one _ (cells k' s' v'))
  have h2 := Boxed.next (below_one w (cells k s v)) k' s' v'
  have e : (w.alloc (cells k s v)).heap.size = w.heap.size + 1 := by simp
  rw [e] at h2
  exact ⟨h1, h2⟩
theorem Two.on {w W W' : World} {k k' : Int} {s s' : List UInt8} {v v' : Nat} (h : Two w k s v k' s' v' W) (hb : Below W.heap.size W W') : Two w k s v k' s' v' W' := ⟨h.a.on hb, h.b.on hb⟩


theorem str_dec (s s' : List UInt8) : ((str s).toList == (str s').toList) = decide (s = s') := by rw [str_beq, Bool.eq_iff_iff]; simp
theorem int_dec (k k' : Int) : (k == k') = decide (k = k') := by rw [Bool.eq_iff_iff]; simp
theorem refsame_c (k : Int) (s : List UInt8) (v : Nat) (k' : Int) (s' : List UInt8) (v' : Nat) (w : World) (hv : v < 18446744073709551616) (hv' : v' < 18446744073709551616) :
    Calls Tryz.prog 58 #[.agg #[.int .i64 k, .string (str s), .float .f64 v], .agg #[.int .i64 k', .string (str s'), .float .f64 v']] w (RetBelow (.bool (cSame k s v k' s' v')) w) := by
  have HT := Lib.hid (Two.start w k s v k' s' v')
  have HS := Lib.hid (fun w => ref_same_any v v' w hv hv')
  have HE : Hid (cSame k s v k' s' v' = (decide (k = k') && decide (s = s') && same v v')) := Lib.hid rfl
  have hk := int_dec k k'
  have he := str_dec s s'
  clear hv hv'
  generalize decide (k = k') = x at hk HE
  generalize decide (s = s') = y at he HE
  cases x <;> cases y
  all_goals
    go_enter Tryz.func58, Tryz.ntmps58
    go_wp2_with (first
      | (go_at_call 79; (with_reducible refine (HS.out _).mono ?_); rintro e w1 ⟨rfl, rfl⟩))
    go_ret
    exact ⟨ret_bool (by rw [HE.out]; rfl), HT.out.a.below⟩
def rConf (k : Int) (s : List UInt8) (k' : Int) (s' : List UInt8) : Bool := decide (s = s') && (decide (k ≠ 1) || decide (k' ≠ 1))
theorem refconf_any (k : Int) (s : List UInt8) (v : Nat) (k' : Int) (s' : List UInt8) (v' : Nat) (w : World) :
    Calls Tryz.prog 71 #[.agg #[.int .i64 k, .string (str s), .float .f64 v], .agg #[.int .i64 k', .string (str s'), .float .f64 v']] w (RetBelow (.bool (rConf k s k' s')) w) := by
  have HT := Lib.hid (Two.start w k s v k' s' v')
  have HE : Hid (rConf k s k' s' = (decide (s = s') && (!decide (k = 1) || !decide (k' = 1)))) := Lib.hid (by unfold rConf; rw [decide_not, decide_not])
  have he := str_dec s s'
  have h1 : (k = 1 ∧ decide (k = 1) = true) ∨ ((k ≠ 1 ∧ (k != 1) = true) ∧ decide (k = 1) = false) := by rw [bne_iff_ne, decide_eq_true_eq, decide_eq_false_iff_not]; omega
  have h2 : (k' = 1 ∧ decide (k' = 1) = true) ∨ ((k' ≠ 1 ∧ (k' != 1) = true) ∧ decide (k' = 1) = false) := by rw [bne_iff_ne, decide_eq_true_eq, decide_eq_false_iff_not]; omega
  generalize decide (s = s') = x at he HE
  generalize decide (k = 1) = y at h1 HE
  generalize decide (k' = 1) = z at h2 HE
  cases x <;> rcases h1 with ⟨rfl, rfl⟩ | ⟨⟨h1, h3⟩, rfl⟩ <;> rcases h2 with ⟨rfl, rfl⟩ | ⟨⟨h2, h4⟩, rfl⟩
  all_goals
    go_enter Tryz.func71, Tryz.ntmps71
    go_wp2
    go_ret
    exact ⟨ret_bool (by rw [HE.out]; rfl), HT.out.a.below⟩

end Go.Proofs.YtomidcbpnaajeaaGreat.Cmd
