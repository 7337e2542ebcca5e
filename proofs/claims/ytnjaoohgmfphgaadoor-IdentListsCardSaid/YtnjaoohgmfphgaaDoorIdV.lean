/- What the document's Text and Read give (layer 3, ident): an id's text; the id of any text of at most 1000 bytes, or that there is none. Conditions: those in each statement. -/
import Derived.Test.YtnjaoohgmfphgaaDoorIdU
import Derived.Deep.DeepFit
namespace Go.Proofs.YtnjaoohgmfphgaaDoor
open Go.RowKit Go.Lib
set_option linter.unusedVariables false

def GaveStr (l : List UInt8) (w : World) (e : Ending) (w' : World) : Prop := e = .returned (.string (str l)) ∧ Below w.heap.size w w'
set_option maxHeartbeats 1000000 in
set_option maxRecDepth 100000 in
theorem reftext_any (a b : Int) (w : World) (hr : idRight (a, b) = true) : Calls Tryd.prog 12 #[.agg #[.int .i64 a, .int .i64 b]] w (GaveStr (idText (a, b)) w) := by
  have hp := right_parts hr
  have hp1 : 0 ≤ a ∧ a < 8 ∧ 1 ≤ b ∧ b ≤ 1048576 := hp
  have D1 : Hid (∀ w, Calls Tryd.prog 23 #[.int .i64 a] w (DrewStr (itoa a) w)) := Lib.hid fun w => digits_any _ _ w (Nat.lt_succ_self _) (by omega) (by omega)
  have D2 : Hid (∀ w, Calls Tryd.prog 23 #[.int .i64 b] w (DrewStr (itoa b) w)) := Lib.hid fun w => digits_any _ _ w (Nat.lt_succ_self _) (by omega) (by omega)
  have l1 := (slot_len hp1.2.2.1 hp1.2.2.2).2
  have l0 : (itoa a).length = 1 := by rw [Dec.itoa_one hp1.1 (by omega)]; rfl
  have a1 : ∀ w, (Op.stringOp .add (str (itoa a)) ⟨#[46]⟩).run Tryd.prog w = .ok (.string (str (itoa a ++ [46]))) w := fun w => by
    rw [run_string_add_sum w _ _ (by rw [str_size]; show _ + 1 ≤ _; omega)]
    rw [← str_append]; rfl
  have a2 : ∀ w, (Op.stringOp .add (str (itoa a ++ [46])) (str (itoa b))).run Tryd.prog w = .ok (.string (str (idText (a, b)))) w := fun w => by
    rw [run_string_add_sum w _ _ (by rw [str_size, str_size, List.length_append]; show _ + 1 + _ ≤ _; omega)]
    rw [str_append, List.append_assoc]; rfl
  have HB := Lib.hid (Boxed.start w a b)
  clear hr hp hp1 l0 l1
  go_enter Tryd.func12, Tryd.ntmps12
  go_wp2
  go_region_held3 (fun w' => w'.cell? ⟨w.heap.size, 0, none⟩ = some (.int .i64 a) ∧ w'.cell? ⟨w.heap.size, 1, none⟩ = some (.int .i64 b))
    (first
      | exact ⟨HB.out.fst, HB.out.snd⟩
      | go_keep)
    (first
      | (go_at_call 23; (with_reducible refine (D1.out _).mono ?_); rintro e w1 ⟨rfl, q1, rfl⟩)
      | (go_at_call 23; (with_reducible refine (D2.out _).mono ?_); rintro e w2 ⟨rfl, q2, rfl⟩))
  go_wp2
  go_ret
  exact ⟨rfl, below_drN (below_one w (cells a b)) _⟩

/-! ### Read -/
theorem idx_run (l : List UInt8) (k : Nat) (hk : k < l.length) (w : World) : (Instr.index 9 (.string (str l)) (.int .i64 k)).run Tryd.prog w = .ok (.int .u8 ((l[k]).toNat : Int)) w := by
  rw [run_index_string w _ _ _ _ (by kernel_rfl), dif_pos (by rw [str_size]; omega)]
  rfl
def isDig (c : UInt8) : Prop := 48 ≤ c.toNat ∧ c.toNat ≤ 57
theorem spell_step (l : List UInt8) (k : Nat) (hk : k < l.length) (hd : isDig l[k]) (hb : Dec.spell 0 (l.take k) < 10 ^ k) : Dec.spell 0 (l.take (k + 1)) = 10 * Dec.spell 0 (l.take k) + (l[k].toNat - 48) ∧ Dec.spell 0 (l.take (k + 1)) < 10 ^ (k + 1) := by
  have e : l.take (k + 1) = l.take k ++ [l[k]] := by rw [List.take_succ_eq_append_getElem hk]
  rw [e, Dec.spell_snoc]
  refine ⟨rfl, ?_⟩
  rw [Nat.pow_succ]
  unfold isDig at hd
  omega
theorem text_form {y : Idn} {c0 c1 : UInt8} {r : List UInt8} (hy : idRight y = true) (e : idText y = c0 :: c1 :: r) : c1.toNat = 46 ∧ c0.toNat = 48 + y.1.toNat ∧ r = itoa y.2 ∧ 48 ≤ c0.toNat ∧ c0.toNat ≤ 55 := by
  have hp := right_parts hy
  rw [text_head hy] at e
  injection e with e1 e2
  injection e2 with e2 e3
  have h0 : c0.toNat = 48 + y.1.toNat := by rw [← e1]; exact Dec.dig_nat (by omega)
  exact ⟨by rw [← e2]; rfl, h0, e3.symm, by omega, by omega⟩

def HasNone (l : List UInt8) : Prop := ∀ y, idRight y = true → idText y ≠ l
def ReadOk (l : List UInt8) (x : Idn) (ok : Bool) : Prop := (ok = true ∧ idRight x = true ∧ idText x = l) ∨ (ok = false ∧ x = (0, 0) ∧ HasNone l)
def GivesRef (l : List UInt8) (w : World) (e : Ending) (w' : World) : Prop := ∃ (x : Idn) (ok : Bool), e = .returned (.tuple #[.agg #[.int .i64 x.1, .int .i64 x.2], .bool ok]) ∧ ReadOk l x ok ∧ Below w.heap.size w w'

set_option maxHeartbeats 1000000 in
set_option maxRecDepth 100000 in
/-- The ways that end ahead of the loop. -/
theorem ref_early (l : List UInt8) (w : World) (hn : HasNone l) (hl : (l.length : Int) ≤ 1000) (h : l.length < 3 ∨ ∃ (c0 c1 : UInt8) (r : List UInt8), l = c0 :: c1 :: r ∧ 3 ≤ l.length ∧ (c1.toNat ≠ 46 ∨ (c1.toNat = 46 ∧ (c0.toNat < 48 ∨ (48 ≤ c0.toNat ∧ (55 < c0.toNat ∨ (c0.toNat ≤ 55 ∧ 9 < l.length))))))) :
    Calls Tryd.prog 13 #[.string (str l)] w (GivesRef l w) := by
  have HN := Lib.hid hn
  have HB := Lib.hid (Boxed.start w 0 0)
  obtain ⟨L, hL⟩ : ∃ L : Int, L = (l.length : Nat) := ⟨_, rfl⟩
  have hsz : (((str l).size : Nat) : Int) = L := by rw [str_size, hL]
  have hL1 : L ≤ 1000 := by omega
  have done : ∀ {W : World}, W = w.alloc (cells 0 0) → GivesRef l w (.returned (.tuple #[.agg #[.int .i64 0, .int .i64 0], .bool false])) W := fun {W} e => ⟨(0, 0), false, rfl, .inr ⟨rfl, rfl, HN.out⟩, by rw [e]; exact below_one _ _⟩
  have HD : Hid (∀ W, W = w.alloc (cells 0 0) → GivesRef l w (.returned (.tuple #[.agg #[.int .i64 0, .int .i64 0], .bool false])) W) := Lib.hid fun W => @done W
  clear done hn
  rcases h with h | ⟨c0, c1, r, e, h3, h⟩
  · have h3 : L < 3 := by omega
    clear hL h hl
    go_enter Tryd.func13, Tryd.ntmps13
    go_wp2
    (try simp only [Exit.inBlock, Exit.then])
    refine bodyPost_ret (v := .tuple #[.agg #[.int .i64 0, .int .i64 0], .bool false]) ?_ rfl (HD.out _ rfl)
    exact ret_box rfl _ _ _ 0 0 _ rfl rfl HB.out.fst HB.out.snd
  · have h3 : ¬ L < 3 := by omega
    have i0 : ∀ w, (Instr.index 9 (.string (str l)) (.int .i64 0)).run Tryd.prog w = .ok (.int .u8 (c0.toNat : Int)) w := fun w => by subst e; exact idx_run (c0 :: c1 :: r) 0 (by simp) w
    have i1 : ∀ w, (Instr.index 9 (.string (str l)) (.int .i64 1)).run Tryd.prog w = .ok (.int .u8 (c1.toNat : Int)) w := fun w => by subst e; exact idx_run (c0 :: c1 :: r) 1 (by simp) w
    obtain ⟨y0, hy0⟩ : ∃ y : Int, y = (c0.toNat : Nat) := ⟨_, rfl⟩
    obtain ⟨y1, hy1⟩ : ∃ y : Int, y = (c1.toNat : Nat) := ⟨_, rfl⟩
    rw [← hy0] at i0
    rw [← hy1] at i1
    rcases h with h | ⟨ha, h | ⟨hb, h | ⟨hc, h⟩⟩⟩
    · have k1 : ¬ y1 = 46 := by omega
      clear hL e hy0 hy1 h hl
      go_enter Tryd.func13, Tryd.ntmps13
      go_wp2
      (try simp only [Exit.inBlock, Exit.then])
      refine bodyPost_ret (v := .tuple #[.agg #[.int .i64 0, .int .i64 0], .bool false]) ?_ rfl (HD.out _ rfl)
      exact ret_box rfl _ _ _ 0 0 _ rfl rfl HB.out.fst HB.out.snd
    · have k1 : y1 = 46 := by omega
      subst k1
      have k2 : y0 < 48 := by omega
      clear hL e hy0 hy1 h ha hl
      go_enter Tryd.func13, Tryd.ntmps13
      go_wp2
      (try simp only [Exit.inBlock, Exit.then])
      refine bodyPost_ret (v := .tuple #[.agg #[.int .i64 0, .int .i64 0], .bool false]) ?_ rfl (HD.out _ rfl)
      exact ret_box rfl _ _ _ 0 0 _ rfl rfl HB.out.fst HB.out.snd
    · have k1 : y1 = 46 := by omega
      subst k1
      have k2 : ¬ y0 < 48 := by omega
      have k3 : 55 < y0 := by omega
      clear hL e hy0 hy1 h ha hb hl
      go_enter Tryd.func13, Tryd.ntmps13
      go_wp2
      (try simp only [Exit.inBlock, Exit.then])
      refine bodyPost_ret (v := .tuple #[.agg #[.int .i64 0, .int .i64 0], .bool false]) ?_ rfl (HD.out _ rfl)
      exact ret_box rfl _ _ _ 0 0 _ rfl rfl HB.out.fst HB.out.snd
    · have k1 : y1 = 46 := by omega
      subst k1
      have k2 : ¬ y0 < 48 := by omega
      have k3 : ¬ 55 < y0 := by omega
      have k4 : 9 < L := by omega
      clear hL e hy0 hy1 h ha hb hc hl
      go_enter Tryd.func13, Tryd.ntmps13
      go_wp2
      (try simp only [Exit.inBlock, Exit.then])
      refine bodyPost_ret (v := .tuple #[.agg #[.int .i64 0, .int .i64 0], .bool false]) ?_ rfl (HD.out _ rfl)
      exact ret_box rfl _ _ _ 0 0 _ rfl rfl HB.out.fst HB.out.snd

theorem size_sc (w : World) (a : Addr) (v : Value) : (w.setCell a v).heap.size = w.heap.size := by simp [World.setCell]
/-- Two boxes of the call's own: the answer's, and the id that is read. -/
structure TwoBox (w : World) (rep s : Int) (W : World) : Prop where
  below : Below w.heap.size w W
  size : w.heap.size + 1 < W.heap.size
  a0 : W.cell? ⟨w.heap.size, 0, none⟩ = some (.int .i64 0)
  a1 : W.cell? ⟨w.heap.size, 1, none⟩ = some (.int .i64 0)
  f0 : W.frozen? ⟨w.heap.size, 0, none⟩ = false
  f1 : W.frozen? ⟨w.heap.size, 1, none⟩ = false
  b0 : W.cell? ⟨w.heap.size + 1, 0, none⟩ = some (.int .i64 rep)
  b1 : W.cell? ⟨w.heap.size + 1, 1, none⟩ = some (.int .i64 s)
  g1 : W.frozen? ⟨w.heap.size + 1, 1, none⟩ = false
theorem TwoBox.start (w : World) (rep s : Int) : TwoBox w rep s ((w.alloc (cells 0 0)).alloc (cells rep s)) := by
  have h1 := (Boxed.start w 0 0).on (below_one _ (cells rep s))
  have h2 := Boxed.start (w.alloc (cells 0 0)) rep s
  have e : (w.alloc (cells 0 0)).heap.size = w.heap.size + 1 := by simp
  have hb := h2.fst; have hc := h2.snd; have hd := h2.fr1; have hl := h2.lt
  rw [e] at hb hc hd hl
  exact ⟨h1.below, hl, h1.fst, h1.snd, h1.fr0, h1.fr1, hb, hc, hd⟩
theorem TwoBox.on {w W W' : World} {rep s : Int} (h : TwoBox w rep s W) (hb : Below W.heap.size W W') : TwoBox w rep s W' := by
  have l0 : w.heap.size < W.heap.size := by have := h.size; omega
  exact ⟨h.below.trans (hb.mono h.below.size), Nat.lt_of_lt_of_le h.size hb.size, (hb.cell (p := ⟨w.heap.size, 0, none⟩) l0).trans h.a0, (hb.cell (p := ⟨w.heap.size, 1, none⟩) l0).trans h.a1,
    (hb.frozen (p := ⟨w.heap.size, 0, none⟩) l0).trans h.f0, (hb.frozen (p := ⟨w.heap.size, 1, none⟩) l0).trans h.f1,
    (hb.cell (p := ⟨w.heap.size + 1, 0, none⟩) h.size).trans h.b0, (hb.cell (p := ⟨w.heap.size + 1, 1, none⟩) h.size).trans h.b1, (hb.frozen (p := ⟨w.heap.size + 1, 1, none⟩) h.size).trans h.g1⟩
theorem TwoBox.set {w W : World} {rep s : Int} (h : TwoBox w rep s W) (s' : Int) : TwoBox w rep s' (W.setCell ⟨w.heap.size + 1, 1, none⟩ (.int .i64 s')) := by
  have ne0 : ∀ (o : Nat), (⟨w.heap.size + 1, 1, none⟩ : Addr) ≠ ⟨w.heap.size, o, none⟩ := fun o e => by injection e with e _ _; omega
  refine ⟨h.below.setCell (p := ⟨w.heap.size + 1, 1, none⟩) (by show _ ≤ _ + 1; omega) _, by rw [size_sc]; exact h.size, ?_, ?_, ?_, ?_, ?_, ?_, ?_⟩
  · rw [World.cell?_setCell_other _ _ _ _ (ne0 0)]; exact h.a0
  · rw [World.cell?_setCell_other _ _ _ _ (ne0 1)]; exact h.a1
  · rw [World.frozen?_setCell]; exact h.f0
  · rw [World.frozen?_setCell]; exact h.f1
  · rw [World.cell?_setCell_other _ _ _ _ (by intro e; injection e with _ e _; omega)]; exact h.b0
  · rw [World.cell?_setCell_same _ _ _ h.b1]
  · rw [World.frozen?_setCell]; exact h.g1
theorem below_box2 {w W : World} (h : Below w.heap.size w W) (x y : Int) : Below w.heap.size w (box2 w W x y) :=
  (h.setCell (p := ⟨w.heap.size, 0, none⟩) (Nat.le_refl _) _).setCell (p := ⟨w.heap.size, 1, none⟩) (Nat.le_refl _) _

/-- What the loop has read. -/
structure SlotAt (r : List UInt8) (k : Nat) (s : Int) : Prop where
  is : s = ((Dec.spell 0 (r.take k) : Nat) : Int)
  lt : Dec.spell 0 (r.take k) < 10 ^ k
  dig : ∀ j (h : j < r.length), j < k → isDig r[j]
theorem SlotAt.start (r : List UInt8) : SlotAt r 0 0 := ⟨rfl, (by simp [Dec.spell]), fun j _ h => absurd h (Nat.not_lt_zero _)⟩
theorem SlotAt.step {r : List UInt8} {k : Nat} {s : Int} (h : SlotAt r k s) (hk : k < r.length) (hd : isDig r[k]) : SlotAt r (k + 1) (10 * s + ((r[k].toNat : Int) - 48)) := by
  have h1 := spell_step r k hk hd h.lt
  refine ⟨?_, h1.2, fun j hj hjk => ?_⟩
  · rw [h.is, h1.1]; unfold isDig at hd; omega
  · by_cases e : j = k
    · subst e; exact hd
    · exact h.dig j hj (by omega)
theorem SlotAt.small {r : List UInt8} {k : Nat} {s : Int} (h : SlotAt r k s) (hk : k ≤ 7) : 0 ≤ s ∧ s < 10000000 := by
  have h1 := h.lt
  have h2 : 10 ^ k ≤ 10 ^ 7 := Nat.pow_le_pow_right (by omega) hk
  have h3 : (10 : Nat) ^ 7 = 10000000 := by decide
  have := h.is
  omega
/-- An id whose text it is has just what was read. -/
theorem SlotAt.hit {c0 c1 : UInt8} {r : List UInt8} {s : Int} (h : SlotAt r r.length s) {y : Idn} (hy : idRight y = true) (e : idText y = c0 :: c1 :: r) : y = (((c0.toNat : Int) - 48), s) := by
  have hp := right_parts hy
  obtain ⟨-, h0, hr, -, -⟩ := text_form hy e
  have h1 := h.is
  rw [List.take_length, hr, spell_itoa (by omega)] at h1
  exact Prod.ext (by show y.1 = (c0.toNat : Int) - 48; omega) (by show y.2 = s; omega)
theorem no_dig {c0 c1 : UInt8} {r : List UInt8} {k : Nat} (hk : k < r.length) (hd : ¬ isDig r[k]) : HasNone (c0 :: c1 :: r) := fun y hy e => by
  have hp := right_parts hy
  obtain ⟨-, -, hr, -, -⟩ := text_form hy e
  exact hd (itoa_digits (n := y.2) (by omega) _ (by rw [← hr]; exact List.getElem_mem hk))

set_option maxHeartbeats 4000000 in
set_option maxRecDepth 100000 in
theorem ref_main (c0 c1 : UInt8) (r : List UInt8) (w : World) (h46 : c1.toNat = 46) (h48 : 48 ≤ c0.toNat) (h55 : c0.toNat ≤ 55) (hr1 : 1 ≤ r.length) (hr7 : r.length ≤ 7) :
    Calls Tryd.prog 13 #[.string (str (c0 :: c1 :: r))] w (GivesRef (c0 :: c1 :: r) w) := by
  have i0 : ∀ w, (Instr.index 9 (.string (str (c0 :: c1 :: r))) (.int .i64 0)).run Tryd.prog w = .ok (.int .u8 (c0.toNat : Int)) w := fun w => idx_run (c0 :: c1 :: r) 0 (by simp) w
  have i1 : ∀ w, (Instr.index 9 (.string (str (c0 :: c1 :: r))) (.int .i64 1)).run Tryd.prog w = .ok (.int .u8 46) w := fun w => by
    have := idx_run (c0 :: c1 :: r) 1 (by simp) w
    rw [show (c0 :: c1 :: r)[1] = c1 from rfl, h46] at this
    exact this
  have HI : Hid (∀ (k : Nat) (hk : k < r.length) (w : World), (Instr.index 9 (.string (str (c0 :: c1 :: r))) (.int .i64 ((k : Int) + 2))).run Tryd.prog w = .ok (.int .u8 (r[k].toNat : Int)) w) := Lib.hid fun k hk w => by
    have := idx_run (c0 :: c1 :: r) (k + 2) (by simp; omega) w
    rw [show (((k + 2 : Nat)) : Int) = (k : Int) + 2 by omega] at this
    exact this
  obtain ⟨n, hn⟩ : ∃ n, n = r.length := ⟨_, rfl⟩
  have hsz : (((str (c0 :: c1 :: r)).size : Nat) : Int) = (n : Int) + 2 := by rw [str_size, hn]; simp; omega
  obtain ⟨y0, hy0⟩ : ∃ y : Int, y = (c0.toNat : Nat) := ⟨_, rfl⟩
  rw [← hy0] at i0
  have k2 : 48 ≤ y0 := by omega
  have k3 : y0 ≤ 55 := by omega
  have n1 : 1 ≤ n := by omega
  have n7 : n ≤ 7 := by omega
  have w1 : IntKind.u8.wrap (y0 - 48) = y0 - 48 := by simp [IntKind.wrap, IntKind.bits, IntKind.signed]; omega
  have HT := Lib.hid (TwoBox.start w (y0 - 48) 0)
  have HN := Lib.hid hn
  have HY := Lib.hid hy0
  generalize hl : c0 :: c1 :: r = l at *
  have HL := Lib.hid hl
  clear hn hy0 h46 h48 h55 hr1 hr7 hl
  go_enter Tryd.func13, Tryd.ntmps13
  go_wp2
  go_loopw [5] (fun i wr => ∃ (k : Nat) (s : Int), k ≤ n ∧ i = .int .i64 ((k : Int) + 2) ∧ Hid (TwoBox w (y0 - 48) s wr) ∧ Hid (SlotAt r k s)) (fun i _ => n + 2 - (RowKit.intOf i).toNat)
  case atStart => exact ⟨0, 0, Nat.zero_le _, rfl, HT, Lib.hid (SlotAt.start r)⟩
  case round =>
    obtain ⟨k, s, hk, rfl, HB, HS⟩ := hrel
    by_cases hkn : k < n
    · have kr : k < r.length := by rw [← HN.out]; exact hkn
      have hi := HI.out k kr
      obtain ⟨c, hc⟩ : ∃ c, r[k] = c := ⟨_, rfl⟩
      rw [hc] at hi
      obtain ⟨d, hd⟩ : ∃ d : Int, d = (c.toNat : Nat) := ⟨_, rfl⟩
      rw [← hd] at hi
      have kn : (k : Int) + 2 < (n : Int) + 2 := by omega
      have k0 : (0 : Int) ≤ k := by omega
      by_cases hdig : 48 ≤ d ∧ d ≤ 57
      · have hsm := HS.out.small (by omega : k ≤ 7)
        have HS2 := Lib.hid (HS.out.step kr (show isDig r[k] by rw [hc]; unfold isDig; omega))
        rw [hc, ← hd] at HS2
        have e1 := HB.out.b1
        have e2 := HB.out.g1
        have d1 : 48 ≤ d := hdig.1
        have d2 : d ≤ 57 := hdig.2
        have d3 : IntKind.u8.wrap (d - 48) = d - 48 := by simp [IntKind.wrap, IntKind.bits, IntKind.signed]; omega
        have s1 : 0 ≤ s := hsm.1
        have s2 : s < 10000000 := hsm.2
        clear hsm hdig hc hd kr
        go_wp2
        go_region
        go_wp2
        go_roundw
        case rel => exact ⟨k + 1, 10 * s + (d - 48), by omega, by go_num, Lib.hid ((HB.out.set _).on ((Below.refl _ _).drew)), HS2⟩
        case measure => simp [RowKit.intOf]; omega
      · have HD : Hid (HasNone l) := Lib.hid (by rw [← HL.out]; exact no_dig kr (by rw [hc]; unfold isDig; omega))
        have a0 := HB.out.a0
        have a1 := HB.out.a1
        have f0 := HB.out.f0
        have f1 := HB.out.f1
        have hsz2 : w.heap.size < wr.heap.size := by have := HB.out.size; omega
        clear hc hd kr
        by_cases h1 : d < 48
        · clear hdig
          go_wp2
          (try simp only [Exit.inBlock, Exit.then])
          have hcc := box2_cells a0 a1 0 0
          refine bodyPost_ret (v := .tuple #[.agg #[.int .i64 0, .int .i64 0], .bool false]) ?_ rfl ?_
          · exact ret_box rfl _ _ _ 0 0 _ rfl rfl hcc.1 hcc.2
          exact ⟨(0, 0), false, rfl, .inr ⟨rfl, rfl, HD.out⟩, below_box2 HB.out.below 0 0⟩
        · have h2 : 57 < d := by omega
          clear hdig
          go_wp2
          (try simp only [Exit.inBlock, Exit.then])
          have hcc := box2_cells a0 a1 0 0
          refine bodyPost_ret (v := .tuple #[.agg #[.int .i64 0, .int .i64 0], .bool false]) ?_ rfl ?_
          · exact ret_box rfl _ _ _ 0 0 _ rfl rfl hcc.1 hcc.2
          exact ⟨(0, 0), false, rfl, .inr ⟨rfl, rfl, HD.out⟩, below_box2 HB.out.below 0 0⟩
    · have kn : ¬ (k : Int) + 2 < (n : Int) + 2 := by omega
      have hkr : k = r.length := by rw [← HN.out]; omega
      have hs := HS.out
      rw [hkr] at hs
      have HIT : Hid (∀ y, idRight y = true → idText y = l → y = (y0 - 48, s)) := Lib.hid fun y hy e => by
        have := hs.hit hy (e.trans HL.out.symm)
        rw [← HY.out] at this; exact this
      have b0 := HB.out.b0
      have b1 := HB.out.b1
      have HRT := Lib.hid (right_any (y0 - 48) s)
      have HBX : Hid (∀ W, W = wr.alloc (cells (y0 - 48) s) → TwoBox w (y0 - 48) s W) := Lib.hid fun W e => by subst e; exact HB.out.on (below_one _ _)
      clear hs hkr
      cases hrt : idRight (y0 - 48, s) with
      | false =>
        have HD : Hid (HasNone l) := Lib.hid fun y hy e => by
          have := HIT.out y hy e
          rw [this, hrt] at hy; cases hy
        rw [hrt] at HRT
        clear hrt
        go_wp2_with (first
          | (go_at_call 24; (with_reducible refine (HRT.out _).mono ?_); rintro e W ⟨rfl, hW⟩; have HW := Lib.hid (HBX.out W hW); clear hW; have a0 := HW.out.a0; have a1 := HW.out.a1; have f0 := HW.out.f0; have f1 := HW.out.f1))
        (try simp only [Exit.inBlock, Exit.then])
        have hcc := box2_cells a0 a1 0 0
        refine bodyPost_ret (v := .tuple #[.agg #[.int .i64 0, .int .i64 0], .bool false]) ?_ rfl ?_
        · exact ret_box rfl _ _ _ 0 0 _ rfl rfl hcc.1 hcc.2
        exact ⟨(0, 0), false, rfl, .inr ⟨rfl, rfl, HD.out⟩, below_box2 HW.out.below 0 0⟩
      | true =>
        have HTX : Hid (∀ W, Calls Tryd.prog 12 #[.agg #[.int .i64 (y0 - 48), .int .i64 s]] W (GaveStr (idText (y0 - 48, s)) W)) := Lib.hid fun W => reftext_any _ _ W hrt
        have HRR := Lib.hid hrt
        rw [hrt] at HRT
        clear hrt
        by_cases ht : idText (y0 - 48, s) = l
        · have he : ((str (idText (y0 - 48, s))).toList == (str l).toList) = true := by rw [str_beq, ht]; exact beq_self_eq_true _
          have HTL := Lib.hid ht
          clear ht
          go_wp2_with (first
            | (go_at_call 24; (with_reducible refine (HRT.out _).mono ?_); rintro e W ⟨rfl, hW⟩; have HW := Lib.hid (HBX.out W hW); clear hW; have z0 := HW.out.b0; have z1 := HW.out.b1)
            | (go_at_call 12; (with_reducible refine (HTX.out _).mono ?_); rintro e V ⟨rfl, hV⟩; have HV := Lib.hid (HW.out.on hV); clear hV; have a0 := HV.out.a0; have a1 := HV.out.a1; have f0 := HV.out.f0; have f1 := HV.out.f1; have x0 := HV.out.b0; have x1 := HV.out.b1))
          (try simp only [Exit.inBlock, Exit.then])
          have hcc := box2_cells a0 a1 (y0 - 48) s
          refine bodyPost_ret (v := .tuple #[.agg #[.int .i64 (y0 - 48), .int .i64 s], .bool true]) ?_ rfl ?_
          · exact ret_box rfl _ _ _ (y0 - 48) s _ rfl rfl hcc.1 hcc.2
          exact ⟨(y0 - 48, s), true, rfl, .inl ⟨rfl, HRR.out, HTL.out⟩, below_box2 HV.out.below _ _⟩
        · have he : ((str (idText (y0 - 48, s))).toList == (str l).toList) = false := by rw [str_beq]; rw [beq_eq_false_iff_ne]; exact ht
          have HD : Hid (HasNone l) := Lib.hid fun y hy e => by
            have := HIT.out y hy e
            rw [this] at e; exact ht e
          clear ht
          go_wp2_with (first
            | (go_at_call 24; (with_reducible refine (HRT.out _).mono ?_); rintro e W ⟨rfl, hW⟩; have HW := Lib.hid (HBX.out W hW); clear hW; have z0 := HW.out.b0; have z1 := HW.out.b1)
            | (go_at_call 12; (with_reducible refine (HTX.out _).mono ?_); rintro e V ⟨rfl, hV⟩; have HV := Lib.hid (HW.out.on hV); clear hV; have a0 := HV.out.a0; have a1 := HV.out.a1; have f0 := HV.out.f0; have f1 := HV.out.f1))
          (try simp only [Exit.inBlock, Exit.then])
          have hcc := box2_cells a0 a1 0 0
          refine bodyPost_ret (v := .tuple #[.agg #[.int .i64 0, .int .i64 0], .bool false]) ?_ rfl ?_
          · exact ret_box rfl _ _ _ 0 0 _ rfl rfl hcc.1 hcc.2
          exact ⟨(0, 0), false, rfl, .inr ⟨rfl, rfl, HD.out⟩, below_box2 HV.out.below 0 0⟩

set_option maxRecDepth 100000 in
theorem refread_any (l : List UInt8) (w : World) (hl : (l.length : Int) ≤ 1000) : Calls Tryd.prog 13 #[.string (str l)] w (GivesRef l w) := by
  by_cases h3 : l.length < 3
  · exact ref_early l w (fun y hy e => by have := text_len hy; rw [e] at this; omega) hl (.inl h3)
  · rcases l with _ | ⟨c0, _ | ⟨c1, r⟩⟩
    · exact absurd (by decide) h3
    · exact absurd (show 1 < 3 by omega) h3
    · have h3 : 3 ≤ (c0 :: c1 :: r).length := Nat.le_of_not_lt h3
      have none : ∀ (P : Prop), (∀ y : Idn, idRight y = true → idText y = c0 :: c1 :: r → ¬ P) → P → HasNone (c0 :: c1 :: r) := fun P h hp y hy e => h y hy e hp
      by_cases a : c1.toNat = 46
      · by_cases b : c0.toNat < 48
        · exact ref_early _ w (none _ (fun y hy e hp => by have := text_form hy e; omega) b) hl (.inr ⟨c0, c1, r, rfl, h3, .inr ⟨a, .inl b⟩⟩)
        · by_cases c : 55 < c0.toNat
          · exact ref_early _ w (none _ (fun y hy e hp => by have := text_form hy e; omega) c) hl (.inr ⟨c0, c1, r, rfl, h3, .inr ⟨a, .inr ⟨by omega, .inl c⟩⟩⟩)
          · by_cases d : 9 < (c0 :: c1 :: r).length
            · exact ref_early _ w (none _ (fun y hy e hp => by have := text_len hy; rw [e] at this; omega) d) hl (.inr ⟨c0, c1, r, rfl, h3, .inr ⟨a, .inr ⟨by omega, .inr ⟨by omega, d⟩⟩⟩⟩)
            · exact ref_main c0 c1 r w a (by omega) (by omega) (by simp at h3; omega) (by simp at d; omega)
      · exact ref_early _ w (none _ (fun y hy e hp => hp (text_form hy e).1) a) hl (.inr ⟨c0, c1, r, rfl, h3, .inl a⟩)
end Go.Proofs.YtnjaoohgmfphgaaDoor
