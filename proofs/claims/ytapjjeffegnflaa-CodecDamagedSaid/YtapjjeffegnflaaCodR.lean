/- The statement's function of layer 11 (codec) on any record, a place and a change: it returns true. Conditions: the record's lists lie in memory as their cells say; texts of a length that Go reads. -/
import Derived.Test.YtapjjeffegnflaaCodP
namespace Go.Proofs.Ytapjjeffegnflaa.Cod
open Go.RowKit F64 Cmd Bat Ids Rec Wir Dig
set_option linter.unusedVariables false
set_option linter.unusedSimpArgs false

/-- What Decode says. -/
def GivesDe (e : Nat) (w : World) (E : Ending) (w' : World) : Prop := ∃ (a b q : Int) (p1 : Option Addr) (n1 c1 : Nat) (p2 : Option Addr) (n2 c2 : Nat), E = .returned (.tuple #[.agg #[.int .i64 a, .int .i64 b, .int .i64 q, .slice p1 n1 c1, .slice p2 n2 c2], .int .i64 (e : Int)]) ∧ Below w.heap.size w w'
theorem ReadIs.says {zs : List UInt8} {w : World} {E : Ending} {W' : World} (h : ReadIs zs w E W') : ∃ e, GivesDe e w E W' ∧ (e = 0 ↔ ∃ r, dec zs = .ok r) := by
  cases hd : dec zs with
  | error k =>
    obtain ⟨h0, p1, c1, p2, c2, rfl, -, -, hb⟩ := h.fell hd
    exact ⟨k, ⟨0, 0, 0, p1, 0, c1, p2, 0, c2, rfl, hb⟩, fun h => absurd h h0, fun ⟨r, h⟩ => by cases h⟩
  | ok r =>
    obtain ⟨a, b, q, ds, cs'⟩ := r
    obtain ⟨p1, c1, p2, c2, cs, rfl, -, -, -, -, hb⟩ := h.took hd
    exact ⟨0, ⟨a, b, q, p1, _, c1, p2, _, c2, rfl, hb⟩, fun _ => ⟨_, rfl⟩, fun _ => rfl⟩
/-- One byte changed: no record, but where it stays as it is. -/
theorem dec_set {a b q : Int} {ds : List Idn} {cs : List Cmdn} (h : rErr a b q ds cs = 0) (hw : ∀ c ∈ cs, c.2.2 < 18446744073709551616) {k : Nat} (hk : k < (sealt (recB a b q ds cs)).length) (c : UInt8) : (∃ r, dec ((sealt (recB a b q ds cs)).set k c) = .ok r) ↔ c = (sealt (recB a b q ds cs))[k] := by
  have h1 := opn_set (recB a b q ds cs) hk c
  constructor
  · rintro ⟨r, hr⟩
    refine h1.1 ?_
    unfold dec at hr
    split at hr
    · cases hr
    · rename_i h0; omega
  · intro hc
    rw [hc, List.set_getElem_self]
    exact ⟨_, dec_put h hw⟩
set_option maxHeartbeats 16000000 in
set_option maxRecDepth 100000 in
theorem damaged_no (a b q : Int) (v u : Value) (ds : List Idn) (cs : List Cmdn) (at' by' : Nat) (w : World) (h : RowAt w v ds) (g : layC.Row w u cs) (hw : ∀ x ∈ cs, wfC x) (hne : rErr a b q ds cs ≠ 0) : Calls Try.prog 5 #[.agg #[.int .i64 a, .int .i64 b, .int .i64 q, v, u], .int .u16 at', .int .u8 by'] w (RetBelow (.bool true) w) := by
  have CW := Lib.hid cplay_any
  have B0 := Lib.hid (BoxR.start 27 w a b q v u)
  obtain ⟨x, hx⟩ : ∃ x, rErr a b q ds cs = x := ⟨_, rfl⟩
  rw [hx] at hne
  have CE := Lib.hid (fun W (hb : Below w.heap.size w W) => enc_no (h.on hb) (g.on hb) hw hx hne)
  have CK := Lib.hid (fun W (hb : Below w.heap.size w W) => refcheck_r a b q v u ds cs W (h.on hb) (g.on hb) hw)
  rw [hx] at CK
  have x1 : (x != 0) = true := by rw [bne_iff_ne]; exact hne
  have hv : ∃ p n cap, v = .slice p n cap := by obtain ⟨p, cap, e, _⟩ := h; exact ⟨p, _, cap, e⟩
  have hu : ∃ p n cap, u = .slice p n cap := by obtain ⟨p, cap, e, _⟩ := g; exact ⟨p, _, cap, e⟩
  obtain ⟨p1, n1, k1, rfl⟩ := hv
  obtain ⟨p3, n3, k3, rfl⟩ := hu
  unfold cellsR at B0
  generalize (at' : Int) = A
  generalize (by' : Int) = B
  clear h g hw hx
  go_enter Try.func5, Try.ntmps5
  go_wp2_with (first
    | (go_at_call 7; (with_reducible refine (CE.out _ B0.out.below).mono ?_); rintro E1 w1 ⟨rfl, hb⟩; have B1 := Lib.hid (B0.out.on hb); obtain ⟨x0, x1, x2, x3, x4⟩ := B1.out.five; clear hb)
    | (go_at_call 8; (with_reducible refine (CK.out _ B1.out.below).mono ?_); rintro E2 w2 ⟨rfl, hb⟩; have B2 := Lib.hid (B1.out.on hb); clear hb)
    | (go_at_call 6; (with_reducible refine (CW.out _).mono ?_); rintro E3 w3 ⟨rfl, hb⟩; have B3 := Lib.hid (B2.out.on hb); clear hb))
  go_ret
  exact ⟨rfl, B3.out.below⟩
set_option maxHeartbeats 16000000 in
set_option maxRecDepth 100000 in
theorem damaged_ok (a b q : Int) (v u : Value) (ds : List Idn) (cs : List Cmdn) (at' by' : Nat) (w : World) (h : RowAt w v ds) (g : layC.Row w u cs) (hw : ∀ x ∈ cs, wfC x) (he : rErr a b q ds cs = 0) (hat : at' < 65536) (hby : by' < 256) : Calls Try.prog 5 #[.agg #[.int .i64 a, .int .i64 b, .int .i64 q, v, u], .int .u16 at', .int .u8 by'] w (RetBelow (.bool true) w) := by
  have CW := Lib.hid cplay_any
  have B0 := Lib.hid (BoxR.start 27 w a b q v u)
  have hw2 : ∀ c ∈ cs, c.2.2 < 18446744073709551616 := fun c hc => (hw c hc).1
  have hset := fun k hk c => dec_set he hw2 (k := k) hk c
  have hlen := recB_len (small_of he hw2)
  have hsl := seal_len (recB a b q ds cs)
  obtain ⟨Z, hZ⟩ : ∃ Z, sealt (recB a b q ds cs) = Z := ⟨_, rfl⟩
  rw [hZ] at hset hsl
  obtain ⟨n, hn⟩ : ∃ n, Z.length = n := ⟨_, rfl⟩
  have hn0 : 0 < n := by omega
  have CE := Lib.hid (fun W (hb : Below w.heap.size w W) => enc_ok (h.on hb) (g.on hb) hw he hZ hn hn0)
  have hn1 : n ≤ 90000 := by omega
  -- the place, the byte there, what it becomes
  obtain ⟨i, hi⟩ : ∃ i, at' % n = i := ⟨_, rfl⟩
  have hil : i < n := by rw [← hi]; exact Nat.mod_lt _ hn0
  have hrem := rem_run at' n (by omega)
  rw [hi] at hrem
  obtain ⟨c, hc⟩ : ∃ c, layB.at Z i = c := ⟨_, rfl⟩
  obtain ⟨c', hadd, hsame⟩ := add_byte c by'
  obtain ⟨e, hee⟩ : ∃ e : Prop, (∃ r, dec (Z.set i c') = .ok r) = e := ⟨_, rfl⟩
  have hz0 : (∃ r, dec (Z.set i c') = .ok r) ↔ by' = 0 := by
    rw [hset i (by omega) c', ← layB.at_get (by omega), hc, hsame hby]
  have CD : Hid (∀ W V, layB.Row W V (Z.set i c') → Calls Try.prog 10 #[V] W fun E w' => ∃ k, GivesDe k W E w' ∧ (k = 0 ↔ by' = 0)) := Lib.hid fun W V hr => (decode_any V _ W hr (by rw [List.length_set]; omega)).mono fun E w' h => by
    obtain ⟨k, h1, h2⟩ := h.says
    exact ⟨k, h1, h2.trans hz0⟩
  have CD2 : Hid (∀ W V, layB.Row W V (Z.set i c') → Calls Try.prog 10 #[V] W fun E w' => ∃ (k : Nat) (t : Bool), GivesDe k W E w' ∧ ((k : Int) == 0) = t ∧ ((by' : Int) == 0) = t ∧ (t == t) = true) := Lib.hid fun W V hr => (CD.out W V hr).mono fun E w' h => by
    obtain ⟨k, h1, h2⟩ := h
    by_cases hb0 : by' = 0
    · exact ⟨k, true, h1, by rw [beq_iff_eq]; have := h2.2 hb0; omega, by rw [beq_iff_eq]; omega, rfl⟩
    · exact ⟨k, false, h1, by rw [beq_eq_false_iff_ne]; have := fun h => hb0 (h2.1 h); omega, by rw [beq_eq_false_iff_ne]; omega, rfl⟩
  have HGet : Hid (∀ W base g cs, OwnB W base (.slice (some ⟨g, 0, none⟩) n cs) Z → W.cell? ⟨g, i, none⟩ = some (.int .u8 (c.toNat : Int)) ∧ W.frozen? ⟨g, i, none⟩ = false) := Lib.hid fun W base g cs h => own_get h hn hil hc
  have HSet : Hid (∀ W base g cs, OwnB W base (.slice (some ⟨g, 0, none⟩) n cs) Z → layB.Row (W.setCell ⟨g, i, none⟩ (.int .u8 (c'.toNat : Int))) (.slice (some ⟨g, 0, none⟩) n cs) (Z.set i c')) := Lib.hid fun W base g cs h => own_set h hn i c' _ rfl
  have i0 : (0 : Int) ≤ i := by omega
  have i1 : (i : Int) < n := by omega
  have a4 : (n : Int) ≤ 90000 := by omega
  have a5 : (0 : Int) ≤ at' := by omega
  have a6 : (at' : Int) < 65536 := by omega
  have a7 : (0 : Int) ≤ by' := by omega
  have a8 : (by' : Int) < 256 := by omega
  have ne8 : (n : Int) ≠ 0 := by omega
  have ne9 : ((n : Int) == 0) = false := by rw [beq_eq_false_iff_ne]; exact ne8
  have hv : ∃ p n cap, v = .slice p n cap := by obtain ⟨p, cap, e, _⟩ := h; exact ⟨p, _, cap, e⟩
  have hu : ∃ p n cap, u = .slice p n cap := by obtain ⟨p, cap, e, _⟩ := g; exact ⟨p, _, cap, e⟩
  obtain ⟨p1, n1, k1, rfl⟩ := hv
  obtain ⟨p3, n3, k3, rfl⟩ := hu
  unfold cellsR at B0
  unfold GivesDe at CD2
  generalize Z.set i c' = sx at CD2 HSet
  generalize c'.toNat = x' at hadd HSet
  generalize c.toNat = x at hadd HGet
  have wA : IntKind.i64.wrap (at' : Int) = at' := IntWalk.i64_in _ (by omega)
  generalize (at' : Int) = A at hrem a5 a6 wA ⊢
  generalize (by' : Int) = B at hadd CD2 a7 a8 ⊢
  clear h g hw hw2 hset hsl hZ hn hi hil hc hsame hee hz0 hat hby CD e hlen he hn1 hn0
  go_enter Try.func5, Try.ntmps5
  go_wp2_with (first
    | (go_at_call 7; (with_reducible refine (CE.out _ B0.out.below).mono ?_); rintro E1 w1 ⟨g1, cap1, rfl, ho, hc1, hb⟩; have B1 := Lib.hid (B0.out.on hb); have O1 := Lib.hid (own_mono ho B0.out.below.size); obtain ⟨c6, f6⟩ := HGet.out _ _ _ _ ho; have X1 := Lib.hid (HSet.out _ _ _ _ ho); have D1 := Lib.hid (set_below B1.out.below (own_mono ho B0.out.below.size) (Nat.le_refl _) i (.int .u8 x')); clear ho hb)
    | (go_at_call 10; (with_reducible refine (CD2.out _ _ X1.out).mono ?_); rintro E2 w2 ⟨k, t, ⟨a2, b2, q2, p4, n4, c4, p5, n5, c5, rfl, hb⟩, ht1, ht2, ht3⟩; have D2 := Lib.hid (D1.out.trans (hb.mono D1.out.size)); clear hb)
    | (go_at_call 6; (with_reducible refine (CW.out _).mono ?_); rintro E3 w3 ⟨rfl, hb⟩; have D3 := Lib.hid (D2.out.trans (hb.mono D2.out.size)); clear hb))
  go_ret
  exact ⟨rfl, D3.out⟩
end Go.Proofs.Ytapjjeffegnflaa.Cod
