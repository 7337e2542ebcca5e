/- What Decode (layer 11, codec) gives; what the statements want. Conditions: the bytes lie in memory as their cells say, and are not more than 100000. -/
import Derived.Test.YtapjjeffegnflaaCodO
import Derived.Test.YtapjjeffegnflaaRecD

/- Part: What Decode (layer 11, codec) gives: a record, or what is wrong. Conditions: the bytes lie in memory as their cells say, and are not more than 100000. -/
namespace Go.Proofs.Ytapjjeffegnflaa.Cod
open Go.RowKit F64 Cmd Bat Ids Rec Wir Dig
set_option linter.unusedVariables false
set_option linter.unusedSimpArgs false

/-! ### The deferred function -/
/-- What the deferred function leaves: a zero record, an error. -/
def Caught (b c : Nat) (k : Int) (w w' : World) : Prop := Five b (.int .i64 0) (.int .i64 0) (.int .i64 0) (.slice none 0 0) (.slice none 0 0) 27 w' ∧ w'.cell? ⟨c, 0, none⟩ = some (.int .i64 k) ∧ ∀ B x, B ≤ b → B ≤ c → Below B x w → Below B x w'
set_option maxHeartbeats 4000000 in
set_option maxRecDepth 100000 in
theorem dec_panicking (b c : Nat) (hbc : b ≠ c) (k m : Int) (older : List PanicEntry) (w : World) (x0 x1 x2 x3 x4 : Value) (F : Five b x0 x1 x2 x3 x4 27 w) (hq : w.cell? ⟨c, 0, none⟩ = some (.int .i64 m)) (hqz : w.frozen? ⟨c, 0, none⟩ = false) :
    CallsD Try.prog 22 #[.pointer (some ⟨b, 0, none⟩), .pointer (some ⟨c, 0, none⟩)] (.panicking ({ v := .iface 30 (.int .i64 k), recovered := false } :: older)) w fun e u' w' =>
      e = .returned (.tuple #[]) ∧ u' = .panicking ({ v := .iface 30 (.int .i64 k), recovered := true } :: older) ∧ Caught b c k w w' := by
  obtain ⟨c0, c1, c2, c3, c4⟩ := F.cells
  obtain ⟨f0, f1, f2, f3, f4⟩ := F.free
  have hcb : c ≠ b := fun e => hbc e.symm
  have HZ : Hid (Caught b c k w ((((((w.setCell ⟨b, 0, none⟩ (.int .i64 0)).setCell ⟨b, 1, none⟩ (.int .i64 0)).setCell ⟨b, 2, none⟩ (.int .i64 0)).setCell ⟨b, 3, none⟩ (.slice none 0 0)).setCell ⟨b, 4, none⟩ (.slice none 0 0)).setCell ⟨c, 0, none⟩ (.int .i64 k))) := Lib.hid
    ⟨(((((F.set0 _).set1 _).set2 _).set3 _).set4 _).far hbc 0 _, cell_set_same ((cell_five (a := ⟨c, 0, none⟩) hcb _ _ _ _ _).trans hq) _, fun B x h1 h2 h => (((((h.setCell h1 _).setCell h1 _).setCell h1 _).setCell h1 _).setCell h1 _).setCell h2 _⟩
  have hq5 : ∀ (y0 y1 y2 y3 y4 : Value), (((((w.setCell ⟨b, 0, none⟩ y0).setCell ⟨b, 1, none⟩ y1).setCell ⟨b, 2, none⟩ y2).setCell ⟨b, 3, none⟩ y3).setCell ⟨b, 4, none⟩ y4).cell? ⟨c, 0, none⟩ = some (.int .i64 m) := fun y0 y1 y2 y3 y4 => (cell_five (a := ⟨c, 0, none⟩) hcb _ _ _ _ _).trans hq
  refine callsD_of_wpS Try.func22 rfl fun c₀ cs hu => ?_
  rw [Try.ntmps22]
  show Code.wpS _ _ _ { tmps := #[.pointer (some ⟨b, 0, none⟩), .pointer (some ⟨c, 0, none⟩), undef, undef, undef, undef, undef, undef, undef, undef, undef, undef], defers := [] } _ _
  apply wpS_seq
  apply wpS_region
  simp [wpOpsS, go_sem, recoverD, hu, Exit.thenS, is_errno]
  apply wpS_seq
  apply wpS_region
  simp [wpOpsS, go_sem, Exit.thenS]
  refine wpS_cond (t := true) (by simp [Act.eval]) ?_
  simp only [if_true]
  apply wpS_region
  simp [wpOpsS, go_sem, c0, c1, c2, c3, c4, f0, f1, f2, f3, f4, hq5, hqz, bodyPostS, results, Try.results22]
  exact HZ.out
theorem dec_idle (p q : Addr) (w : World) :
    CallsD Try.prog 22 #[.pointer (some p), .pointer (some q)] .returning w fun e u' w' => e = .returned (.tuple #[]) ∧ u' = .returning ∧ w' = w := by
  refine callsD_of_wpS Try.func22 rfl fun c₀ cs hu => ?_
  rw [Try.ntmps22]
  show Code.wpS _ _ _ { tmps := #[.pointer (some p), .pointer (some q), undef, undef, undef, undef, undef, undef, undef, undef, undef, undef], defers := [] } _ _
  apply wpS_seq
  apply wpS_region
  simp [wpOpsS, go_sem, recoverD, hu, Exit.thenS, no_errno]
  apply wpS_seq
  apply wpS_region
  simp [wpOpsS, go_sem, Exit.thenS]
  refine wpS_cond (t := false) (by simp [Act.eval]) ?_
  simp only [Bool.false_eq_true, if_false]
  refine wpS_of_wp (wp_skip ?_)
  cases c₀
  simp_all [bodyPostS, results, Try.results22]

/-! ### Decode -/
theorem WTk.fell {w : World} {zs : List UInt8} {E : Ending} {W' : World} {e : Nat} (h : WTk w zs E W') (hr : gwhole zs = .error e) : e ≠ 0 ∧ E = .panicked (panL e) ∧ Below w.heap.size w W' := by
  rcases h with ⟨a, b, q, v, u, ds, cs, h1, -⟩ | ⟨e', h1, h2, h3, h4⟩
  · rw [hr] at h1; cases h1
  · rw [hr] at h1; injection h1 with h1; subst h1; exact ⟨h2, h3, h4⟩
theorem WTk.took {w : World} {zs : List UInt8} {E : Ending} {W' : World} {a b q : Int} {ds : List Idn} {cs' : List Cmdn} (h : WTk w zs E W') (hr : gwhole zs = .ok (a, b, q, ds, cs')) : ∃ (p1 : Option Addr) (n1 c1 : Nat) (p2 : Option Addr) (n2 c2 : Nat) (cs : List Cmdn), cs' = cs.map cmdC ∧ GoodC cs ∧ (∀ x ∈ cs, wfC x) ∧ E = .returned (.agg #[.int .i64 a, .int .i64 b, .int .i64 q, .slice p1 n1 c1, .slice p2 n2 c2]) ∧ Below w.heap.size w W' ∧ Owns W' w.heap.size (.slice p1 n1 c1) ds ∧ OwnK W' w.heap.size (.slice p2 n2 c2) cs := by
  rcases h with ⟨a', b', q', v, u, ds', cs, h1, h2, h3, h4, h5, h6, h7⟩ | ⟨e', h1, -⟩
  · rw [hr] at h1
    injection h1 with h1
    injection h1 with ha h1
    injection h1 with hb h1
    injection h1 with hq h1
    injection h1 with hd hc
    subst ha hb hq hd hc
    obtain ⟨p1, c1, rfl⟩ := own_form h6
    obtain ⟨p2, c2, rfl⟩ := own_form h7
    exact ⟨p1, _, c1, p2, _, c2, cs, rfl, h2, h3, h4, h5, h6, h7⟩
  · rw [hr] at h1; cases h1
/-- The two results. -/
abbrev twoR (w : World) : World := (w.alloc zeroR).alloc (.cells #[.int .i64 0] 30)
structure Res2 (w : World) (x0 x1 x2 x3 x4 : Value) (e : Int) (W : World) : Prop where
  below : Below w.heap.size w W
  box : Five w.heap.size x0 x1 x2 x3 x4 27 W
  err : W.cell? ⟨w.heap.size + 1, 0, none⟩ = some (.int .i64 e)
  f : W.frozen? ⟨w.heap.size + 1, 0, none⟩ = false
  lt : w.heap.size + 1 < W.heap.size
theorem Res2.start (w : World) : Res2 w (.int .i64 0) (.int .i64 0) (.int .i64 0) (.slice none 0 0) (.slice none 0 0) 0 (twoR w) := by
  refine ⟨(Cmd.below_one w _).alloc (by simp) _, (Five.new w _ _ _ _ _ _).alloc _, ?_, ?_, by simp⟩
  · simp [go_sem]
  · simp [go_sem]
section
variable {w W : World} {x0 x1 x2 x3 x4 : Value} {e : Int}
theorem Res2.on (h : Res2 w x0 x1 x2 x3 x4 e W) {W' : World} (hb : Below W.heap.size W W') : Res2 w x0 x1 x2 x3 x4 e W' :=
  ⟨h.below.trans (hb.mono h.below.size), h.box.same (hb.block _ h.box.lt), (hb.cell (p := ⟨w.heap.size + 1, 0, none⟩) h.lt).trans h.err, (hb.frozen (p := ⟨w.heap.size + 1, 0, none⟩) h.lt).trans h.f, Nat.lt_of_lt_of_le h.lt hb.size⟩
theorem Res2.fail (h : Res2 w x0 x1 x2 x3 x4 e W) (k : Int) : Res2 w x0 x1 x2 x3 x4 k (W.setCell ⟨w.heap.size + 1, 0, none⟩ (.int .i64 k)) :=
  ⟨h.below.setCell (Nat.le_succ _) _, h.box.far (Nat.ne_of_lt (Nat.lt_succ_self _)) _ _, cell_set_same h.err _, by rw [World.frozen?_setCell]; exact h.f, by rw [Cmd.size_sc]; exact h.lt⟩
theorem Res2.put (h : Res2 w x0 x1 x2 x3 x4 e W) (y0 y1 y2 y3 y4 : Value) : Res2 w y0 y1 y2 y3 y4 e (((((W.setCell ⟨w.heap.size, 0, none⟩ y0).setCell ⟨w.heap.size, 1, none⟩ y1).setCell ⟨w.heap.size, 2, none⟩ y2).setCell ⟨w.heap.size, 3, none⟩ y3).setCell ⟨w.heap.size, 4, none⟩ y4) := by
  have hne : w.heap.size + 1 ≠ w.heap.size := by omega
  exact ⟨((((h.below.setCell (Nat.le_refl _) _).setCell (Nat.le_refl _) _).setCell (Nat.le_refl _) _).setCell (Nat.le_refl _) _).setCell (Nat.le_refl _) _, ((((h.box.set0 _).set1 _).set2 _).set3 _).set4 _, (cell_five (a := ⟨w.heap.size + 1, 0, none⟩) hne _ _ _ _ _).trans h.err, by simp only [World.frozen?_setCell]; exact h.f, by simp only [Cmd.size_sc]; exact h.lt⟩
theorem Res2.facts (h : Res2 w x0 x1 x2 x3 x4 e W) : W.cell? ⟨w.heap.size, 0, none⟩ = some x0 ∧ W.cell? ⟨w.heap.size, 1, none⟩ = some x1 ∧ W.cell? ⟨w.heap.size, 2, none⟩ = some x2 ∧ W.cell? ⟨w.heap.size, 3, none⟩ = some x3 ∧ W.cell? ⟨w.heap.size, 4, none⟩ = some x4
    ∧ W.frozen? ⟨w.heap.size, 0, none⟩ = false ∧ W.frozen? ⟨w.heap.size, 1, none⟩ = false ∧ W.frozen? ⟨w.heap.size, 2, none⟩ = false ∧ W.frozen? ⟨w.heap.size, 3, none⟩ = false ∧ W.frozen? ⟨w.heap.size, 4, none⟩ = false ∧ W.cell? ⟨w.heap.size + 1, 0, none⟩ = some (.int .i64 e) ∧ W.frozen? ⟨w.heap.size + 1, 0, none⟩ = false := by
  obtain ⟨c0, c1, c2, c3, c4⟩ := h.box.cells
  obtain ⟨f0, f1, f2, f3, f4⟩ := h.box.free
  exact ⟨c0, c1, c2, c3, c4, f0, f1, f2, f3, f4, h.err, h.f⟩
/-- The deferred function at a panic. -/
theorem Res2.caught (h : Res2 w x0 x1 x2 x3 x4 e W) (k : Nat) : CallsD Try.prog 22 #[.pointer (some ⟨w.heap.size, 0, none⟩), .pointer (some ⟨w.heap.size + 1, 0, none⟩)] (.panicking [{ v := .iface 30 (.int .i64 (k : Int)), recovered := false }]) W fun E u' w' =>
      E = .returned (.tuple #[]) ∧ u' = .panicking [{ v := .iface 30 (.int .i64 (k : Int)), recovered := true }] ∧ (Five w.heap.size (.int .i64 0) (.int .i64 0) (.int .i64 0) (.slice none 0 0) (.slice none 0 0) 27 w' ∧ w'.cell? ⟨w.heap.size + 1, 0, none⟩ = some (.int .i64 (k : Int)) ∧ Below w.heap.size w w') :=
  (dec_panicking w.heap.size (w.heap.size + 1) (Nat.ne_of_lt (Nat.lt_succ_self _)) (k : Int) e [] W x0 x1 x2 x3 x4 h.box h.err h.f).mono fun E u' w' ⟨h1, h2, h3⟩ => ⟨h1, h2, h3.1, h3.2.1, h3.2.2 _ _ (Nat.le_refl _) (Nat.le_succ _) h.below⟩
end
theorem no_read {zs : List UInt8} {w : World} {W' : World} {k : Nat} (hk : k ≠ 0) (hd : dec zs = .error k) (hb : Below w.heap.size w W') : ReadIs zs w (.returned (.tuple #[.agg #[.int .i64 0, .int .i64 0, .int .i64 0, .slice none 0 0, .slice none 0 0], .int .i64 (k : Int)])) W' :=
  ⟨0, 0, 0, _, _, k, [], [], rfl, hb, nil_ids _, nil_cmds _, no_good, .inr ⟨hk, hd, rfl, rfl, rfl, rfl, rfl⟩⟩
set_option maxHeartbeats 4000000 in
set_option maxRecDepth 100000 in
theorem dec_sum (v : Value) (zs : List UInt8) (w : World) (h : layB.Row w v zs) (hl : zs.length ≤ 100000) (r : List UInt8) (e : Nat) (he : opn zs = (r, e)) (hne : e ≠ 0) : Calls Try.prog 10 #[v] w (ReadIs zs w) := by
  have hmf : ∀ (fn : Fn) (first cap : Array Value) (w : World), (Instr.makeFunc fn first cap).run Try.prog w = .ok (.func fn first cap) w := fun _ _ _ _ => rfl
  have R0 := Lib.hid (Res2.start w)
  have HD : Hid (dec zs = .error e) := Lib.hid (by unfold dec; rw [he]; exact if_pos hne)
  have CO := Lib.hid (open_any v zs (twoR w) (h.on R0.out.below) hl)
  rw [he] at CO
  unfold GivesOpn at CO
  have CG := Lib.hid (fun W => giveup_no e W hne)
  unfold panL at CG
  have HN := Lib.hid hne
  clear h he hne
  unfold twoR zeroR at R0 CO
  go_enter_defers Try.func10, Try.ntmps10
  go_wp2_with (first
    | (go_at_call 23; (with_reducible refine CO.out.mono ?_); rintro E1 w1 ⟨v1, rfl, ho, hb⟩; have R1 := Lib.hid (R0.out.on hb); have R2 := Lib.hid (R1.out.fail (e : Int)); obtain ⟨c0, c1, c2, c3, c4, f0, f1, f2, f3, f4, c5, f5⟩ := R1.out.facts; clear ho hb)
    | (go_at_call 24; (with_reducible refine (CG.out _).mono ?_); rintro E2 w2 ⟨rfl, rfl⟩))
  refine leaves_cons (f := 22) (args := #[.pointer (some ⟨w.heap.size, 0, none⟩), .pointer (some ⟨w.heap.size + 1, 0, none⟩)]) (by simp) (by simp [go_sem]) ?_
  refine (R2.out.caught e).mono ?_
  rintro E3 u' w3 ⟨rfl, rfl, F3, q3, B3⟩
  obtain ⟨d0, d1, d2, d3, d4⟩ := F3.cells
  have HR := no_read HN.out HD.out B3
  simp [Leaves, settle, results, Try.results10, go_sem, d0, d1, d2, d3, d4, q3]
  exact HR

theorem opn_len (zs : List UInt8) : (opn zs).1.length ≤ zs.length := by
  unfold opn
  split
  · simp
  · split <;> simp
/-- The reader that Decode makes. -/
theorem rd_start {w1 : World} {B : Nat} {v1 : Value} {r : List UInt8} (ho : OwnB w1 B v1 r) (hr : r.length ≤ 100000) {w : World} {k : Int} (hB : w.heap.size + 1 < B) : ∃ p n cap, v1 = .slice p n cap ∧ Rd (w1.setCell ⟨w.heap.size + 1, 0, none⟩ (.int .i64 k)) w1.heap.size r ((w1.setCell ⟨w.heap.size + 1, 0, none⟩ (.int .i64 k)).alloc (.cells #[.slice p n cap] 56)) := by
  obtain ⟨p, cap, rfl, h1, h2⟩ := own_len ho
  have hz : (w1.setCell ⟨w.heap.size + 1, 0, none⟩ (.int .i64 k)).heap.size = w1.heap.size := by simp
  refine ⟨p, _, cap, rfl, Cmd.below_one _ _, by omega, by simp, ⟨p, cap, ?_, rowB (own_store ho (p := ⟨w.heap.size + 1, 0, none⟩) hB _)⟩, ?_, hr⟩
  · rw [← hz, World.cell?_alloc_mark]; rfl
  · have e : ∀ (X : World) (V : Value) (t : TypeId), (X.alloc (.cells #[V] t)).frozen? ⟨X.heap.size, 0, none⟩ = false := fun X V t => by simp [go_sem]
    have := e (w1.setCell ⟨w.heap.size + 1, 0, none⟩ (.int .i64 k)) (.slice p r.length cap) 56
    rw [hz] at this; exact this
set_option maxHeartbeats 4000000 in
set_option maxRecDepth 100000 in
theorem dec_err (v : Value) (zs : List UInt8) (w : World) (h : layB.Row w v zs) (hl : zs.length ≤ 100000) (r : List UInt8) (he : opn zs = (r, 0)) (e : Nat) (hg : gwhole r = .error e) : Calls Try.prog 10 #[v] w (ReadIs zs w) := by
  have hmf : ∀ (fn : Fn) (first cap : Array Value) (w : World), (Instr.makeFunc fn first cap).run Try.prog w = .ok (.func fn first cap) w := fun _ _ _ _ => rfl
  have R0 := Lib.hid (Res2.start w)
  have CO := Lib.hid (open_any v zs (twoR w) (h.on R0.out.below) hl)
  have hr : r.length ≤ 100000 := Nat.le_trans (by have := opn_len zs; rw [he] at this; exact this) hl
  rw [he] at CO
  unfold GivesOpn at CO
  have CG := Lib.hid (fun W => giveup_ok W)
  have HD : Hid (dec zs = .error e) := Lib.hid (by unfold dec; rw [he]; simp only []; rw [if_neg (by decide), gbody_whole, hg])
  have KW := Lib.hid (fun X g W (hs : Rd X g r W) => (whole_any X g r W hs).mono fun E W' h => h.fell hg)
  unfold panL at KW
  clear h he hg
  unfold twoR zeroR at R0 CO
  go_enter_defers Try.func10, Try.ntmps10
  go_wp2_with (first
    | (go_at_call 23; (with_reducible refine CO.out.mono ?_); rintro E1 w1 ⟨v1, rfl, ho, hb⟩; obtain ⟨p1, n1, cap1, rfl, hrd⟩ := rd_start ho hr (k := 0) (w := w) (by simp); have KW1 := Lib.hid (KW.out _ _ _ hrd); have R1 := Lib.hid (R0.out.on hb); have R2 := Lib.hid (R1.out.fail 0); obtain ⟨c0, c1, c2, c3, c4, f0, f1, f2, f3, f4, c5, f5⟩ := R1.out.facts; clear ho hb hrd)
    | (go_at_call 24; (with_reducible refine (CG.out _).mono ?_); rintro E2 w2 ⟨rfl, rfl⟩)
    | (go_at_call 25; (with_reducible refine KW1.out.mono ?_); rintro E3 w3 ⟨hne, rfl, hb⟩; have R3 := Lib.hid (R2.out.on hb); have HN := Lib.hid hne; clear hb hne))
  refine leaves_cons (f := 22) (args := #[.pointer (some ⟨w.heap.size, 0, none⟩), .pointer (some ⟨w.heap.size + 1, 0, none⟩)]) (by simp) (by simp [go_sem]) ?_
  refine (R3.out.caught e).mono ?_
  rintro E4 u' w4 ⟨rfl, rfl, F3, q3, B3⟩
  obtain ⟨d0, d1, d2, d3, d4⟩ := F3.cells
  have HR := no_read HN.out HD.out B3
  simp [Leaves, settle, results, Try.results10, go_sem, d0, d1, d2, d3, d4, q3]
  exact HR
set_option maxHeartbeats 4000000 in
set_option maxRecDepth 100000 in
theorem dec_rec (v : Value) (zs : List UInt8) (w : World) (h : layB.Row w v zs) (hl : zs.length ≤ 100000) (r : List UInt8) (he : opn zs = (r, 0)) (a b q : Int) (ds : List Idn) (cs' : List Cmdn) (hg : gwhole r = .ok (a, b, q, ds, cs')) : Calls Try.prog 10 #[v] w (ReadIs zs w) := by
  have hmf : ∀ (fn : Fn) (first cap : Array Value) (w : World), (Instr.makeFunc fn first cap).run Try.prog w = .ok (.func fn first cap) w := fun _ _ _ _ => rfl
  have R0 := Lib.hid (Res2.start w)
  have CO := Lib.hid (open_any v zs (twoR w) (h.on R0.out.below) hl)
  have hr : r.length ≤ 100000 := Nat.le_trans (by have := opn_len zs; rw [he] at this; exact this) hl
  rw [he] at CO
  unfold GivesOpn at CO
  have CG := Lib.hid (fun W => giveup_ok W)
  have hd : dec zs = if rErr a b q ds cs' ≠ 0 then .error (rErr a b q ds cs').toNat else .ok (a, b, q, ds, cs') := by unfold dec; rw [he]; simp only []; rw [if_neg (by decide), gbody_whole, hg]
  have KW := Lib.hid (fun X g W (hs : Rd X g r W) => (whole_any X g r W hs).mono fun E W' h => h.took hg)
  obtain ⟨x, hx⟩ : ∃ x : Nat, (x : Int) = rErr a b q ds cs' := ⟨(rErr a b q ds cs').toNat, Int.toNat_of_nonneg (rerr_nn _ _ _ _ _)⟩
  have HX := Lib.hid hx
  rw [← hx, Int.toNat_natCast] at hd
  have CK : Hid (∀ (cs : List Cmdn), cs' = cs.map cmdC → GoodC cs → (∀ c ∈ cs, wfC c) → ∀ V U X, RowAt X V ds → layC.Row X U cs → Calls Try.prog 16 #[.agg #[.int .i64 a, .int .i64 b, .int .i64 q, V, U]] X (RetBelow (.int .i64 (x : Int)) X)) := Lib.hid fun cs e1 e2 e3 V U X h1 h2 => by
    rw [hx, e1, rerr_cmdC e2]; exact check_r a b q V U ds cs X h1 h2 e3
  clear h he hg hx
  unfold twoR zeroR at R0 CO
  by_cases h0 : x = 0
  · subst h0
    have HD : Hid (dec zs = .ok (a, b, q, ds, cs')) := Lib.hid (by rw [hd]; rfl)
    clear hd
    go_enter_defers Try.func10, Try.ntmps10
    go_wp2_with (first
      | (go_at_call 23; (with_reducible refine CO.out.mono ?_); rintro E1 w1 ⟨v1, rfl, ho, hb⟩; obtain ⟨p1, n1, cap1, rfl, hrd⟩ := rd_start ho hr (k := 0) (w := w) (by simp); have KW1 := Lib.hid (KW.out _ _ _ hrd); have R1 := Lib.hid (R0.out.on hb); have R2 := Lib.hid (R1.out.fail 0); obtain ⟨c0, c1, c2, c3, c4, f0, f1, f2, f3, f4, c5, f5⟩ := R1.out.facts; clear ho hb hrd)
      | (go_at_call 24; (with_reducible refine (CG.out _).mono ?_); rintro E2 w2 ⟨rfl, rfl⟩)
      | (go_at_call 25; (with_reducible refine KW1.out.mono ?_); rintro E3 w3 ⟨p3, n3, c3', p4, n4, c4', cs, hcs, hgc, hwf, rfl, hb, ho, hk⟩; have HCS := Lib.hid hcs; have HGC := Lib.hid hgc; have R3 := Lib.hid (R2.out.on hb); have hlt := Lib.hid R2.out.lt; have O3 := Lib.hid (own_five ho (Nat.lt_of_succ_lt hlt.out) (.int .i64 a) (.int .i64 b) (.int .i64 q) (.slice p3 n3 c3') (.slice p4 n4 c4')); have K3 := Lib.hid (own_five hk (Nat.lt_of_succ_lt hlt.out) (.int .i64 a) (.int .i64 b) (.int .i64 q) (.slice p3 n3 c3') (.slice p4 n4 c4')); have R4 := Lib.hid (R3.out.put (.int .i64 a) (.int .i64 b) (.int .i64 q) (.slice p3 n3 c3') (.slice p4 n4 c4')); have CK1 := Lib.hid (CK.out cs hcs hgc hwf _ _ _ (Owns.row O3.out) (OwnK.row K3.out)); obtain ⟨i0, i1, i2, i3, i4, j0, j1, j2, j3, j4, i5, j5⟩ := R3.out.facts; obtain ⟨k0, k1, k2, k3, k4, l0, l1, l2, l3, l4, k5, l5⟩ := R4.out.facts; clear hb ho hk hcs hgc hwf)
      | (go_at_call 16; (with_reducible refine CK1.out.mono ?_); rintro E5 w5 ⟨rfl, hb⟩; have R5 := Lib.hid (R4.out.on hb); have O5 := Lib.hid (own_below O3.out hb); have K5 := Lib.hid (own_below K3.out hb); obtain ⟨m0, m1, m2, m3, m4, o0, o1, o2, o3, o4, m5, o5⟩ := R5.out.facts; have R6 := Lib.hid (R5.out.put (.int .i64 a) (.int .i64 b) (.int .i64 q) (.slice p3 n3 c3') (.slice p4 n4 c4')); obtain ⟨n0', n1', n2', n3', n4', q0, q1, q2, q3, q4, n5', q5⟩ := R6.out.facts; clear hb))
    refine leaves_cons (f := 22) (args := #[.pointer (some ⟨w.heap.size, 0, none⟩), .pointer (some ⟨w.heap.size + 1, 0, none⟩)]) (by simp) (by simp [go_sem]) ?_
    refine (dec_idle ⟨w.heap.size, 0, none⟩ ⟨w.heap.size + 1, 0, none⟩ _).mono ?_
    rintro e u' w'' ⟨rfl, rfl, rfl⟩
    have R7 := R6.out.fail 0
    have hl2 := Nat.lt_of_succ_lt hlt.out
    have ho := Owns.row (own_far (own_five O5.out hl2 (.int .i64 a) (.int .i64 b) (.int .i64 q) (.slice p3 n3 c3') (.slice p4 n4 c4')) hlt.out 0 (.int .i64 0))
    have hk := OwnK.row (own_far (own_five K5.out hl2 (.int .i64 a) (.int .i64 b) (.int .i64 q) (.slice p3 n3 c3') (.slice p4 n4 c4')) hlt.out 0 (.int .i64 0))
    obtain ⟨r0, r1, r2, r3, r4, -, -, -, -, -, r5, -⟩ := R7.facts
    have HR : ReadIs zs w (.returned (.tuple #[.agg #[.int .i64 a, .int .i64 b, .int .i64 q, .slice p3 n3 c3', .slice p4 n4 c4'], .int .i64 0])) _ := ⟨a, b, q, _, _, 0, ds, cs, rfl, R7.below, ho, hk, HGC.out, .inl ⟨rfl, by rw [← HCS.out]; exact HD.out⟩⟩
    clear n0' n1' n2' n3' n4' n5' q0 q1 q2 q3 q4 q5 m0 m1 m2 m3 m4 m5 o0 o1 o2 o3 o4 o5 i0 i1 i2 i3 i4 i5 j0 j1 j2 j3 j4 j5 k0 k1 k2 k3 k4 k5 l0 l1 l2 l3 l4 l5 ho hk
    generalize (((((w5.setCell ⟨w.heap.size, 0, none⟩ (.int .i64 a)).setCell ⟨w.heap.size, 1, none⟩ (.int .i64 b)).setCell ⟨w.heap.size, 2, none⟩ (.int .i64 q)).setCell ⟨w.heap.size, 3, none⟩ (.slice p3 n3 c3')).setCell ⟨w.heap.size, 4, none⟩ (.slice p4 n4 c4')).setCell ⟨w.heap.size + 1, 0, none⟩ (.int .i64 0) = wf at *
    simp [Leaves, settle, results, Try.results10, go_sem, r0, r1, r2, r3, r4, r5]
    exact HR
  · have HD : Hid (dec zs = .error x) := Lib.hid (by rw [hd]; exact if_pos (by omega))
    have CX := Lib.hid (fun W => giveup_no x W h0)
    unfold panL at CX
    have HN := Lib.hid h0
    have hxn : ¬ (x : Int) = 0 := by omega
    clear hd h0
    go_enter_defers Try.func10, Try.ntmps10
    go_wp2_with (first
      | (go_at_call 23; (with_reducible refine CO.out.mono ?_); rintro E1 w1 ⟨v1, rfl, ho, hb⟩; obtain ⟨p1, n1, cap1, rfl, hrd⟩ := rd_start ho hr (k := 0) (w := w) (by simp); have KW1 := Lib.hid (KW.out _ _ _ hrd); have R1 := Lib.hid (R0.out.on hb); have R2 := Lib.hid (R1.out.fail 0); obtain ⟨c0, c1, c2, c3, c4, f0, f1, f2, f3, f4, c5, f5⟩ := R1.out.facts; clear ho hb hrd)
      | (go_at_call 24; (with_reducible refine (CG.out _).mono ?_); rintro E2 w2 ⟨rfl, rfl⟩)
      | (go_at_call 24; (with_reducible refine (CX.out _).mono ?_); rintro E2 w2 ⟨rfl, rfl⟩)
      | (go_at_call 25; (with_reducible refine KW1.out.mono ?_); rintro E3 w3 ⟨p3, n3, c3', p4, n4, c4', cs, hcs, hgc, hwf, rfl, hb, ho, hk⟩; have HCS := Lib.hid hcs; have HGC := Lib.hid hgc; have R3 := Lib.hid (R2.out.on hb); have hlt := Lib.hid R2.out.lt; have O3 := Lib.hid (own_five ho (Nat.lt_of_succ_lt hlt.out) (.int .i64 a) (.int .i64 b) (.int .i64 q) (.slice p3 n3 c3') (.slice p4 n4 c4')); have K3 := Lib.hid (own_five hk (Nat.lt_of_succ_lt hlt.out) (.int .i64 a) (.int .i64 b) (.int .i64 q) (.slice p3 n3 c3') (.slice p4 n4 c4')); have R4 := Lib.hid (R3.out.put (.int .i64 a) (.int .i64 b) (.int .i64 q) (.slice p3 n3 c3') (.slice p4 n4 c4')); have CK1 := Lib.hid (CK.out cs hcs hgc hwf _ _ _ (Owns.row O3.out) (OwnK.row K3.out)); obtain ⟨i0, i1, i2, i3, i4, j0, j1, j2, j3, j4, i5, j5⟩ := R3.out.facts; obtain ⟨k0, k1, k2, k3, k4, l0, l1, l2, l3, l4, k5, l5⟩ := R4.out.facts; clear hb ho hk hcs hgc hwf)
      | (go_at_call 16; (with_reducible refine CK1.out.mono ?_); rintro E5 w5 ⟨rfl, hb⟩; have R5 := Lib.hid (R4.out.on hb); clear hb))
    refine leaves_cons (f := 22) (args := #[.pointer (some ⟨w.heap.size, 0, none⟩), .pointer (some ⟨w.heap.size + 1, 0, none⟩)]) (by simp) (by simp [go_sem]) ?_
    refine (R5.out.caught x).mono ?_
    rintro E6 u' w6 ⟨rfl, rfl, F3, q3, B3⟩
    obtain ⟨d0, d1, d2, d3, d4⟩ := F3.cells
    have HR := no_read HN.out HD.out B3
    simp [Leaves, settle, results, Try.results10, go_sem, d0, d1, d2, d3, d4, q3]
    exact HR
set_option maxRecDepth 100000 in
/-- Decode. -/
theorem decode_any (v : Value) (zs : List UInt8) (w : World) (h : layB.Row w v zs) (hl : zs.length ≤ 100000) : Calls Try.prog 10 #[v] w (ReadIs zs w) := by
  obtain ⟨r, e, he⟩ : ∃ r e, opn zs = (r, e) := ⟨_, _, rfl⟩
  by_cases hne : e = 0
  · subst hne
    cases hg : gwhole r with
    | error e => exact dec_err v zs w h hl r he e hg
    | ok y =>
      obtain ⟨a, b, q, ds, cs'⟩ := y
      exact dec_rec v zs w h hl r he a b q ds cs' hg
  · exact dec_sum v zs w h hl r e he hne
end Go.Proofs.Ytapjjeffegnflaa.Cod

/- Part: What the statements of layer 11 (codec) want: Encode's and Decode's answers in the form in which they are met; records that are the same; the statements' small play. Conditions: those in each statement. -/
namespace Go.Proofs.Ytapjjeffegnflaa.Cod
open Go.RowKit F64 Cmd Bat Ids Rec Wir Dig
set_option linter.unusedVariables false
set_option linter.unusedSimpArgs false

/-! ### Plain -/
theorem cmdB_cmdC (c : Cmdn) : cmdB (cmdC c) = cmdB c := by
  obtain ⟨k, s, v⟩ := c
  unfold cmdB cmdC
  cases hv : hasV k
  · simp [hv]
  · simp [hv, canon_canon]
theorem recB_cmdC (a b q : Int) (ds : List Idn) (cs : List Cmdn) : recB a b q ds (cs.map cmdC) = recB a b q ds cs := by
  unfold recB cmdsB
  rw [List.length_map, List.map_map]
  congr 2
  exact List.map_congr_left fun c _ => cmdB_cmdC c
/-- A command without a number has +0. -/
def Zero (cs : List Cmdn) : Prop := ∀ c ∈ cs, hasV c.1 = false → c.2.2 = 0
theorem zero_good {cs : List Cmdn} (h : GoodC cs) : Zero cs := fun c hc => (h c hc).2
theorem zero_right {a b q : Int} {ds : List Idn} {cs : List Cmdn} (h : rErr a b q ds cs = 0) : Zero cs := fun c hc hv => by
  have hr := (may_of h).cms c hc
  obtain ⟨k, s, v⟩ := c
  unfold right at hr
  have h2 := (right_parts hr).2
  unfold mayV at h2
  rw [decide_eq_true_eq] at h2
  simp only [] at h2 hv ⊢
  unfold hasV at hv
  rw [Bool.or_eq_false_iff, beq_eq_false_iff_ne, beq_eq_false_iff_ne] at hv
  rcases h2 with h2 | h2 | ⟨-, h2⟩
  · exact absurd h2 hv.1
  · exact absurd h2 hv.2
  · exact h2
theorem same_cmdC {c d : Cmdn} (hc : hasV c.1 = false → c.2.2 = 0) (hd : hasV d.1 = false → d.2.2 = 0) (h : cmdC c = cmdC d) : Bat.same c d = true := by
  obtain ⟨k, s, v⟩ := c
  obtain ⟨k', s', v'⟩ := d
  unfold cmdC at h
  simp only [] at h hc hd
  injection h with h1 h2
  injection h2 with h2 h3
  subst h1 h2
  unfold Bat.same cSame _root_.Go.Proofs.Ytapjjeffegnflaa.same
  simp only []
  simp only [decide_true, Bool.true_and, decide_eq_true_eq]
  cases hv : hasV k
  · rw [hc hv, hd hv]
  · rw [hv, if_pos rfl, if_pos rfl] at h3; exact h3
theorem bsame_cmdC {cs cs' : List Cmdn} (hc : Zero cs) (hd : Zero cs') (h : cs.map cmdC = cs'.map cmdC) : bSame cs cs' = true := by
  have hl : cs.length = cs'.length := by have := congrArg List.length h; simpa using this
  refine bsame_yes hl fun j hj => ?_
  have hj' : j < cs'.length := by omega
  have e := congrArg (fun l => l[j]?) h
  simp only [List.getElem?_map, List.getElem?_eq_getElem hj, List.getElem?_eq_getElem hj', Option.map_some, Option.some.injEq] at e
  rw [layC.at_get hj, layC.at_get hj']
  exact same_cmdC (hc _ (List.getElem_mem hj)) (hd _ (List.getElem_mem hj')) e
theorem rsame_cmdC {a b q : Int} {ds : List Idn} {cs cs' : List Cmdn} (hc : Zero cs) (hd : Zero cs') (h : cs.map cmdC = cs'.map cmdC) : rSame a b q ds cs a b q ds cs' = true := by
  unfold rSame
  rw [decide_eq_true rfl, decide_eq_true rfl, decide_eq_true rfl, bsame_cmdC hc hd h]; rfl
theorem rsame_nil : rSame 0 0 0 [] [] 0 0 0 [] [] = true := rsame_cmdC (fun c hc => absurd hc (by simp)) (fun c hc => absurd hc (by simp)) rfl
/-- The record that the bytes hold: what it has. -/
theorem dec_has {zs : List UInt8} {a b q : Int} {ds : List Idn} {cs : List Cmdn} (hg : GoodC cs) (h : dec zs = .ok (a, b, q, ds, cs.map cmdC)) : (∀ x ∈ cs, wfC x) ∧ rErr a b q ds cs = 0 ∧ sealt (recB a b q ds cs) = zs := by
  obtain ⟨h1, h2, h3⟩ := dec_out h
  refine ⟨fun x hx => ⟨(hg x hx).1, ?_⟩, by rw [← rerr_cmdC hg]; exact h2, by rw [h1, recB_cmdC]⟩
  have := (h3 _ (List.mem_map_of_mem hx)).1.2.2.1
  unfold cmdC at this
  simp only [] at this
  omega

/-! ### Answers as they are met -/
/-- A record, read. -/
def GivesRd (a b q : Int) (ds : List Idn) (cs' : List Cmdn) (w : World) (E : Ending) (W' : World) : Prop :=
  ∃ (p1 : Option Addr) (c1 : Nat) (p2 : Option Addr) (c2 : Nat) (cs : List Cmdn), E = .returned (.tuple #[.agg #[.int .i64 a, .int .i64 b, .int .i64 q, .slice p1 ds.length c1, .slice p2 cs.length c2], .int .i64 0]) ∧ cs.map cmdC = cs' ∧ GoodC cs ∧ RowAt W' (.slice p1 ds.length c1) ds ∧ layC.Row W' (.slice p2 cs.length c2) cs ∧ Below w.heap.size w W'
/-- No record. -/
def GivesNo (e : Nat) (w : World) (E : Ending) (W' : World) : Prop :=
  ∃ (p1 : Option Addr) (c1 : Nat) (p2 : Option Addr) (c2 : Nat), E = .returned (.tuple #[.agg #[.int .i64 0, .int .i64 0, .int .i64 0, .slice p1 0 c1, .slice p2 0 c2], .int .i64 (e : Int)]) ∧ RowAt W' (.slice p1 0 c1) [] ∧ layC.Row W' (.slice p2 0 c2) [] ∧ Below w.heap.size w W'
theorem ReadIs.took {zs : List UInt8} {w : World} {E : Ending} {W' : World} {a b q : Int} {ds : List Idn} {cs' : List Cmdn} (h : ReadIs zs w E W') (hd : dec zs = .ok (a, b, q, ds, cs')) : GivesRd a b q ds cs' w E W' := by
  obtain ⟨a', b', q', v, u, e, ds', cs, rfl, hb, hr, hk, hg, h⟩ := h
  rcases h with ⟨rfl, h1⟩ | ⟨h0, h1, -⟩
  · rw [hd] at h1
    injection h1 with h1
    injection h1 with ha h1
    injection h1 with hb' h1
    injection h1 with hq h1
    injection h1 with hd' hc
    subst ha hb' hq hd' hc
    have hr' := hr
    have hk' := hk
    obtain ⟨p1, c1, rfl, -⟩ := hr
    obtain ⟨p2, c2, rfl, -⟩ := hk
    exact ⟨p1, c1, p2, c2, cs, rfl, rfl, hg, hr', hk', hb⟩
  · rw [hd] at h1; cases h1
theorem ReadIs.fell {zs : List UInt8} {w : World} {E : Ending} {W' : World} {e : Nat} (h : ReadIs zs w E W') (hd : dec zs = .error e) : e ≠ 0 ∧ GivesNo e w E W' := by
  obtain ⟨a', b', q', v, u, e', ds', cs, rfl, hb, hr, hk, hg, h⟩ := h
  rcases h with ⟨rfl, h1⟩ | ⟨h0, h1, rfl, rfl, rfl, rfl, rfl⟩
  · rw [hd] at h1; cases h1
  · rw [hd] at h1
    injection h1 with h1
    subst h1
    have hr' := hr
    have hk' := hk
    obtain ⟨p1, c1, rfl, -⟩ := hr
    obtain ⟨p2, c2, rfl, -⟩ := hk
    exact ⟨h0, p1, c1, p2, c2, rfl, hr', hk', hb⟩
/-- What Encode gives of a record that may be: bytes of the call's own. -/
def GivesEn (zs : List UInt8) (n : Nat) (w : World) (E : Ending) (w' : World) : Prop := ∃ g cap, E = .returned (.tuple #[.slice (some ⟨g, 0, none⟩) n cap, .int .i64 0]) ∧ OwnB w' w.heap.size (.slice (some ⟨g, 0, none⟩) n cap) zs ∧ n ≤ cap ∧ Below w.heap.size w w'
theorem enc_ok {a b q : Int} {v u : Value} {ds : List Idn} {cs : List Cmdn} {w : World} (h : RowAt w v ds) (g : layC.Row w u cs) (hw : ∀ x ∈ cs, wfC x) (h0 : rErr a b q ds cs = 0) {zs : List UInt8} {n : Nat} (hz : sealt (recB a b q ds cs) = zs) (hn : zs.length = n) (hn0 : 0 < n) : Calls Try.prog 7 #[.agg #[.int .i64 a, .int .i64 b, .int .i64 q, v, u]] w (GivesEn zs n w) :=
  (enc_r a b q v u ds cs w h g hw).mono fun E w' h => by
    subst hz
    obtain ⟨v1, e, rfl, hb, rfl, h⟩ := h
    rcases h with ⟨he, ho⟩ | ⟨he, -⟩
    · rw [he]
      obtain ⟨g1, cap, e1, e2, e3, -⟩ := gives_g (w := w) ⟨v1, rfl, ho, hb⟩ hn hn0
      injection e1 with e1
      subst e1
      exact ⟨g1, cap, rfl, e2, e3, hb⟩
    · exact absurd h0 he
def GivesEx (x : Int) (w : World) (E : Ending) (w' : World) : Prop := E = .returned (.tuple #[.slice none 0 0, .int .i64 x]) ∧ Below w.heap.size w w'
theorem enc_no {a b q : Int} {v u : Value} {ds : List Idn} {cs : List Cmdn} {w : World} (h : RowAt w v ds) (g : layC.Row w u cs) (hw : ∀ x ∈ cs, wfC x) {x : Int} (hx : rErr a b q ds cs = x) (h0 : x ≠ 0) : Calls Try.prog 7 #[.agg #[.int .i64 a, .int .i64 b, .int .i64 q, v, u]] w (GivesEx x w) :=
  (enc_r a b q v u ds cs w h g hw).mono fun E w' h => by
    subst hx
    obtain ⟨v1, e, rfl, hb, rfl, h⟩ := h
    rcases h with ⟨he, -⟩ | ⟨he, rfl⟩
    · exact absurd he h0
    · exact ⟨rfl, hb⟩

/-! ### The statements' play -/
theorem play_err : rErr 1 2 3 [] [] = 0 := by decide
theorem play_bytes : recB 1 2 3 [] [] = [1, 2, 3, 0, 0] := by
  unfold recB headB depsB cmdsB encI
  simp only [List.length_nil, List.map_nil, List.flatten_nil, List.append_nil]
  rw [show (1 : Int).toNat = 1 from rfl, show (2 : Int).toNat = 2 from rfl, show (3 : Int).toNat = 3 from rfl, enc_small (by decide), enc_small (by decide), enc_small (by decide), enc_small (by decide)]
  rfl
set_option maxHeartbeats 4000000 in
set_option maxRecDepth 100000 in
theorem cplay_any (w : World) : Calls Try.prog 6 #[] w (RetBelow (.bool true) w) := by
  have hw0 : ∀ x ∈ ([] : List Cmdn), wfC x := fun x hx => absurd hx (by simp)
  obtain ⟨Z, hZ⟩ : ∃ Z, sealt (recB 1 2 3 [] []) = Z := ⟨_, rfl⟩
  have hn : Z.length = 13 := by rw [← hZ, seal_len, play_bytes]; rfl
  have h5 : Z.take 5 = [1, 2, 3, 0, 0] := by rw [← hZ, play_bytes]; unfold sealt; rfl
  have hd : dec Z = .ok (1, 2, 3, [], []) := by rw [← hZ]; exact dec_put play_err (fun c hc => absurd hc (by simp))
  have CE : Hid (Calls Try.prog 7 #[.agg #[.int .i64 1, .int .i64 2, .int .i64 3, .slice none 0 0, .slice none 0 0]] w (GivesEn Z 13 w)) := Lib.hid (enc_ok (nil_ids w) (nil_cmds w) hw0 play_err hZ hn (by decide))
  have CD : Hid (∀ W V, layB.Row W V Z → Calls Try.prog 10 #[V] W (GivesRd 1 2 3 [] [] W)) := Lib.hid fun W V hr => (decode_any V Z W hr (by omega)).mono fun E w' h => h.took hd
  have h12 : 5 ≤ 13 := by decide
  have HT : Hid (∀ W base g cap, OwnB W base (.slice (some ⟨g, 0, none⟩) 13 cap) Z → 13 ≤ cap → (∀ w, (Instr.slice 29 (.slice (some ⟨g, 0, none⟩) 13 cap) none (some (.int .i64 5)) none).run Try.prog w = .ok (.slice (cutq (some ⟨g, 0, none⟩) 0 cap) 5 cap) w) ∧ ∀ X, Below W.heap.size W X → (convert 29 9 (.slice (cutq (some ⟨g, 0, none⟩) 0 cap) 5 cap)).run Try.prog X = .ok (.string (str [1, 2, 3, 0, 0])) X) := Lib.hid fun W base g cap ho hc => by
    have hr := rowB ho
    have hcap : cap ≤ 9223372036854775807 := by obtain ⟨p, c, e, -, h⟩ := own_len ho; injection e with _ _ e3; rw [e3]; exact h
    have hr2 := row_cut hr 0 5 cap (by decide) (by omega) (by omega) hcap
    rw [h5] at hr2
    exact ⟨fun w => by have := cut_to (some ⟨g, 0, none⟩) 13 cap 5 (by omega) w; exact this, fun X hb => text_run (hr2.on hb)⟩
  have e1 : ((str [1, 2, 3, 0, 0]).toList == [1, 2, 3, 0, 0]) = true := by rw [str, ByteArray.toList_mk]; decide
  clear hZ hn h5 hd hw0 h12
  go_enter Try.func6, Try.ntmps6
  go_wp2_with (first
    | (go_at_call 7; (with_reducible refine CE.out.mono ?_); rintro E1 w1 ⟨g, cap, rfl, ho, hc, hb⟩; have D1 := Lib.hid hb; have C1 := Lib.hid (CD.out _ _ (rowB ho)); obtain ⟨hs, ht⟩ := HT.out _ _ _ _ ho hc; have HT1 := Lib.hid ht; have hcap := hc; generalize cutq (some ⟨g, 0, none⟩) 0 cap = q0 at hs HT1; clear ho hb hc ht)
    | (go_at_call 10; (with_reducible refine C1.out.mono ?_); rintro E2 w2 ⟨p1, c1, p2, c2, cs, rfl, hcs, -, -, -, hb⟩; obtain rfl : cs = [] := List.map_eq_nil_iff.1 hcs; have D2 := Lib.hid (D1.out.trans (hb.mono D1.out.size)); have D3 := Lib.hid (D2.out.alloc D2.out.size (.cells #[.int .i64 1, .int .i64 2, .int .i64 3, .slice p1 0 c1, .slice p2 0 c2] 27)); have ht3 := HT1.out _ ((hb.alloc hb.size (.cells #[.int .i64 1, .int .i64 2, .int .i64 3, .slice p1 0 c1, .slice p2 0 c2] 27))); clear hb hcs))
  go_ret
  exact ⟨rfl, D3.out⟩
end Go.Proofs.Ytapjjeffegnflaa.Cod
