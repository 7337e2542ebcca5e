/- What the program's Text and Read give, and the document's (layer 3, ident): an id's text, or none; the id of any text, or none. Conditions: the library's tables and errors as they are laid (Env). -/
import Derived.Test.YtnjaoohgmfphgaaDoorEnv
import Derived.Test.YtnjaoohgmfphgaaDoorIdT
import Derived.Test.YtnjaoohgmfphgaaDoorIdP
import Derived.Laws.ResultCell
namespace Go.Proofs.YtnjaoohgmfphgaaDoor
open Go.RowKit Go.Lib
set_option linter.unusedVariables false

def boxW (w : World) (a b : Int) : World := w.alloc (cells a b)
theorem left_box {w : World} (h : Env w) (a b : Int) : Left w (w.alloc (cells a b)) := .of h (below_one _ _)
theorem err_right {a b : Int} (h : idErr (a, b) = 0) : 0 ≤ a ∧ a < 8 ∧ 1 ≤ b ∧ b ≤ 1048576 := right_parts (x := (a, b)) ((right_err _).2 h)

set_option maxHeartbeats 1000000 in
set_option maxRecDepth 100000 in
theorem idtext_any (a b : Int) (w : World) (hE : Env w) (hr : idErr (a, b) = 0) : Calls Tryd.prog 9 #[.agg #[.int .i64 a, .int .i64 b]] w (GivesStr (idText (a, b)) w) := by
  have hp := err_right hr
  have HE := Lib.hid hE
  have hc := check_any a b
  rw [hr] at hc
  have HC := Lib.hid hc
  have l1 := (slot_len hp.2.2.1 hp.2.2.2).2
  have l0 : (itoa a).length = 1 := by rw [Dec.itoa_one hp.1 (by omega)]; rfl
  have a1 : ∀ w, (Op.stringOp .add (str (itoa a)) ⟨#[46]⟩).run Tryd.prog w = .ok (.string (str (itoa a ++ [46]))) w := fun w => by
    rw [run_string_add_sum w _ _ (by rw [str_size]; show _ + 1 ≤ _; omega)]
    rw [← str_append]; rfl
  have a2 : ∀ w, (Op.stringOp .add (str (itoa a ++ [46])) (str (itoa b))).run Tryd.prog w = .ok (.string (str (idText (a, b)))) w := fun w => by
    rw [run_string_add_sum w _ _ (by rw [str_size, str_size, List.length_append]; show _ + 1 + _ ≤ _; omega)]
    rw [str_append, List.append_assoc]; rfl
  have HA := Lib.hid hp
  have HF : Hid (∀ W0, W0 = (w.alloc (cells a b)).alloc (cells a b) → Left w W0 ∧ Boxed w a b W0) := Lib.hid fun W0 h => by
    subst h
    exact ⟨(left_box hE a b).trans (left_box (left_box hE a b).env a b), (Boxed.start w a b).on (below_one _ (cells a b))⟩
  clear hE hr hp hc l0 l1
  go_enter Tryd.func9, Tryd.ntmps9
  go_wp2_with (first
    | (go_at_call 6; ((with_reducible refine (HC.out _).mono ?_); rintro e W0 ⟨rfl, hw⟩; have HL0 := Lib.hid (HF.out W0 hw).1; have HB0 := Lib.hid (HF.out W0 hw).2; clear hw)))
  have d0 := HB0.out.fst
  have d1 := HB0.out.snd
  have HD : Hid (Left W0 W0.drew) := Lib.hid (Left.of HL0.out.env ((Below.refl _ _).drew))
  go_region_held3 (fun w' => w'.cell? ⟨w.heap.size, 0, none⟩ = some (.int .i64 a) ∧ w'.cell? ⟨w.heap.size, 1, none⟩ = some (.int .i64 b))
    (first
      | exact ⟨HB0.out.fst, HB0.out.snd⟩
      | exact ⟨((HB0.out.on HD.out.below).on HL1.out.below).fst, ((HB0.out.on HD.out.below).on HL1.out.below).snd⟩
      | exact ⟨(((HB0.out.on HD.out.below).on HL1.out.below).on HL2.out.below).fst, (((HB0.out.on HD.out.below).on HL1.out.below).on HL2.out.below).snd⟩
      | go_keep)
    (first
      | (go_at_call 21; refine (itoa_any a _ HD.out.env (by have := HA.out; omega) (by have := HA.out; omega)).mono ?_; rintro e w1 ⟨rfl, hL1⟩; have HL1 := Lib.hid hL1; clear hL1)
      | (go_at_call 21; refine (itoa_any b _ HL1.out.env (by have := HA.out; omega) (by have := HA.out; omega)).mono ?_; rintro e w2 ⟨rfl, hL2⟩; have HL2 := Lib.hid hL2; clear hL2))
  go_wp2
  go_ret
  exact ⟨rfl, ((HL0.out.trans HD.out).trans HL1.out).trans HL2.out⟩
theorem idtext_none (a b : Int) (w : World) (hE : Env w) (hr : idErr (a, b) ≠ 0) : Calls Tryd.prog 9 #[.agg #[.int .i64 a, .int .i64 b]] w (GivesStr [] w) := by
  have HC := Lib.hid (check_any a b)
  generalize idErr (a, b) = r at hr HC
  have HL0 := Lib.hid ((left_box hE a b).trans (left_box (left_box hE a b).env a b))
  clear hE
  go_enter Tryd.func9, Tryd.ntmps9
  go_wp2_with (first
    | (go_at_call 6; ((with_reducible refine (HC.out _).mono ?_); rintro e w' ⟨rfl, rfl⟩)))
  go_ret
  exact ⟨rfl, HL0.out⟩
/-- An id's text, if it may be; else nothing. -/
def textOf (x : Idn) : List UInt8 := if idErr x = 0 then idText x else []
theorem idtext (x : Idn) (w : World) (hE : Env w) : Calls Tryd.prog 9 #[.agg #[.int .i64 x.1, .int .i64 x.2]] w (GivesStr (textOf x) w) := by
  unfold textOf
  by_cases h : idErr x = 0
  · rw [if_pos h]; exact idtext_any x.1 x.2 w hE h
  · rw [if_neg h]; exact idtext_none x.1 x.2 w hE h

/-! ### near -/
def AtoiOk (n : Int) (w : World) (e : Ending) (w' : World) : Prop := e = .returned (.tuple #[.int .i64 n, .nilIface]) ∧ Left w w'
def AtoiErr (w : World) (e : Ending) (w' : World) : Prop := ∃ (T : TypeId) (p : Value), e = .returned (.tuple #[.int .i64 0, .iface T p]) ∧ Left w w'
theorem atoi_ok (l : List UInt8) (n : Int) (w : World) (hE : Env w) (hl : l.length ≤ 18) (h : Lib.atoi l = some n) : Calls Tryd.prog 32 #[.string (str l)] w (AtoiOk n w) :=
  (Tryd.strconv_Atoi (str l) n (by rw [str_size]; omega) h w).mono fun e w' ⟨he, t, hw⟩ => ⟨he, .of hE (by rw [hw]; exact Lib.bytesWorld_below _ _ _)⟩
theorem atoi_err (l : List UInt8) (w : World) (hE : Env w) (hl : l.length ≤ 18) (h : Lib.atoi l = none) : Calls Tryd.prog 32 #[.string (str l)] w (AtoiErr w) := by
  obtain ⟨tp, p, hv⟩ := hE.syn
  exact (Tryd.strconv_Atoi_err_var (str l) (by rw [str_size]; omega) h tp p w hv).mono fun e w' ⟨N, he, _, _, hb⟩ => ⟨_, _, he, .of hE hb⟩
theorem cutdot_any (l : List UInt8) (w : World) (hE : Env w) (hl : l.length ≤ 1000) : Calls Tryd.prog 31 #[.string (str l), .string ⟨#[46]⟩] w fun e w' => e = .returned (.tuple #[.string (str (Lib.cut l [46]).1), .string (str (Lib.cut l [46]).2.1), .bool (Lib.cut l [46]).2.2]) ∧ Left w w' := by
  obtain ⟨m, hm⟩ := hE.most
  exact (Tryd.strings_Cut (str l) ⟨#[46]⟩ m w (by rw [str_size]; omega) hm).mono fun e w' ⟨he, n, hw⟩ => ⟨he, .of hE (by rw [hw]; exact Go.Joins.below_draws _ _ _)⟩
theorem cut_len (l p : List UInt8) : (Lib.cut l p).1.length ≤ l.length ∧ (Lib.cut l p).2.1.length ≤ l.length := by
  unfold Lib.cut
  split
  · simp only [List.length_take, List.length_drop]; omega
  · simp

/-- What near gives: some id, or none; the one whose text it is, if there is one. -/
def NearIs (l : List UInt8) (x : Idn) (ok : Bool) : Prop := (∀ y, idRight y = true → idText y = l → x = y ∧ ok = true) ∧ (ok = true → l ≠ [])
def GivesNear (l : List UInt8) (w : World) (e : Ending) (w' : World) : Prop := ∃ (x : Idn) (ok : Bool), e = .returned (.tuple #[.agg #[.int .i64 x.1, .int .i64 x.2], .bool ok]) ∧ NearIs l x ok ∧ Left w w'
theorem near_long {l : List UInt8} (h : 9 < l.length) (x : Idn) : NearIs l x false := ⟨fun y hy e => by
  have := text_len hy
  rw [e] at this; omega, fun h => by cases h⟩
theorem near_parts {l : List UInt8} {y : Idn} (hy : idRight y = true) (e : idText y = l) : Lib.atoi (Lib.cut l [46]).1 = some y.1 ∧ Lib.atoi (Lib.cut l [46]).2.1 = some y.2 := by
  have hp := right_parts hy
  rw [← e, text_cut]
  exact ⟨atoi_itoa (by omega), atoi_itoa (by omega)⟩

/-- A box of the call's own, stored into. -/
def box2 (w W : World) (x y : Int) : World := (W.setCell ⟨w.heap.size, 0, none⟩ (.int .i64 x)).setCell ⟨w.heap.size, 1, none⟩ (.int .i64 y)
theorem left_box2 {w W : World} (hE : Env w) (h : Below w.heap.size w W) (x y : Int) : Left w (box2 w W x y) :=
  .of hE ((h.setCell (p := ⟨w.heap.size, 0, none⟩) (Nat.le_refl _) _).setCell (p := ⟨w.heap.size, 1, none⟩) (Nat.le_refl _) _)

theorem ret_box {fn : Func} {p u : Tmp} (h : fn.results = #[.cell p 23, .tmp u]) (tmps : Array Value) (W : World) (g : Nat) (x y : Int) (r : Value) (hp : tmps.getD p undef = .pointer (some ⟨g, 0, none⟩)) (hu : tmps.getD u undef = r)
    (c0 : W.cell? ⟨g, 0, none⟩ = some (.int .i64 x)) (c1 : W.cell? ⟨g, 1, none⟩ = some (.int .i64 y)) : (results fn tmps).run Tryd.prog W = .ok (.tuple #[.agg #[.int .i64 x, .int .i64 y], r]) W := by
  rw [results_cell_tmp h, hp, hu]
  go_simp
theorem box2_cells {w W : World} {x0 y0 : Int} (h0 : W.cell? ⟨w.heap.size, 0, none⟩ = some (.int .i64 x0)) (h1 : W.cell? ⟨w.heap.size, 1, none⟩ = some (.int .i64 y0)) (x y : Int) :
    (box2 w W x y).cell? ⟨w.heap.size, 0, none⟩ = some (.int .i64 x) ∧ (box2 w W x y).cell? ⟨w.heap.size, 1, none⟩ = some (.int .i64 y) := by
  unfold box2
  constructor
  · rw [World.cell?_setCell_other _ _ _ _ (by intro e; injection e with _ e _; omega), World.cell?_setCell_same _ _ _ h0]
  · rw [World.cell?_setCell_same _ _ _ (show (W.setCell ⟨w.heap.size, 0, none⟩ (.int .i64 x)).cell? ⟨w.heap.size, 1, none⟩ = some (.int .i64 y0) by
      rw [World.cell?_setCell_other _ _ _ _ (by intro e; injection e with _ e _; omega)]; exact h1)]

set_option maxHeartbeats 4000000 in
set_option maxRecDepth 100000 in
theorem near_any (l : List UInt8) (w : World) (hE : Env w) : Calls Tryd.prog 22 #[.string (str l)] w (GivesNear l w) := by
  have HE := Lib.hid hE
  have HL0 : Hid (Left w (w.alloc (.cells #[.int .i64 0, .int .i64 0] 23))) := Lib.hid (Left.of hE (below_one w _))
  obtain ⟨L, hL⟩ : ∃ L : Int, L = (l.length : Nat) := ⟨_, rfl⟩
  have hsz : (((str l).size : Nat) : Int) = L := by rw [str_size, hL]
  by_cases hl : 9 < L
  · have HN := Lib.hid (near_long (l := l) (by omega) (0, 0))
    clear hL hE
    go_enter Tryd.func22, Tryd.ntmps22
    go_wp2
    (try simp only [Exit.inBlock, Exit.then])
    refine bodyPost_ret (v := .tuple #[.agg #[.int .i64 0, .int .i64 0], .bool false]) ?_ rfl ?_
    · rw [results_cell_tmp rfl]; go_simp
    exact ⟨(0, 0), false, rfl, HN.out, HL0.out⟩
  · have HP := Lib.hid (fun y hy e => near_parts (l := l) (y := y) hy e)
    have hcl := cut_len l [46]
    have HC := Lib.hid (cutdot_any l _ HL0.out.env (by omega))
    have HX : Hid (∀ W, Left (w.alloc (.cells #[.int .i64 0, .int .i64 0] 23)) W → Boxed w 0 0 W) := Lib.hid fun W h => (Boxed.start w 0 0).on h.below
    generalize Lib.cut l [46] = c at *
    obtain ⟨c1, c2, c3⟩ := c
    simp only at hcl HP HC
    have H1 : Hid (c1.length ≤ 18) := Lib.hid (by omega)
    have H2 : Hid (c2.length ≤ 18) := Lib.hid (by omega)
    have HCL := Lib.hid hcl
    clear hcl hL hE
    cases h1 : Lib.atoi c1 with
    | none =>
      have HA := Lib.hid h1
      have HN : Hid (NearIs l (0, 0) false) := Lib.hid ⟨(fun y hy e => by have := (HP.out y hy e).1; rw [h1] at this; cases this), (fun h => by cases h)⟩
      clear h1
      go_enter Tryd.func22, Tryd.ntmps22
      go_wp2_with (first
        | (go_at_call 31; (with_reducible refine HC.out.mono ?_); rintro e w1 ⟨rfl, hL1⟩; have HL1 := Lib.hid hL1; clear hL1)
        | (go_at_call 32; (with_reducible refine (atoi_err _ _ HL1.out.env H1.out HA.out).mono ?_); rintro e w2 ⟨T, p, rfl, hL2⟩; have HL2 := Lib.hid (HL1.out.trans hL2); clear hL2; have q := HX.out w2 HL2.out; have q0 := q.fst; have q1 := q.snd; have q2 := q.fr0; have q3 := q.fr1; have HQ := Lib.hid q.below; clear q))
      (try simp only [Exit.inBlock, Exit.then])
      refine bodyPost_ret (v := .tuple #[.agg #[.int .i64 0, .int .i64 0], .bool false]) ?_ rfl ?_
      · exact ret_box rfl _ _ _ 0 0 _ rfl rfl (box2_cells q0 q1 0 0).1 (box2_cells q0 q1 0 0).2
      exact ⟨(0, 0), false, rfl, HN.out, left_box2 HE.out HQ.out 0 0⟩
    | some m =>
      have HA := Lib.hid h1
      cases h2 : Lib.atoi c2 with
      | none =>
        have HB := Lib.hid h2
        have HN : Hid (NearIs l (0, 0) false) := Lib.hid ⟨(fun y hy e => by have := (HP.out y hy e).2; rw [h2] at this; cases this), (fun h => by cases h)⟩
        clear h1 h2
        go_enter Tryd.func22, Tryd.ntmps22
        go_wp2_with (first
          | (go_at_call 31; (with_reducible refine HC.out.mono ?_); rintro e w1 ⟨rfl, hL1⟩; have HL1 := Lib.hid hL1; clear hL1)
          | (go_at_call 32; (with_reducible refine (atoi_ok _ _ _ HL1.out.env H1.out HA.out).mono ?_); rintro e w2 ⟨rfl, hL2⟩; have HL2 := Lib.hid (HL1.out.trans hL2); clear hL2)
          | (go_at_call 32; (with_reducible refine (atoi_err _ _ HL2.out.env H2.out HB.out).mono ?_); rintro e w3 ⟨T, p, rfl, hL3⟩; have HL3 := Lib.hid (HL2.out.trans hL3); clear hL3; have q := HX.out w3 HL3.out; have q0 := q.fst; have q1 := q.snd; have q2 := q.fr0; have q3 := q.fr1; have HQ := Lib.hid q.below; clear q))
        (try simp only [Exit.inBlock, Exit.then])
        refine bodyPost_ret (v := .tuple #[.agg #[.int .i64 0, .int .i64 0], .bool false]) ?_ rfl ?_
        · exact ret_box rfl _ _ _ 0 0 _ rfl rfl (box2_cells q0 q1 0 0).1 (box2_cells q0 q1 0 0).2
        exact ⟨(0, 0), false, rfl, HN.out, left_box2 HE.out HQ.out 0 0⟩
      | some k =>
        have HB := Lib.hid h2
        have HN : Hid (NearIs l (m, k) true) := Lib.hid ⟨(fun y hy e => by
          have h := HP.out y hy e
          rw [h1, h2] at h
          injection h.1 with e1
          injection h.2 with e2
          exact ⟨Prod.ext e1 e2, rfl⟩), fun _ e => by
          have hcl := HCL.out
          rw [e] at hcl
          have e3 : c1 = [] := List.eq_nil_of_length_eq_zero (by have := hcl.1; simpa using this)
          rw [e3] at h1; cases h1⟩
        clear h1 h2
        go_enter Tryd.func22, Tryd.ntmps22
        go_wp2_with (first
          | (go_at_call 31; (with_reducible refine HC.out.mono ?_); rintro e w1 ⟨rfl, hL1⟩; have HL1 := Lib.hid hL1; clear hL1)
          | (go_at_call 32; (with_reducible refine (atoi_ok c1 m _ HL1.out.env H1.out HA.out).mono ?_); rintro e w2 ⟨rfl, hL2⟩; have HL2 := Lib.hid (HL1.out.trans hL2); clear hL2)
          | (go_at_call 32; (with_reducible refine (atoi_ok c2 k _ HL2.out.env H2.out HB.out).mono ?_); rintro e w3 ⟨rfl, hL3⟩; have HL3 := Lib.hid (HL2.out.trans hL3); clear hL3; have q := HX.out w3 HL3.out; have q0 := q.fst; have q1 := q.snd; have q2 := q.fr0; have q3 := q.fr1; have HQ := Lib.hid q.below; clear q))
        (try simp only [Exit.inBlock, Exit.then])
        refine bodyPost_ret (v := .tuple #[.agg #[.int .i64 m, .int .i64 k], .bool true]) ?_ rfl ?_
        · exact ret_box rfl _ _ _ m k _ rfl rfl (box2_cells q0 q1 m k).1 (box2_cells q0 q1 m k).2
        exact ⟨(m, k), true, rfl, HN.out, left_box2 HE.out HQ.out m k⟩

/-! ### Read -/
/-- What Read gives: the id whose text it is; or an error, if there is none. -/
def ReadIs (l : List UInt8) (x : Idn) (er : Int) : Prop := (er = 0 ∧ idRight x = true ∧ idText x = l) ∨ (er = 3 ∧ x = (0, 0) ∧ ∀ y, idRight y = true → idText y ≠ l)
def GivesRead (l : List UInt8) (w : World) (e : Ending) (w' : World) : Prop := ∃ (x : Idn) (er : Int), e = .returned (.tuple #[.agg #[.int .i64 x.1, .int .i64 x.2], .int .i64 er]) ∧ ReadIs l x er ∧ Left w w'
theorem textof_right {x : Idn} {l : List UInt8} (h : textOf x = l) (hl : l ≠ []) : idRight x = true ∧ idText x = l := by
  unfold textOf at h
  split at h
  · rename_i hr
    exact ⟨(right_err x).2 hr, h⟩
  · exact absurd h.symm hl
theorem textof_is {x : Idn} (h : idRight x = true) : textOf x = idText x := by unfold textOf; rw [if_pos ((right_err x).1 h)]
theorem str_beq (a b : List UInt8) : ((str a).toList == (str b).toList) = (a == b) := by rw [str, str, ByteArray.toList_mk, ByteArray.toList_mk]

set_option maxHeartbeats 4000000 in
set_option maxRecDepth 100000 in
theorem read_any (l : List UInt8) (w : World) (hE : Env w) : Calls Tryd.prog 11 #[.string (str l)] w (GivesRead l w) := by
  have HE := Lib.hid hE
  have HL0 : Hid (Left w (w.alloc (.cells #[.int .i64 0, .int .i64 0] 23))) := Lib.hid (Left.of hE (below_one w _))
  have HX : Hid (∀ W, Left (w.alloc (.cells #[.int .i64 0, .int .i64 0] 23)) W → Boxed w 0 0 W) := Lib.hid fun W h => (Boxed.start w 0 0).on h.below
  have HN := Lib.hid (near_any l _ HL0.out.env)
  clear hE
  go_enter Tryd.func11, Tryd.ntmps11
  go_wp2_with (first
    | (go_at_call 22; (with_reducible refine HN.out.mono ?_); rintro e w1 ⟨x, ok, rfl, hx, hL1⟩; obtain ⟨a, b⟩ := x; have HL1 := Lib.hid hL1; have HQ := Lib.hid hx; clear hL1 hx; have q := HX.out w1 HL1.out; have q0 := q.fst; have q1 := q.snd; have q2 := q.fr0; have q3 := q.fr1; have q4 := q.lt; clear q; refine Hid.out ?_))
  cases ok with
  | false =>
    refine Lib.hid ?_
    go_wp2_with fail
    (try simp only [Exit.inBlock, Exit.then])
    have hc := box2_cells q0 q1 0 0
    refine bodyPost_ret (v := .tuple #[.agg #[.int .i64 0, .int .i64 0], .int .i64 3]) ?_ rfl ?_
    · exact ret_box rfl _ _ _ 0 0 _ rfl rfl (Lib.cell?_alloc_some _ hc.1) (Lib.cell?_alloc_some _ hc.2)
    have hl := left_box2 HE.out (HL0.out.trans HL1.out).below 0 0
    exact ⟨(0, 0), 3, rfl, .inr ⟨rfl, rfl, fun y hy e => by have := (HQ.out.1 y hy e).2; cases this⟩, hl.trans (.of hl.env (below_one _ _))⟩
  | true =>
    have hE1 := HL1.out.env
    have HT : Hid (∀ W, Env W → Calls Tryd.prog 9 #[.agg #[.int .i64 a, .int .i64 b]] W (GivesStr (textOf (a, b)) W)) := Lib.hid fun W h => idtext (a, b) W h
    have HL2 : Hid (Left w1 (w1.alloc (.cells #[.int .i64 a, .int .i64 b] 23))) := Lib.hid (.of hE1 (below_one w1 _))
    have hb2 := Boxed.start w1 a b
    have HB2 : Hid (∀ W, Left (w1.alloc (.cells #[.int .i64 a, .int .i64 b] 23)) W → Boxed w1 a b W) := Lib.hid fun W h => hb2.on h.below
    by_cases ht : textOf (a, b) = l
    · have he : ((str (textOf (a, b))).toList == (str l).toList) = true := by rw [str_beq, ht]; exact beq_self_eq_true _
      have HR := Lib.hid (textof_right ht (HQ.out.2 rfl))
      clear ht hE1 hb2 q0 q1 q2 q3
      refine Lib.hid ?_
      go_wp2_with (first
        | (go_at_call 9; (with_reducible refine (HT.out _ HL2.out.env).mono ?_); rintro e w3 ⟨rfl, hL3⟩; have HL3 := Lib.hid hL3; clear hL3; have q := HX.out w3 ((HL1.out.trans HL2.out).trans HL3.out); have q0 := q.fst; have q1 := q.snd; have q2 := q.fr0; have q3 := q.fr1; clear q; have r := HB2.out w3 HL3.out; have r0 := r.fst; have r1 := r.snd; clear r))
      (try simp only [Exit.inBlock, Exit.then])
      have hc := box2_cells q0 q1 a b
      refine bodyPost_ret (v := .tuple #[.agg #[.int .i64 a, .int .i64 b], .int .i64 0]) ?_ rfl ?_
      · exact ret_box rfl _ _ _ a b _ rfl rfl hc.1 hc.2
      exact ⟨(a, b), 0, rfl, .inl ⟨rfl, HR.out⟩, left_box2 HE.out (((HL0.out.trans HL1.out).trans HL2.out).trans HL3.out).below a b⟩
    · have he : ((str (textOf (a, b))).toList == (str l).toList) = false := by rw [str_beq]; rw [beq_eq_false_iff_ne]; exact ht
      have HR : Hid (∀ y, idRight y = true → idText y ≠ l) := Lib.hid fun y hy e => by
        have h := (HQ.out.1 y hy e).1
        rw [h, textof_is hy] at ht
        exact ht e
      clear ht hE1 hb2 q0 q1 q2 q3
      refine Lib.hid ?_
      go_wp2_with (first
        | (go_at_call 9; (with_reducible refine (HT.out _ HL2.out.env).mono ?_); rintro e w3 ⟨rfl, hL3⟩; have HL3 := Lib.hid hL3; clear hL3; have q := HX.out w3 ((HL1.out.trans HL2.out).trans HL3.out); have q0 := q.fst; have q1 := q.snd; have q2 := q.fr0; have q3 := q.fr1; clear q))
      (try simp only [Exit.inBlock, Exit.then])
      have hc := box2_cells q0 q1 0 0
      refine bodyPost_ret (v := .tuple #[.agg #[.int .i64 0, .int .i64 0], .int .i64 3]) ?_ rfl ?_
      · exact ret_box rfl _ _ _ 0 0 _ rfl rfl hc.1 hc.2
      exact ⟨(0, 0), 3, rfl, .inr ⟨rfl, rfl, HR.out⟩, left_box2 HE.out (((HL0.out.trans HL1.out).trans HL2.out).trans HL3.out).below 0 0⟩
end Go.Proofs.YtnjaoohgmfphgaaDoor
