/- What kindOf, near and Read of layer 6 (cmd) give: of any text the command whose text it is, or that there is none. Conditions: the library's tables and the kinds' words as they are laid (EnvC); a text of at most 1000 bytes. -/
import Derived.Test.YtlacjlcndejeaaaDoorCmdD
namespace Go.Proofs.YtlacjlcndejeaaaDoor.Cmd
open Go.RowKit F64 Go.Lib
set_option linter.unusedVariables false

def wd (j : Nat) : List UInt8 := match j with | 0 => [] | 1 => [103, 101, 116] | 2 => [112, 117, 116] | 3 => [100, 101, 108] | _ => [97, 100, 100]
theorem kind_at (c : List UInt8) (k : Nat) (hk : k < 5) (h : c = wd k) : kindOf c = k := by
  subst h
  have : k = 0 ∨ k = 1 ∨ k = 2 ∨ k = 3 ∨ k = 4 := by omega
  rcases this with rfl | rfl | rfl | rfl | rfl <;> rfl
theorem kind_out (c : List UInt8) (h : ∀ j, j < 5 → c ≠ wd j) : kindOf c = 5 := by
  unfold kindOf
  have h0 : c ≠ [] := h 0 (by omega)
  have h1 : c ≠ [103, 101, 116] := h 1 (by omega)
  have h2 : c ≠ [112, 117, 116] := h 2 (by omega)
  have h3 : c ≠ [100, 101, 108] := h 3 (by omega)
  have h4 : c ≠ [97, 100, 100] := h 4 (by omega)
  rw [if_neg h0, if_neg h1, if_neg h2, if_neg h3, if_neg h4]
theorem index_five (k : Nat) (hk : k < 5) (w : World) : (Instr.index 36 (.agg #[.string ⟨#[]⟩, .string ⟨#[103, 101, 116]⟩, .string ⟨#[112, 117, 116]⟩, .string ⟨#[100, 101, 108]⟩, .string ⟨#[97, 100, 100]⟩]) (.int .i64 (k : Int))).run Tryd.prog w = .ok (.string (str (wd k))) w := by
  have : k = 0 ∨ k = 1 ∨ k = 2 ∨ k = 3 ∨ k = 4 := by omega
  have h0 : ∀ (x0 x1 x2 x3 x4 : ByteArray) (w : World), (Instr.index 36 (.agg #[.string x0, .string x1, .string x2, .string x3, .string x4]) (.int .i64 0)).run Tryd.prog w = .ok (.string x0) w := fun _ _ _ _ _ _ => by kernel_rfl
  have h1 : ∀ (x0 x1 x2 x3 x4 : ByteArray) (w : World), (Instr.index 36 (.agg #[.string x0, .string x1, .string x2, .string x3, .string x4]) (.int .i64 1)).run Tryd.prog w = .ok (.string x1) w := fun _ _ _ _ _ _ => by kernel_rfl
  have h2 : ∀ (x0 x1 x2 x3 x4 : ByteArray) (w : World), (Instr.index 36 (.agg #[.string x0, .string x1, .string x2, .string x3, .string x4]) (.int .i64 2)).run Tryd.prog w = .ok (.string x2) w := fun _ _ _ _ _ _ => by kernel_rfl
  have h3 : ∀ (x0 x1 x2 x3 x4 : ByteArray) (w : World), (Instr.index 36 (.agg #[.string x0, .string x1, .string x2, .string x3, .string x4]) (.int .i64 3)).run Tryd.prog w = .ok (.string x3) w := fun _ _ _ _ _ _ => by kernel_rfl
  have h4 : ∀ (x0 x1 x2 x3 x4 : ByteArray) (w : World), (Instr.index 36 (.agg #[.string x0, .string x1, .string x2, .string x3, .string x4]) (.int .i64 4)).run Tryd.prog w = .ok (.string x4) w := fun _ _ _ _ _ _ => by kernel_rfl
  rcases this with rfl | rfl | rfl | rfl | rfl
  · exact h0 _ _ _ _ _ w
  · exact h1 _ _ _ _ _ w
  · exact h2 _ _ _ _ _ w
  · exact h3 _ _ _ _ _ w
  · exact h4 _ _ _ _ _ w

set_option maxHeartbeats 1000000 in
theorem kindof_any (c : List UInt8) (w : World) (hW : Words w) : Calls Tryd.prog 37 #[.string (str c)] w fun e w' => e = .returned (.int .i64 (kindOf c)) ∧ w = w' := by
  have c0 := hW.c0; have c1 := hW.c1; have c2 := hW.c2; have c3 := hW.c3; have c4 := hW.c4
  have HI := Lib.hid index_five
  have HA := Lib.hid (kind_at c)
  have HO := Lib.hid (kind_out c)
  generalize kindOf c = r at HA HO ⊢
  clear hW
  go_enter Tryd.func37, Tryd.ntmps37
  go_wp2
  clear c0 c1 c2 c3 c4
  go_loop [6] (fun i => ∃ k : Nat, k ≤ 5 ∧ i = .int .i64 k ∧ Hid (∀ j, j < k → c ≠ wd j)) (fun i => 5 - (RowKit.intOf i).toNat)
  case atStart => exact ⟨0, by omega, rfl, Lib.hid fun j h => absurd h (Nat.not_lt_zero _)⟩
  case round =>
    obtain ⟨k, hk, rfl, HN⟩ := hrel
    by_cases hk5 : k < 5
    · have k0 : (0 : Int) ≤ k := by omega
      have kn : (k : Int) < 5 := by omega
      have hi := HI.out k hk5
      have he := str_dec (wd k) c
      by_cases h : c = wd k
      · rw [decide_eq_true h.symm] at he
        have HR := Lib.hid (HA.out k hk5 h)
        clear h
        generalize wd k = x at hi he
        go_wp2
        go_ret
        exact ⟨ret_int HR.out.symm, rfl⟩
      · rw [decide_eq_false (fun e => h e.symm)] at he
        have HR : Hid (∀ j, j < k + 1 → c ≠ wd j) := Lib.hid fun j hj => by
          by_cases e : j = k
          · subst e; exact h
          · exact HN.out j (by omega)
        clear h
        generalize wd k = x at hi he
        go_wp2
        go_round
        case rel => exact ⟨k + 1, by omega, by go_num, HR⟩
        case measure => simp [RowKit.intOf]; omega
    · have kn : (5 : Int) ≤ k := by omega
      have HR : Hid (r = 5) := Lib.hid (HO.out fun j hj => HN.out j (by omega))
      go_wp2
      go_ret
      exact ⟨ret_int HR.out.symm, rfl⟩

/-! ### near -/
theorem cutb_any (l : List UInt8) (w : World) (hE : EnvC w) (hl : l.length ≤ 1000) : Calls Tryd.prog 35 #[.string (str l), .string ⟨#[32]⟩] w fun e w' => e = .returned (.tuple #[.string (str (Lib.cut l [32]).1), .string (str (Lib.cut l [32]).2.1), .bool (Lib.cut l [32]).2.2]) ∧ LeftC w w' := by
  obtain ⟨m, hm⟩ := hE.env.most
  exact (Tryd.strings_Cut (str l) ⟨#[32]⟩ m w (by rw [str_size]; omega) hm).mono fun e w' ⟨he, n, hw⟩ => ⟨he, .of hE (by rw [hw]; exact Go.Joins.below_draws _ _ _)⟩
theorem clone_any (l : List UInt8) (w : World) (hE : EnvC w) (hl : l.length ≤ 1000) : Calls Tryd.prog 38 #[.string (str l)] w (GivesC l w) := by
  have HC : Hid (Calls Tryd.prog 51 #[.string (str l)] w (GivesC l w)) := Lib.hid ((Tryd.stringslite_Clone (str l) w (by rw [str_size]; omega)).mono fun e w' ⟨he, hb⟩ => ⟨he, .of hE hb⟩)
  clear hE hl
  go_enter Tryd.func38, Tryd.ntmps38
  go_wp2_with (go_at_call 51; (with_reducible refine HC.out.mono ?_); rintro e w1 ⟨rfl, hL1⟩; have HL1 := Lib.hid hL1; clear hL1)
  go_ret
  exact ⟨rfl, HL1.out⟩

/-- A box of the call's own, stored into. -/
def put (W : World) (g : Nat) (k : Int) (s : List UInt8) (v : Nat) : World := ((W.setCell ⟨g, 0, none⟩ (.int .i64 k)).setCell ⟨g, 1, none⟩ (.string (str s))).setCell ⟨g, 2, none⟩ (.float .f64 v)
theorem Boxed.set {w W : World} {g : Nat} {k0 : Int} {s0 : List UInt8} {v0 : Nat} (h : Boxed w g k0 s0 v0 W) (k : Int) (s : List UInt8) (v : Nat) : Boxed w g k s v (put W g k s v) := by
  have n01 : (⟨g, 0, none⟩ : Addr) ≠ ⟨g, 1, none⟩ := fun e => by injection e with _ e _; omega
  have n02 : (⟨g, 0, none⟩ : Addr) ≠ ⟨g, 2, none⟩ := fun e => by injection e with _ e _; omega
  have n12 : (⟨g, 1, none⟩ : Addr) ≠ ⟨g, 2, none⟩ := fun e => by injection e with _ e _; omega
  have e1 : (W.setCell ⟨g, 0, none⟩ (.int .i64 k)).cell? ⟨g, 1, none⟩ = some (.string (str s0)) := by rw [World.cell?_setCell_other _ _ _ _ n01]; exact h.c1
  have e2 : ((W.setCell ⟨g, 0, none⟩ (.int .i64 k)).setCell ⟨g, 1, none⟩ (.string (str s))).cell? ⟨g, 2, none⟩ = some (.float .f64 v0) := by
    rw [World.cell?_setCell_other _ _ _ _ n12, World.cell?_setCell_other _ _ _ _ n02]; exact h.c2
  refine ⟨((h.below.setCell (p := ⟨g, 0, none⟩) h.own _).setCell (p := ⟨g, 1, none⟩) h.own _).setCell (p := ⟨g, 2, none⟩) h.own _, h.own, ?_, ?_, ?_, ?_, ?_, ?_, ?_⟩
  · unfold Cmd.put; rw [size_sc, size_sc, size_sc]; exact h.lt
  · unfold Cmd.put
    rw [World.cell?_setCell_other _ _ _ _ n02.symm, World.cell?_setCell_other _ _ _ _ n01.symm, World.cell?_setCell_same _ _ _ h.c0]
  · unfold Cmd.put
    rw [World.cell?_setCell_other _ _ _ _ n12.symm, World.cell?_setCell_same _ _ _ e1]
  · unfold Cmd.put
    rw [World.cell?_setCell_same _ _ _ e2]
  · unfold Cmd.put; rw [World.frozen?_setCell, World.frozen?_setCell, World.frozen?_setCell]; exact h.f0
  · unfold Cmd.put; rw [World.frozen?_setCell, World.frozen?_setCell, World.frozen?_setCell]; exact h.f1
  · unfold Cmd.put; rw [World.frozen?_setCell, World.frozen?_setCell, World.frozen?_setCell]; exact h.f2

/-- A float is one cell: a store of it. -/
@[go_sem] theorem run_store_float {P : Program} {w : World} {m : Mode} (a : Addr) (k : FloatKind) (b : Nat) : (store a (.float k b) m).run P w = stored P w a (.float k b) m := run_store P w a _ m rfl
theorem results_cell_one {fn : Func} {p : Tmp} {ty : TypeId} (h : fn.results = #[.cell p ty]) (tmps : Array Value) (P : Program) (w : World) :
    (results fn tmps).run P w = ((asAddr (tmps.getD p undef)).run P w).andThen fun a w₁ => (loadVar ty a).run P w₁ := by
  simp only [results, h]
  simp [Sem.run_bind, Result.andThen]
theorem ret_one {fn : Func} {p : Tmp} (h : fn.results = #[.cell p 24]) (tmps : Array Value) {w W : World} {g : Nat} {k : Int} {s : List UInt8} {v : Nat} (hp : tmps.getD p undef = .pointer (some ⟨g, 0, none⟩)) (hb : Boxed w g k s v W) :
    (results fn tmps).run Tryd.prog W = .ok (.agg #[.int .i64 k, .string (str s), .float .f64 v]) W := by
  have c0 := hb.c0; have c1 := hb.c1; have c2 := hb.c2
  rw [results_cell_one h, hp]
  go_simp
theorem ret_box {fn : Func} {p u : Tmp} (h : fn.results = #[.cell p 24, .tmp u]) (tmps : Array Value) {w W : World} {g : Nat} {k : Int} {s : List UInt8} {v : Nat} {r : Value} (hp : tmps.getD p undef = .pointer (some ⟨g, 0, none⟩)) (hu : tmps.getD u undef = r) (hb : Boxed w g k s v W) :
    (results fn tmps).run Tryd.prog W = .ok (.tuple #[.agg #[.int .i64 k, .string (str s), .float .f64 v], r]) W := by
  have c0 := hb.c0; have c1 := hb.c1; have c2 := hb.c2
  rw [results_cell_tmp h, hp, hu]
  go_simp

/-- What near gives: of its kind, key and number all that a command has whose text it is. -/
structure NearIs (l : List UInt8) (k : Int) (s : List UInt8) (v : Nat) : Prop where
  lt : v < 18446744073709551616
  parsed : Parsed l k s v
def GivesNear (l : List UInt8) (w : World) (e : Ending) (w' : World) : Prop := ∃ (k : Int) (s : List UInt8) (v : Nat), e = .returned (.agg #[.int .i64 k, .string (str s), .float .f64 v]) ∧ NearIs l k s v ∧ LeftC w w'
theorem cut_len32 (l : List UInt8) : (Lib.cut l [32]).1.length ≤ l.length ∧ (Lib.cut l [32]).2.1.length ≤ l.length := cut_len l [32]

set_option maxHeartbeats 2000000 in
theorem near_any (l : List UInt8) (w : World) (hE : EnvC w) (hl : l.length ≤ 1000) : Calls Tryd.prog 23 #[.string (str l)] w (GivesNear l w) := by
  have HE := Lib.hid hE
  have HB := Lib.hid (Boxed.start w 0 [] 0)
  have H0 : Hid (EnvC (w.alloc (.cells #[.int .i64 0, .string ⟨#[]⟩, .float .f64 0] 24))) := Lib.hid (hE.on HB.out.below)
  have h1 := cut_len32 l
  have hpar := parsed_near l
  have C1 : Hid (∀ W, EnvC W → Calls Tryd.prog 35 #[.string (str l), .string ⟨#[32]⟩] W fun e w' => e = .returned (.tuple #[.string (str (Lib.cut l [32]).1), .string (str (Lib.cut l [32]).2.1), .bool (Lib.cut l [32]).2.2]) ∧ LeftC W w') := Lib.hid fun W h => cutb_any l W h hl
  generalize Lib.cut l [32] = c at *
  obtain ⟨c1, c2, c3⟩ := c
  simp only at h1 hpar C1
  have h2 := cut_len32 c2
  have C2 : Hid (∀ W, EnvC W → Calls Tryd.prog 35 #[.string (str c2), .string ⟨#[32]⟩] W fun e w' => e = .returned (.tuple #[.string (str (Lib.cut c2 [32]).1), .string (str (Lib.cut c2 [32]).2.1), .bool (Lib.cut c2 [32]).2.2]) ∧ LeftC W w') := Lib.hid fun W h => cutb_any c2 W h (by omega)
  generalize Lib.cut c2 [32] = d at *
  obtain ⟨d1, d2, d3⟩ := d
  simp only at h2 hpar C2
  have HR := Lib.hid (fun W (h : EnvC W) => read_any d2 W h.env (by omega))
  have HK := Lib.hid (fun W (h : EnvC W) => kindof_any c1 W h.words)
  have HC := Lib.hid (fun W (h : EnvC W) => clone_any d1 W h (by omega))
  have HP := Lib.hid hpar
  clear h1 h2 hpar hE hl
  go_enter Tryd.func23, Tryd.ntmps23
  go_wp2_with (first
    | (go_at_call 35; (with_reducible refine (C1.out _ H0.out).mono ?_); rintro e w1 ⟨rfl, hL⟩; have H1 := Lib.hid (HB.out.on hL.below); clear hL)
    | (go_at_call 35; (with_reducible refine (C2.out _ (HE.out.on H1.out.below)).mono ?_); rintro e w2 ⟨rfl, hL⟩; have H2 := Lib.hid (H1.out.on hL.below); clear hL)
    | (go_at_call 36; (with_reducible refine (HR.out _ (HE.out.on H2.out.below)).mono ?_); rintro e w3 ⟨z, er, rfl, hz, hL⟩; have H3 := Lib.hid (H2.out.on hL.below); have HZ := Lib.hid hz; clear hL hz)
    | (go_at_call 37; (with_reducible refine (HK.out _ (HE.out.on H3.out.below)).mono ?_); rintro e w4 ⟨rfl, rfl⟩)
    | (go_at_call 38; (with_reducible refine (HC.out _ (HE.out.on H3.out.below)).mono ?_); rintro e w5 ⟨rfl, hL⟩; have H5 := Lib.hid (H3.out.on hL.below); clear hL; have q0 := H5.out.c0; have q1 := H5.out.c1; have q2 := H5.out.c2; have f0 := H5.out.f0; have f1 := H5.out.f1; have f2 := H5.out.f2))
  (try simp only [Exit.inBlock, Exit.then])
  have HF := H5.out.set (kindOf c1) d1 z
  refine bodyPost_ret (v := .agg #[.int .i64 (kindOf c1), .string (str d1), .float .f64 z]) ?_ rfl ?_
  · exact ret_one rfl _ rfl HF
  refine ⟨_, _, _, rfl, ⟨HZ.out.lt, HP.out z ?_⟩, .of HE.out HF.below⟩
  rcases HZ.out.is with h | h
  · exact .inl h.2
  · exact .inr h.2

/-! ### Read -/
/-- What Read gives: the command whose text it is; or an error and nothing, if there is none. -/
structure ReadC (l : List UInt8) (k : Int) (s : List UInt8) (v : Nat) (er : Int) : Prop where
  lt : v < 18446744073709551616
  is : (er = 0 ∧ cRight k s v = true ∧ cText k s v = l) ∨ (er = 3 ∧ k = 0 ∧ s = [] ∧ v = 0 ∧ NoCmd l)
def GivesReadC (l : List UInt8) (w : World) (e : Ending) (w' : World) : Prop := ∃ (k : Int) (s : List UInt8) (v : Nat) (er : Int), e = .returned (.tuple #[.agg #[.int .i64 k, .string (str s), .float .f64 v], .int .i64 er]) ∧ ReadC l k s v er ∧ LeftC w w'

set_option maxHeartbeats 4000000 in
theorem read_c (l : List UInt8) (w : World) (hE : EnvC w) (hl : l.length ≤ 1000) : Calls Tryd.prog 12 #[.string (str l)] w (GivesReadC l w) := by
  have HE := Lib.hid hE
  have HB := Lib.hid (Boxed.start w 0 [] 0)
  have H0 : Hid (EnvC (w.alloc (.cells #[.int .i64 0, .string ⟨#[]⟩, .float .f64 0] 24))) := Lib.hid (hE.on HB.out.below)
  have HN := Lib.hid (fun W (h : EnvC W) => near_any l W h hl)
  clear hE hl
  go_enter Tryd.func12, Tryd.ntmps12
  go_wp2_with (first
    | (go_at_call 23; (with_reducible refine (HN.out _ H0.out).mono ?_); rintro e w1 ⟨k, s, v, rfl, hz, hL⟩; have H1 := Lib.hid (HB.out.on hL.below); have HZ := Lib.hid hz; have HA := Lib.hid (Boxed.start w1 k s v); clear hL hz; refine Hid.out ?_))
  have HC := Lib.hid (fun W => check_any k s v W HZ.out.lt)
  have HG : Hid (∀ W, Below (w1.alloc (cells k s v)).heap.size (w1.alloc (cells k s v)) W → Boxed w w.heap.size 0 [] 0 W ∧ Boxed w1 w1.heap.size k s v W) := Lib.hid fun W hb => ⟨H1.out.on ((below_one _ _).trans (hb.mono (below_one w1 (cells k s v)).size)), HA.out.on hb⟩
  rcases err_cases k s v with ⟨hr, he⟩ | ⟨hr, he⟩
  · rw [he] at HC
    have HT : Hid (∀ W, EnvC W → Calls Tryd.prog 6 #[.agg #[.int .i64 k, .string (str s), .float .f64 v]] W (GivesC (cText k s v) W)) := Lib.hid fun W h => text_right k s v W h HZ.out.lt hr
    by_cases ht : cText k s v = l
    · have HR : Hid (ReadC l k s v 0) := Lib.hid ⟨HZ.out.lt, .inl ⟨rfl, hr, ht⟩⟩
      have hq : ((str (cText k s v)).toList == (str l).toList) = true := by rw [str_dec, ht]; exact decide_eq_true rfl
      clear hr he ht
      refine Lib.hid ?_
      go_wp2_with (first
        | (go_at_call 7; (with_reducible refine (HC.out _).mono ?_); rintro e w2 ⟨rfl, hb⟩; have H2 := Lib.hid (HG.out w2 hb); have HB2 := Lib.hid hb; clear hb; have q0 := H2.out.2.c0; have q1 := H2.out.2.c1; have q2 := H2.out.2.c2; have HE2 := Lib.hid (HE.out.on H2.out.1.below))
        | (go_at_call 6; (with_reducible refine (HT.out _ HE2.out).mono ?_); rintro e w3 ⟨rfl, hb⟩; have H3 := Lib.hid (HG.out w3 (HB2.out.trans (hb.below.mono HB2.out.size))); clear hb; clear q0 q1 q2; have q0 := H3.out.2.c0; have q1 := H3.out.2.c1; have q2 := H3.out.2.c2; have a0 := H3.out.1.c0; have a1 := H3.out.1.c1; have a2 := H3.out.1.c2; have f0 := H3.out.1.f0; have f1 := H3.out.1.f1; have f2 := H3.out.1.f2))
      (try simp only [Exit.inBlock, Exit.then])
      have HF := H3.out.1.set k s v
      refine bodyPost_ret (v := .tuple #[.agg #[.int .i64 k, .string (str s), .float .f64 v], .int .i64 0]) ?_ rfl ?_
      · exact ret_box rfl _ rfl rfl HF
      exact ⟨_, _, _, _, rfl, HR.out, .of HE.out HF.below⟩
    · have HR : Hid (ReadC l 0 [] 0 3) := Lib.hid ⟨by omega, .inr ⟨rfl, rfl, rfl, rfl, HZ.out.parsed.none fun h => ht h.2⟩⟩
      have hq : ((str (cText k s v)).toList == (str l).toList) = false := by rw [str_dec]; exact decide_eq_false ht
      clear hr he ht
      refine Lib.hid ?_
      go_wp2_with (first
        | (go_at_call 7; (with_reducible refine (HC.out _).mono ?_); rintro e w2 ⟨rfl, hb⟩; have H2 := Lib.hid (HG.out w2 hb); have HB2 := Lib.hid hb; clear hb; have q0 := H2.out.2.c0; have q1 := H2.out.2.c1; have q2 := H2.out.2.c2; have HE2 := Lib.hid (HE.out.on H2.out.1.below))
        | (go_at_call 6; (with_reducible refine (HT.out _ HE2.out).mono ?_); rintro e w3 ⟨rfl, hb⟩; have H3 := Lib.hid (HG.out w3 (HB2.out.trans (hb.below.mono HB2.out.size))); clear hb; clear q0 q1 q2; have a0 := H3.out.1.c0; have a1 := H3.out.1.c1; have a2 := H3.out.1.c2; have f0 := H3.out.1.f0; have f1 := H3.out.1.f1; have f2 := H3.out.1.f2))
      (try simp only [Exit.inBlock, Exit.then])
      have HF := H3.out.1.set 0 [] 0
      refine bodyPost_ret (v := .tuple #[.agg #[.int .i64 0, .string (str []), .float .f64 0], .int .i64 3]) ?_ rfl ?_
      · exact ret_box rfl _ rfl rfl HF
      exact ⟨_, _, _, _, rfl, HR.out, .of HE.out HF.below⟩
  · rw [he] at HC
    have HR : Hid (ReadC l 0 [] 0 3) := Lib.hid ⟨by omega, .inr ⟨rfl, rfl, rfl, rfl, HZ.out.parsed.none fun h => by rw [hr] at h; exact absurd h.1 (by decide)⟩⟩
    clear hr he
    refine Lib.hid ?_
    go_wp2_with (first
      | (go_at_call 7; (with_reducible refine (HC.out _).mono ?_); rintro e w2 ⟨rfl, hb⟩; have H2 := Lib.hid (HG.out w2 hb); clear hb; have a0 := H2.out.1.c0; have a1 := H2.out.1.c1; have a2 := H2.out.1.c2; have f0 := H2.out.1.f0; have f1 := H2.out.1.f1; have f2 := H2.out.1.f2))
    (try simp only [Exit.inBlock, Exit.then])
    have HF := H2.out.1.set 0 [] 0
    refine bodyPost_ret (v := .tuple #[.agg #[.int .i64 0, .string (str []), .float .f64 0], .int .i64 3]) ?_ rfl ?_
    · exact ret_box rfl _ rfl rfl HF
    exact ⟨_, _, _, _, rfl, HR.out, .of HE.out HF.below⟩
end Go.Proofs.YtlacjlcndejeaaaDoor.Cmd
