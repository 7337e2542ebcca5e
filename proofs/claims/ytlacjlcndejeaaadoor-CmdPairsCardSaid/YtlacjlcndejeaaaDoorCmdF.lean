/- What the document's Text and Read for layer 6 (cmd) give: a command's text; of any text the command whose text it is, or that there is none. Conditions: a command that may be; a text of at most 1000 bytes. -/
import Derived.Test.YtlacjlcndejeaaaDoorCmdE
import Derived.Test.YtlacjlcndejeaaaDoorExactI
namespace Go.Proofs.YtlacjlcndejeaaaDoor.Cmd
open Go.RowKit F64 Go.Lib
set_option linter.unusedVariables false

set_option maxHeartbeats 2000000 in
theorem reftext_any (k : Int) (s : List UInt8) (v : Nat) (w : World) (hv : v < 18446744073709551616) (hr : cRight k s v = true) :
    Calls Tryd.prog 13 #[.agg #[.int .i64 k, .string (str s), .float .f64 v]] w (RetBelow (.string (str (cText k s v))) w) := by
  have hp := right_parts hr
  have hs := key_parts hp.1
  have hl := text_len v
  have HT := Lib.hid (fun w => reft_any v w hv)
  have HB := Lib.hid (Boxed.start w k s v)
  have HX : Hid (cText k s v = word k ++ 32 :: (s ++ tail k v)) := Lib.hid rfl
  have kk := kinds hp.2
  clear hr hp hv
  rcases kk with ⟨rfl, -⟩ | rfl | ⟨rfl, -⟩ | rfl
  · have a1 : ∀ w, (Op.stringOp .add ⟨#[103, 101, 116, 32]⟩ (str s)).run Tryd.prog w = .ok (.string (str (103 :: 101 :: 116 :: 32 :: s))) w := add_run [103, 101, 116, 32] s (by simp; omega)
    clear hs hl
    go_enter Tryd.func13, Tryd.ntmps13
    go_wp2
    go_ret
    exact ⟨ret_str (by rw [HX.out]; simp [word, tail]), HB.out.below⟩
  · have a1 : ∀ w, (Op.stringOp .add ⟨#[112, 117, 116, 32]⟩ (str s)).run Tryd.prog w = .ok (.string (str (112 :: 117 :: 116 :: 32 :: s))) w := add_run [112, 117, 116, 32] s (by simp; omega)
    have a2 : ∀ w, (Op.stringOp .add (str (112 :: 117 :: 116 :: 32 :: s)) ⟨#[32]⟩).run Tryd.prog w = .ok (.string (str (112 :: 117 :: 116 :: 32 :: (s ++ [32])))) w := add_run (112 :: 117 :: 116 :: 32 :: s) [32] (by simp; omega)
    have a3 : ∀ w, (Op.stringOp .add (str (112 :: 117 :: 116 :: 32 :: (s ++ [32]))) (str (text v))).run Tryd.prog w = .ok (.string (str (112 :: 117 :: 116 :: 32 :: (s ++ 32 :: text v)))) w := fun w => by
      rw [add_run (112 :: 117 :: 116 :: 32 :: (s ++ [32])) (text v) (by simp; omega)]
      simp only [List.cons_append, List.append_assoc, List.nil_append]
    have I1 : Hid (∀ x, Calls Tryd.prog 24 #[.float .f64 v] ((w.alloc (.cells #[.int .i64 2, .string (str s), .float .f64 v] 24)).drewN x) fun e w' => e = .returned (.string (str (text v))) ∧ ∃ q, w' = (w.alloc (.cells #[.int .i64 2, .string (str s), .float .f64 v] 24)).drewN q) := Lib.hid fun x => Calls.quiet_of (HT.out _)
    clear hs hl
    go_enter Tryd.func13, Tryd.ntmps13
    go_wp2
    go_quiet ((exact I1.out _))
    go_wp2
    go_ret
    exact ⟨ret_str (by rw [HX.out]; simp [word, tail]), HB.out.below.trans ((Go.Joins.below_draws _ _ _).mono HB.out.below.size)⟩
  · have a1 : ∀ w, (Op.stringOp .add ⟨#[100, 101, 108, 32]⟩ (str s)).run Tryd.prog w = .ok (.string (str (100 :: 101 :: 108 :: 32 :: s))) w := add_run [100, 101, 108, 32] s (by simp; omega)
    clear hs hl
    go_enter Tryd.func13, Tryd.ntmps13
    go_wp2
    go_ret
    exact ⟨ret_str (by rw [HX.out]; simp [word, tail]), HB.out.below⟩
  · have a1 : ∀ w, (Op.stringOp .add ⟨#[97, 100, 100, 32]⟩ (str s)).run Tryd.prog w = .ok (.string (str (97 :: 100 :: 100 :: 32 :: s))) w := add_run [97, 100, 100, 32] s (by simp; omega)
    have a2 : ∀ w, (Op.stringOp .add (str (97 :: 100 :: 100 :: 32 :: s)) ⟨#[32]⟩).run Tryd.prog w = .ok (.string (str (97 :: 100 :: 100 :: 32 :: (s ++ [32])))) w := add_run (97 :: 100 :: 100 :: 32 :: s) [32] (by simp; omega)
    have a3 : ∀ w, (Op.stringOp .add (str (97 :: 100 :: 100 :: 32 :: (s ++ [32]))) (str (text v))).run Tryd.prog w = .ok (.string (str (97 :: 100 :: 100 :: 32 :: (s ++ 32 :: text v)))) w := fun w => by
      rw [add_run (97 :: 100 :: 100 :: 32 :: (s ++ [32])) (text v) (by simp; omega)]
      simp only [List.cons_append, List.append_assoc, List.nil_append]
    have I1 : Hid (∀ x, Calls Tryd.prog 24 #[.float .f64 v] ((w.alloc (.cells #[.int .i64 4, .string (str s), .float .f64 v] 24)).drewN x) fun e w' => e = .returned (.string (str (text v))) ∧ ∃ q, w' = (w.alloc (.cells #[.int .i64 4, .string (str s), .float .f64 v] 24)).drewN q) := Lib.hid fun x => Calls.quiet_of (HT.out _)
    clear hs hl
    go_enter Tryd.func13, Tryd.ntmps13
    go_wp2
    go_quiet ((exact I1.out _))
    go_wp2
    go_ret
    exact ⟨ret_str (by rw [HX.out]; simp [word, tail]), HB.out.below.trans ((Go.Joins.below_draws _ _ _).mono HB.out.below.size)⟩

/-! ### Read -/
/-- What the document's Read gives: the command whose text it is; or nothing, if there is none. -/
structure RefC (l : List UInt8) (k : Int) (s : List UInt8) (v : Nat) (ok : Bool) : Prop where
  lt : v < 18446744073709551616
  is : (ok = true ∧ cRight k s v = true ∧ cText k s v = l) ∨ (ok = false ∧ k = 0 ∧ s = [] ∧ v = 0 ∧ NoCmd l)
def GivesRefC (l : List UInt8) (w : World) (e : Ending) (w' : World) : Prop := ∃ (k : Int) (s : List UInt8) (v : Nat) (ok : Bool), e = .returned (.tuple #[.agg #[.int .i64 k, .string (str s), .float .f64 v], .bool ok]) ∧ RefC l k s v ok ∧ Below w.heap.size w w'
theorem RefC.none {l : List UInt8} (h : NoCmd l) : RefC l 0 [] 0 false := ⟨by omega, .inr ⟨rfl, rfl, rfl, rfl, h⟩⟩

set_option maxHeartbeats 1000000 in
theorem ref_early (l : List UInt8) (w : World) (hl : (l.length : Int) ≤ 1000) (h : l.length < 5 ∨ (5 ≤ l.length ∧ l[3]? ≠ some 32)) : Calls Tryd.prog 17 #[.string (str l)] w (GivesRefC l w) := by
  have HB := Lib.hid (Boxed.start w 0 [] 0)
  obtain ⟨L, hL⟩ : ∃ L : Int, L = (l.length : Nat) := ⟨_, rfl⟩
  have hsz : (((str l).size : Nat) : Int) = L := by rw [str_size, hL]
  rcases h with h | ⟨h5, h⟩
  · have HR := Lib.hid (RefC.none (ref_none_short h))
    have hlt : L < 5 := by omega
    clear hL h hl
    go_enter Tryd.func17, Tryd.ntmps17
    go_wp2
    (try simp only [Exit.inBlock, Exit.then])
    have HF := HB.out
    refine bodyPost_ret (v := .tuple #[.agg #[.int .i64 0, .string (str []), .float .f64 0], .bool false]) ?_ rfl ?_
    · exact ret_box rfl _ rfl rfl HF
    exact ⟨_, _, _, _, rfl, HR.out, HF.below⟩
  · have HR := Lib.hid (RefC.none (ref_none_blank h))
    obtain ⟨d, hd⟩ : ∃ d : Int, d = ((l[3]'(by omega)).toNat : Nat) := ⟨_, rfl⟩
    have hx : ∀ w, (Instr.index 9 (.string (str l)) (.int .i64 3)).run Tryd.prog w = .ok (.int .u8 d) w := fun w => by rw [hd]; exact idx_run l 3 (by omega) w
    have hge : 5 ≤ L := by omega
    have hd2 : d ≠ 32 := fun e => h (by
      rw [List.getElem?_eq_getElem (by omega : 3 < l.length)]
      exact congrArg some (UInt8.toNat_inj.1 (by show _ = 32; omega)))
    have hd3 : (d != 32) = true := by rw [bne_iff_ne]; exact hd2
    clear hL h hl hd h5
    go_enter Tryd.func17, Tryd.ntmps17
    go_wp2
    (try simp only [Exit.inBlock, Exit.then])
    have HF := HB.out
    refine bodyPost_ret (v := .tuple #[.agg #[.int .i64 0, .string (str []), .float .f64 0], .bool false]) ?_ rfl ?_
    · exact ret_box rfl _ rfl rfl HF
    exact ⟨_, _, _, _, rfl, HR.out, HF.below⟩

theorem Boxed.other {w W : World} {g b o : Nat} {k : Int} {s : List UInt8} {v : Nat} (h : Boxed w g k s v W) (hb : w.heap.size ≤ b) (hne : b ≠ g) (x : Value) : Boxed w g k s v (W.setCell ⟨b, o, none⟩ x) := by
  have ne : ∀ j, (⟨b, o, none⟩ : Addr) ≠ ⟨g, j, none⟩ := fun j e => by injection e with e _ _; exact hne e
  refine ⟨h.below.setCell (p := ⟨b, o, none⟩) hb _, h.own, by rw [size_sc]; exact h.lt, ?_, ?_, ?_, ?_, ?_, ?_⟩
  · rw [World.cell?_setCell_other _ _ _ _ (ne 0)]; exact h.c0
  · rw [World.cell?_setCell_other _ _ _ _ (ne 1)]; exact h.c1
  · rw [World.cell?_setCell_other _ _ _ _ (ne 2)]; exact h.c2
  · rw [World.frozen?_setCell]; exact h.f0
  · rw [World.frozen?_setCell]; exact h.f1
  · rw [World.frozen?_setCell]; exact h.f2
theorem Boxed.setK {w W : World} {g : Nat} {k : Int} {s : List UInt8} {v : Nat} (h : Boxed w g k s v W) (k' : Int) : Boxed w g k' s v (W.setCell ⟨g, 0, none⟩ (.int .i64 k')) := by
  have ne : ∀ j, j ≠ 0 → (⟨g, 0, none⟩ : Addr) ≠ ⟨g, j, none⟩ := fun j hj e => by injection e with _ e _; omega
  refine ⟨h.below.setCell (p := ⟨g, 0, none⟩) h.own _, h.own, by rw [size_sc]; exact h.lt, ?_, ?_, ?_, ?_, ?_, ?_⟩
  · rw [World.cell?_setCell_same _ _ _ h.c0]
  · rw [World.cell?_setCell_other _ _ _ _ (ne 1 (by omega))]; exact h.c1
  · rw [World.cell?_setCell_other _ _ _ _ (ne 2 (by omega))]; exact h.c2
  · rw [World.frozen?_setCell]; exact h.f0
  · rw [World.frozen?_setCell]; exact h.f1
  · rw [World.frozen?_setCell]; exact h.f2
theorem Boxed.setS {w W : World} {g : Nat} {k : Int} {s : List UInt8} {v : Nat} (h : Boxed w g k s v W) (s' : List UInt8) : Boxed w g k s' v (W.setCell ⟨g, 1, none⟩ (.string (str s'))) := by
  have ne : ∀ j, j ≠ 1 → (⟨g, 1, none⟩ : Addr) ≠ ⟨g, j, none⟩ := fun j hj e => by injection e with _ e _; omega
  refine ⟨h.below.setCell (p := ⟨g, 1, none⟩) h.own _, h.own, by rw [size_sc]; exact h.lt, ?_, ?_, ?_, ?_, ?_, ?_⟩
  · rw [World.cell?_setCell_other _ _ _ _ (ne 0 (by omega))]; exact h.c0
  · rw [World.cell?_setCell_same _ _ _ h.c1]
  · rw [World.cell?_setCell_other _ _ _ _ (ne 2 (by omega))]; exact h.c2
  · rw [World.frozen?_setCell]; exact h.f0
  · rw [World.frozen?_setCell]; exact h.f1
  · rw [World.frozen?_setCell]; exact h.f2
theorem Boxed.setV {w W : World} {g : Nat} {k : Int} {s : List UInt8} {v : Nat} (h : Boxed w g k s v W) (v' : Nat) : Boxed w g k s v' (W.setCell ⟨g, 2, none⟩ (.float .f64 v')) := by
  have ne : ∀ j, j ≠ 2 → (⟨g, 2, none⟩ : Addr) ≠ ⟨g, j, none⟩ := fun j hj e => by injection e with _ e _; omega
  refine ⟨h.below.setCell (p := ⟨g, 2, none⟩) h.own _, h.own, by rw [size_sc]; exact h.lt, ?_, ?_, ?_, ?_, ?_, ?_⟩
  · rw [World.cell?_setCell_other _ _ _ _ (ne 0 (by omega))]; exact h.c0
  · rw [World.cell?_setCell_other _ _ _ _ (ne 1 (by omega))]; exact h.c1
  · rw [World.cell?_setCell_same _ _ _ h.c2]
  · rw [World.frozen?_setCell]; exact h.f0
  · rw [World.frozen?_setCell]; exact h.f1
  · rw [World.frozen?_setCell]; exact h.f2

/-- The answer's box, the command's, and the row of words. -/
structure Mid (w : World) (k : Int) (s : List UInt8) (v : Nat) (W : World) : Prop where
  r : Boxed w w.heap.size 0 [] 0 W
  c : Boxed w (w.heap.size + 1) k s v W
  row : ∀ j, j < 5 → W.cell? ⟨w.heap.size + 1 + 1, j, none⟩ = some (.string (str (wd j)))
  lt : w.heap.size + 2 < W.heap.size
theorem Mid.on {w W W' : World} {k : Int} {s : List UInt8} {v : Nat} (h : Mid w k s v W) (hb : Below W.heap.size W W') : Mid w k s v W' :=
  ⟨h.r.on hb, h.c.on hb, fun j hj => (hb.cell (p := ⟨w.heap.size + 1 + 1, j, none⟩) h.lt).trans (h.row j hj), Nat.lt_of_lt_of_le h.lt hb.size⟩
theorem Mid.row_set {w W : World} {k : Int} {s : List UInt8} {v : Nat} (h : Mid w k s v W) (o : Nat) (x : Value) : (∀ j, j < 5 → (W.setCell ⟨w.heap.size + 1, o, none⟩ x).cell? ⟨w.heap.size + 1 + 1, j, none⟩ = some (.string (str (wd j)))) ∧ w.heap.size + 2 < (W.setCell ⟨w.heap.size + 1, o, none⟩ x).heap.size :=
  ⟨fun j hj => by rw [World.cell?_setCell_other _ _ _ _ (by intro e; injection e with e _ _; omega)]; exact h.row j hj, by rw [size_sc]; exact h.lt⟩
theorem Mid.setK {w W : World} {k : Int} {s : List UInt8} {v : Nat} (h : Mid w k s v W) (k' : Int) : Mid w k' s v (W.setCell ⟨w.heap.size + 1, 0, none⟩ (.int .i64 k')) :=
  ⟨h.r.other (by omega) (by omega) _, h.c.setK k', (h.row_set _ _).1, (h.row_set _ _).2⟩
theorem Mid.setS {w W : World} {k : Int} {s : List UInt8} {v : Nat} (h : Mid w k s v W) (s' : List UInt8) : Mid w k s' v (W.setCell ⟨w.heap.size + 1, 1, none⟩ (.string (str s'))) :=
  ⟨h.r.other (by omega) (by omega) _, h.c.setS s', (h.row_set _ _).1, (h.row_set _ _).2⟩
theorem Mid.setV {w W : World} {k : Int} {s : List UInt8} {v : Nat} (h : Mid w k s v W) (v' : Nat) : Mid w k s v' (W.setCell ⟨w.heap.size + 1, 2, none⟩ (.float .f64 v')) :=
  ⟨h.r.other (by omega) (by omega) _, h.c.setV v', (h.row_set _ _).1, (h.row_set _ _).2⟩

def wordsObj : Obj := .cells #[.string ⟨#[]⟩, .string ⟨#[103, 101, 116]⟩, .string ⟨#[112, 117, 116]⟩, .string ⟨#[100, 101, 108]⟩, .string ⟨#[97, 100, 100]⟩] 9
theorem Mid.start (w : World) : Mid w 0 [] 0 (((w.alloc (cells 0 [] 0)).alloc (cells 0 [] 0)).alloc wordsObj) := by
  have h := (Two.start w 0 [] 0 0 [] 0).on (below_one _ wordsObj)
  have e : ((w.alloc (cells 0 [] 0)).alloc (cells 0 [] 0)).heap.size = w.heap.size + 1 + 1 := by simp
  refine ⟨h.a, h.b, fun j hj => ?_, by simp⟩
  rw [← e]
  unfold wordsObj
  rw [World.cell?_alloc_mark]
  have : j = 0 ∨ j = 1 ∨ j = 2 ∨ j = 3 ∨ j = 4 := by omega
  rcases this with rfl | rfl | rfl | rfl | rfl <;> rfl

/-- Which kind's word it is, of those before k. -/
def kindTo (x : List UInt8) (k : Nat) : Int := if kindAt x < k then kindAt x else 0
theorem kind_wd (x : List UInt8) (k : Nat) (h1 : 1 ≤ k) (h4 : k < 5) : (x = wd k → kindAt x = k) ∧ (x ≠ wd k → kindAt x ≠ k) := by
  have : k = 1 ∨ k = 2 ∨ k = 3 ∨ k = 4 := by omega
  constructor
  · rintro rfl
    rcases this with rfl | rfl | rfl | rfl <;> rfl
  · intro h e
    unfold kindAt at e
    rcases this with rfl | rfl | rfl | rfl
    all_goals
      split at e
      · rename_i hx; first | exact h hx | (exfalso; revert e; decide)
      · split at e
        · rename_i hx; first | exact h hx | (exfalso; revert e; decide)
        · split at e
          · rename_i hx; first | exact h hx | (exfalso; revert e; decide)
          · split at e
            · rename_i hx; first | exact h hx | (exfalso; revert e; decide)
            · exfalso; revert e; decide
theorem kind_range (x : List UInt8) : 0 ≤ kindAt x ∧ kindAt x < 5 := by
  unfold kindAt
  split
  · decide
  · split
    · decide
    · split
      · decide
      · split <;> decide
theorem kind_to_end (x : List UInt8) : kindTo x 5 = kindAt x := by
  have := kind_range x
  unfold kindTo; rw [if_pos (by omega)]
theorem kind_to_start (x : List UInt8) : kindTo x 1 = 0 := by
  have := kind_range x
  unfold kindTo; split <;> omega
theorem kind_to_hit {x : List UInt8} {k : Nat} (h1 : 1 ≤ k) (h4 : k < 5) (h : x = wd k) : kindTo x (k + 1) = k := by
  have := (kind_wd x k h1 h4).1 h
  unfold kindTo; rw [if_pos (by omega), this]
theorem kind_to_miss {x : List UInt8} {k : Nat} (h1 : 1 ≤ k) (h4 : k < 5) (h : x ≠ wd k) : kindTo x (k + 1) = kindTo x k := by
  have := (kind_wd x k h1 h4).2 h
  unfold kindTo
  by_cases h2 : kindAt x < k
  · rw [if_pos h2, if_pos (by omega)]
  · rw [if_neg h2, if_neg (by omega)]
theorem key_run (l : List UInt8) (a : Nat) (h4 : 4 ≤ a) (ha : a ≤ l.length) (w : World) : (Instr.slice 9 (.string (str l)) (some (.int .i64 4)) (some (.int .i64 (a : Int))) none).run Tryd.prog w = .ok (.string (str ((l.take a).drop 4))) w := by
  rw [run_slice_string w _ _ _ _ _ _ (by kernel_rfl) (by omega) (by omega) (by rw [str_size]; omega)]
  rw [Int.toNat_natCast, show ((4 : Int)).toNat = 4 from rfl]
  unfold str
  rw [ByteArray.extract_mk, List.drop_take]

set_option maxHeartbeats 4000000 in
set_option maxRecDepth 100000 in
theorem ref_main (l : List UInt8) (w : World) (hl : (l.length : Int) ≤ 1000) (h5 : 5 ≤ l.length) (h : l[3]? = some 32) : Calls Tryd.prog 17 #[.string (str l)] w (GivesRefC l w) := by
  obtain ⟨n, hn⟩ : ∃ n, n = l.length := ⟨_, rfl⟩
  have hsz : (((str l).size : Nat) : Int) = n := by rw [str_size, hn]
  have hx : ∀ w, (Instr.index 9 (.string (str l)) (.int .i64 3)).run Tryd.prog w = .ok (.int .u8 32) w := fun w => by
    have := idx_run l 3 (by omega) w
    rw [List.getElem?_eq_getElem (by omega : 3 < l.length)] at h
    injection h with h
    rw [h] at this; exact this
  have hto : ∀ w, (Instr.slice 9 (.string (str l)) none (some (.int .i64 3)) none).run Tryd.prog w = .ok (.string (str (l.take 3))) w := fun w => to_run l 3 (by omega) w
  have hge : (5 : Int) ≤ n := by omega
  have hle : (n : Int) ≤ 1000 := by omega
  have HN := Lib.hid hn
  have HM0 := Lib.hid (Mid.start w)
  have HX := Lib.hid (fun k => str_dec (l.take 3) (wd k))
  obtain ⟨x, hxx⟩ : ∃ x, x = l.take 3 := ⟨_, rfl⟩
  rw [← hxx] at hto HX
  have HK := Lib.hid (congrArg kindAt hxx)
  clear hn h5 hl h hxx
  go_enter Tryd.func17, Tryd.ntmps17
  go_wp2
  clear hx
  go_loopw [6] (fun i wr => ∃ k : Nat, 1 ≤ k ∧ k ≤ 5 ∧ i = .int .i64 k ∧ Hid (Mid w (kindTo x k) [] 0 wr)) (fun i _ => 5 - (RowKit.intOf i).toNat)
  case atStart => exact ⟨1, Nat.le_refl _, by omega, rfl, Lib.hid (by rw [kind_to_start]; exact HM0.out)⟩
  case round =>
    obtain ⟨k, h1, h5, rfl, HM⟩ := hrel
    by_cases hk : k < 5
    · have k1 : (1 : Int) ≤ k := by omega
      have k5 : (k : Int) ≤ 4 := by omega
      have q0 : ∀ n, (wr.drewN n).cell? ⟨w.heap.size + 1 + 1, k, none⟩ = some (.string (str (wd k))) := fun n => (HM.out.on (Go.Joins.below_draws _ _ _)).row k hk
      have q1 : ∀ n, (wr.drewN n).cell? ⟨w.heap.size + 1, 0, none⟩ = some (.int .i64 (kindTo x k)) := fun n => (HM.out.on (Go.Joins.below_draws _ _ _)).c.c0
      have f1 : ∀ n, (wr.drewN n).frozen? ⟨w.heap.size + 1, 0, none⟩ = false := fun n => (HM.out.on (Go.Joins.below_draws _ _ _)).c.f0
      have hc := HX.out k
      by_cases hw : x = wd k
      · rw [decide_eq_true hw] at hc
        have HR := Lib.hid (kind_to_hit h1 hk hw)
        clear hw
        generalize wd k = y at q0 hc
        go_wp2
        go_quiet (fail)
        go_wp2
        go_roundw
        case rel => exact ⟨k + 1, by omega, by omega, by go_num, Lib.hid (by rw [HR.out]; exact (HM.out.on (Go.Joins.below_draws _ _ _)).setK _)⟩
        case measure => simp [RowKit.intOf]; omega
      · rw [decide_eq_false hw] at hc
        have HR := Lib.hid (kind_to_miss h1 hk hw)
        clear hw
        generalize wd k = y at q0 hc
        go_wp2
        go_quiet (fail)
        go_wp2
        go_roundw
        case rel => exact ⟨k + 1, by omega, by omega, by go_num, Lib.hid (by rw [HR.out]; exact HM.out.on (Go.Joins.below_draws _ _ _))⟩
        case measure => simp [RowKit.intOf]; omega
    · have k5 : (4 : Int) < k := by omega
      obtain rfl : k = 5 := by omega
      rw [kind_to_end, HK.out] at HM
      clear hto hk k5 h1 h5
      generalize hkk : kindAt (l.take 3) = kk at HM
      have HKK := Lib.hid hkk
      clear hkk
      go_wp2
      obtain ⟨wq, hwq⟩ : ∃ wq, wq = wr := ⟨_, rfl⟩
      subst hwq
      go_loop [7] (fun i => ∃ a : Nat, 4 ≤ a ∧ a ≤ n ∧ i = .int .i64 a ∧ Hid (∀ j, 4 ≤ j → j < a → l[j]? ≠ some 32)) (fun i => n - (RowKit.intOf i).toNat)
      case atStart => exact ⟨4, Nat.le_refl _, by omega, rfl, Lib.hid fun j h1 h2 => absurd h2 (by omega)⟩
      case round =>
        obtain ⟨a, h4, han, rfl, HNO⟩ := hrel
        have a4 : (4 : Int) ≤ a := by omega
        have hkr := key_run l a h4 (by rw [← HN.out]; exact han)
        have HKL : Hid ((((l.take a).drop 4).length : Int) ≤ 1000) := Lib.hid (by rw [List.length_drop, List.length_take, ← HN.out]; omega)
        have c1 := HM.out.c.c1
        have f1 := HM.out.c.f1
        by_cases hlt : a < n
        · have hll : a < l.length := by rw [← HN.out]; exact hlt
          have hx := idx_run l a hll
          have al : (a : Int) < n := by omega
          obtain ⟨d, hd⟩ : ∃ d : Int, d = ((l[a]).toNat : Nat) := ⟨_, rfl⟩
          rw [← hd] at hx
          by_cases h32 : d = 32
          · have HEnd : Hid (EndAt l a) := Lib.hid ⟨h4, by omega, HNO.out, fun _ => by
              rw [List.getElem?_eq_getElem hll]
              exact congrArg some (UInt8.toNat_inj.1 (by show _ = 32; omega))⟩
            have hfr : ∀ w, (Instr.slice 9 (.string (str l)) (some (.int .i64 ((a : Int) + 1))) none none).run Tryd.prog w = .ok (.string (str (l.drop (a + 1)))) w := fun w => by
              have := from_run l (a + 1) (by omega) w
              rw [show ((a + 1 : Nat) : Int) = (a : Int) + 1 by omega] at this
              exact this
            have HRD := Lib.hid (fun W => refr_any (l.drop (a + 1)) W (by rw [List.length_drop, ← HN.out]; omega))
            have HP1 : Hid (∀ z, text z = l.drop (a + 1) → Parsed l kk ((l.take a).drop 4) z) := Lib.hid fun z hz => by
              rw [← HKK.out]; exact parsed_ref HEnd.out (fun _ => hz) (fun e => by omega)
            have HP0 : Hid ((∀ b, b < 18446744073709551616 → text b ≠ l.drop (a + 1)) → NoCmd l) := Lib.hid fun hz => ref_none_num HEnd.out hll hz
            generalize l.drop (a + 1) = num at hfr HRD HP1 HP0
            generalize (l.take a).drop 4 = key at hkr HKL HP1
            have HM3 := Lib.hid (HM.out.setS key)
            subst h32
            clear hd hll
            go_wp2_with (first
              | (go_at_call 27; (with_reducible refine (HRD.out _).mono ?_); rintro e w3 ⟨z, ok, rfl, hz, hw⟩; have HM4 : Hid (Mid w kk key 0 w3) := Lib.hid (by obtain ⟨q, rfl⟩ := hw; exact HM3.out.on (Go.Joins.below_draws _ _ _)); have HZ := Lib.hid hz; clear hw hz; refine Hid.out ?_))
            cases ok with
            | false =>
              have HR : Hid (RefC l 0 [] 0 false) := Lib.hid (RefC.none (HP0.out (by
                rcases HZ.out.is with h | h
                · exact absurd h.1 (by decide)
                · exact h.2.2)))
              have a0 := HM4.out.r.c0
              have a1 := HM4.out.r.c1
              have a2 := HM4.out.r.c2
              have g0 := HM4.out.r.f0
              have g1 := HM4.out.r.f1
              have g2 := HM4.out.r.f2
              clear c1 f1 hkr hfr hx
              refine Lib.hid ?_
              go_wp2
              (try simp only [Exit.inBlock, Exit.then])
              have HF := HM4.out.r.set 0 [] 0
              refine bodyPost_ret (v := .tuple #[.agg #[.int .i64 0, .string (str []), .float .f64 0], .bool false]) ?_ rfl ?_
              · exact ret_box rfl _ rfl rfl HF
              exact ⟨_, _, _, _, rfl, HR.out, HF.below⟩
            | true =>
              have HV := Lib.hid HZ.out.lt
              have HPZ : Hid (Parsed l kk key z) := Lib.hid (HP1.out z (by
                rcases HZ.out.is with h | h
                · exact h.2
                · exact absurd h.1 (by decide)))
              have HM5 := Lib.hid (HM4.out.setV z)
              have b2 := HM4.out.c.c2
              have g2 := HM4.out.c.f2
              clear c1 f1 hkr hfr hx
              have HRG := Lib.hid (fun W => right_any kk key z W HV.out (by have := HKL.out; omega))
              have q0 := HM5.out.c.c0
              have q1 := HM5.out.c.c1
              have q2 := HM5.out.c.c2
              cases hr : cRight kk key z with
              | false =>
                rw [hr] at HRG
                have HR : Hid (RefC l 0 [] 0 false) := Lib.hid (RefC.none (HPZ.out.none fun h => by rw [hr] at h; exact absurd h.1 (by decide)))
                clear hr
                refine Lib.hid ?_
                go_wp2_with (first
                  | (go_at_call 8; (with_reducible refine (HRG.out _).mono ?_); rintro e w5 ⟨rfl, hb⟩; have H5 := Lib.hid (HM5.out.on hb); clear hb; have a0 := H5.out.r.c0; have a1 := H5.out.r.c1; have a2 := H5.out.r.c2; have f0 := H5.out.r.f0; have f1 := H5.out.r.f1; have f2 := H5.out.r.f2))
                (try simp only [Exit.inBlock, Exit.then])
                have HF := H5.out.r.set 0 [] 0
                refine bodyPost_ret (v := .tuple #[.agg #[.int .i64 0, .string (str []), .float .f64 0], .bool false]) ?_ rfl ?_
                · exact ret_box rfl _ rfl rfl HF
                exact ⟨_, _, _, _, rfl, HR.out, HF.below⟩
              | true =>
                rw [hr] at HRG
                have HTX := Lib.hid (fun W => reftext_any kk key z W HV.out hr)
                by_cases ht : cText kk key z = l
                · have HR : Hid (RefC l kk key z true) := Lib.hid ⟨HV.out, .inl ⟨rfl, hr, ht⟩⟩
                  have hq : ((str (cText kk key z)).toList == (str l).toList) = true := by rw [str_dec, ht]; exact decide_eq_true rfl
                  clear hr ht
                  refine Lib.hid ?_
                  go_wp2_with (first
                    | (go_at_call 8; (with_reducible refine (HRG.out _).mono ?_); rintro e w5 ⟨rfl, hb⟩; have H5 := Lib.hid (HM5.out.on hb); clear hb q0 q1 q2; have q0 := H5.out.c.c0; have q1 := H5.out.c.c1; have q2 := H5.out.c.c2)
                    | (go_at_call 13; (with_reducible refine (HTX.out _).mono ?_); rintro e w6 ⟨rfl, hb⟩; have H6 := Lib.hid (H5.out.on hb); clear hb q0 q1 q2; have q0 := H6.out.c.c0; have q1 := H6.out.c.c1; have q2 := H6.out.c.c2; have a0 := H6.out.r.c0; have a1 := H6.out.r.c1; have a2 := H6.out.r.c2; have f0 := H6.out.r.f0; have f1 := H6.out.r.f1; have f2 := H6.out.r.f2))
                  (try simp only [Exit.inBlock, Exit.then])
                  have HF := H6.out.r.set kk key z
                  refine bodyPost_ret (v := .tuple #[.agg #[.int .i64 kk, .string (str key), .float .f64 z], .bool true]) ?_ rfl ?_
                  · exact ret_box rfl _ rfl rfl HF
                  exact ⟨_, _, _, _, rfl, HR.out, HF.below⟩
                · have HR : Hid (RefC l 0 [] 0 false) := Lib.hid (RefC.none (HPZ.out.none fun h => ht h.2))
                  have hq : ((str (cText kk key z)).toList == (str l).toList) = false := by rw [str_dec]; exact decide_eq_false ht
                  clear hr ht
                  refine Lib.hid ?_
                  go_wp2_with (first
                    | (go_at_call 8; (with_reducible refine (HRG.out _).mono ?_); rintro e w5 ⟨rfl, hb⟩; have H5 := Lib.hid (HM5.out.on hb); clear hb q0 q1 q2; have q0 := H5.out.c.c0; have q1 := H5.out.c.c1; have q2 := H5.out.c.c2)
                    | (go_at_call 13; (with_reducible refine (HTX.out _).mono ?_); rintro e w6 ⟨rfl, hb⟩; have H6 := Lib.hid (H5.out.on hb); clear hb q0 q1 q2; have a0 := H6.out.r.c0; have a1 := H6.out.r.c1; have a2 := H6.out.r.c2; have f0 := H6.out.r.f0; have f1 := H6.out.r.f1; have f2 := H6.out.r.f2))
                  (try simp only [Exit.inBlock, Exit.then])
                  have HF := H6.out.r.set 0 [] 0
                  refine bodyPost_ret (v := .tuple #[.agg #[.int .i64 0, .string (str []), .float .f64 0], .bool false]) ?_ rfl ?_
                  · exact ret_box rfl _ rfl rfl HF
                  exact ⟨_, _, _, _, rfl, HR.out, HF.below⟩
          · have HR : Hid (∀ j, 4 ≤ j → j < a + 1 → l[j]? ≠ some 32) := Lib.hid fun j hj1 hj2 => by
              by_cases e : j = a
              · subst e
                rw [List.getElem?_eq_getElem hll]
                intro e2; injection e2 with e2
                rw [e2] at hd; exact h32 hd
              · exact HNO.out j hj1 (by omega)
            have hne : (d != 32) = true := by rw [bne_iff_ne]; exact h32
            clear hd hll hkr
            go_wp2
            go_round
            case rel => exact ⟨a + 1, by omega, by omega, by go_num, HR⟩
            case measure => simp [RowKit.intOf]; omega
        · have al : (n : Int) ≤ a := by omega
          have HEnd : Hid (EndAt l a) := Lib.hid ⟨h4, by rw [← HN.out]; exact han, HNO.out, fun h => by rw [← HN.out] at h; exact absurd h hlt⟩
          have HPZ : Hid (Parsed l kk ((l.take a).drop 4) 0) := Lib.hid (by
            rw [← HKK.out]; exact parsed_ref HEnd.out (fun h => by rw [← HN.out] at h; exact absurd h hlt) (fun _ => rfl))
          generalize (l.take a).drop 4 = key at hkr HKL HPZ
          have HM5 := Lib.hid (HM.out.setS key)
          have HV : Hid (0 < 18446744073709551616) := Lib.hid (by omega)
          clear hlt
          have HRG := Lib.hid (fun W => right_any kk key 0 W HV.out (by have := HKL.out; omega))
          have q0 := HM5.out.c.c0
          have q1 := HM5.out.c.c1
          have q2 := HM5.out.c.c2
          cases hr : cRight kk key 0 with
          | false =>
            rw [hr] at HRG
            have HR : Hid (RefC l 0 [] 0 false) := Lib.hid (RefC.none (HPZ.out.none fun h => by rw [hr] at h; exact absurd h.1 (by decide)))
            clear hr
            go_wp2_with (first
              | (go_at_call 8; (with_reducible refine (HRG.out _).mono ?_); rintro e w5 ⟨rfl, hb⟩; have H5 := Lib.hid (HM5.out.on hb); clear hb; have a0 := H5.out.r.c0; have a1 := H5.out.r.c1; have a2 := H5.out.r.c2; have f0 := H5.out.r.f0; have f1 := H5.out.r.f1; have f2 := H5.out.r.f2))
            (try simp only [Exit.inBlock, Exit.then])
            have HF := H5.out.r.set 0 [] 0
            refine bodyPost_ret (v := .tuple #[.agg #[.int .i64 0, .string (str []), .float .f64 0], .bool false]) ?_ rfl ?_
            · exact ret_box rfl _ rfl rfl HF
            exact ⟨_, _, _, _, rfl, HR.out, HF.below⟩
          | true =>
            rw [hr] at HRG
            have HTX := Lib.hid (fun W => reftext_any kk key 0 W HV.out hr)
            by_cases ht : cText kk key 0 = l
            · have HR : Hid (RefC l kk key 0 true) := Lib.hid ⟨HV.out, .inl ⟨rfl, hr, ht⟩⟩
              have hq : ((str (cText kk key 0)).toList == (str l).toList) = true := by rw [str_dec, ht]; exact decide_eq_true rfl
              clear hr ht
              go_wp2_with (first
                | (go_at_call 8; (with_reducible refine (HRG.out _).mono ?_); rintro e w5 ⟨rfl, hb⟩; have H5 := Lib.hid (HM5.out.on hb); clear hb q0 q1 q2; have q0 := H5.out.c.c0; have q1 := H5.out.c.c1; have q2 := H5.out.c.c2)
                | (go_at_call 13; (with_reducible refine (HTX.out _).mono ?_); rintro e w6 ⟨rfl, hb⟩; have H6 := Lib.hid (H5.out.on hb); clear hb q0 q1 q2; have q0 := H6.out.c.c0; have q1 := H6.out.c.c1; have q2 := H6.out.c.c2; have a0 := H6.out.r.c0; have a1 := H6.out.r.c1; have a2 := H6.out.r.c2; have f0 := H6.out.r.f0; have f1 := H6.out.r.f1; have f2 := H6.out.r.f2))
              (try simp only [Exit.inBlock, Exit.then])
              have HF := H6.out.r.set kk key 0
              refine bodyPost_ret (v := .tuple #[.agg #[.int .i64 kk, .string (str key), .float .f64 0], .bool true]) ?_ rfl ?_
              · exact ret_box rfl _ rfl rfl HF
              exact ⟨_, _, _, _, rfl, HR.out, HF.below⟩
            · have HR : Hid (RefC l 0 [] 0 false) := Lib.hid (RefC.none (HPZ.out.none fun h => ht h.2))
              have hq : ((str (cText kk key 0)).toList == (str l).toList) = false := by rw [str_dec]; exact decide_eq_false ht
              clear hr ht
              go_wp2_with (first
                | (go_at_call 8; (with_reducible refine (HRG.out _).mono ?_); rintro e w5 ⟨rfl, hb⟩; have H5 := Lib.hid (HM5.out.on hb); clear hb q0 q1 q2; have q0 := H5.out.c.c0; have q1 := H5.out.c.c1; have q2 := H5.out.c.c2)
                | (go_at_call 13; (with_reducible refine (HTX.out _).mono ?_); rintro e w6 ⟨rfl, hb⟩; have H6 := Lib.hid (H5.out.on hb); clear hb q0 q1 q2; have a0 := H6.out.r.c0; have a1 := H6.out.r.c1; have a2 := H6.out.r.c2; have f0 := H6.out.r.f0; have f1 := H6.out.r.f1; have f2 := H6.out.r.f2))
              (try simp only [Exit.inBlock, Exit.then])
              have HF := H6.out.r.set 0 [] 0
              refine bodyPost_ret (v := .tuple #[.agg #[.int .i64 0, .string (str []), .float .f64 0], .bool false]) ?_ rfl ?_
              · exact ret_box rfl _ rfl rfl HF
              exact ⟨_, _, _, _, rfl, HR.out, HF.below⟩

theorem refread_any (l : List UInt8) (w : World) (hl : (l.length : Int) ≤ 1000) : Calls Tryd.prog 17 #[.string (str l)] w (GivesRefC l w) := by
  by_cases h5 : l.length < 5
  · exact ref_early l w hl (.inl h5)
  · by_cases h : l[3]? = some 32
    · exact ref_main l w hl (by omega) h
    · exact ref_early l w hl (.inr ⟨by omega, h⟩)
end Go.Proofs.YtlacjlcndejeaaaDoor.Cmd
