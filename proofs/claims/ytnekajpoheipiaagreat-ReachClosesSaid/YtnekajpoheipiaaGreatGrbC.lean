/- What the developers' Len, Has, Record, Users give (layer 15, edges), of whatever held answers. Conditions: those in each statement. -/
import Derived.Test.YtnekajpoheipiaaGreatGrbA
import Derived.Test.YtnekajpoheipiaaGreatItr
namespace Go.Proofs.YtnekajpoheipiaaGreat.Gra
open Go.RowKit Cmd Bat Ids Rec Wid Mpg Go.Maps
set_option linter.unusedVariables false
set_option linter.unusedSimpArgs false

theorem f_index (mr mu : Option Nat) (W : World) : (Instr.field 53 (grV mr mu) 0).run Tryz.prog W = .ok (.agg #[.map mr]) W := by kernel_rfl
theorem f_users (mr mu : Option Nat) (W : World) : (Instr.field 53 (grV mr mu) 1).run Tryz.prog W = .ok (.map mu) W := by kernel_rfl
theorem f_records (mr : Option Nat) (W : World) : (Instr.field 50 (.agg #[.map mr]) 0).run Tryz.prog W = .ok (.map mr) W := by kernel_rfl
abbrev HeldIs (v : Value) (mr mu : Option Nat) (W : World) : Prop := ∀ W', Below W.heap.size W W' → Calls Tryz.prog 50 #[v] W' (RetBelow (grV mr mu) W')
theorem two_row (W : World) (a b : Int) : (W.alloc (.cells #[.int .i64 a, .int .i64 b] 25)).heap[W.heap.size]? = some (.cells #[.int .i64 a, .int .i64 b] 25 (0, 0)) := heap_alloc_new W _
set_option maxRecDepth 100000 in
theorem has_run (v : Value) (mr mu : Option Nat) (a b : Int) (t : Bool) (W : World) (CH : HeldIs v mr mu W) (HH : ∀ W', Below W.heap.size W W' → Calls Tryz.prog 40 #[.agg #[.map mr], .agg #[.int .i64 a, .int .i64 b]] W' (RetBelow (.bool t) W')) :
    Calls Tryz.prog 34 #[v, .agg #[.int .i64 a, .int .i64 b]] W (RetBelow (.bool t) W) := by
  have B0 := Lib.hid (Cmd.below_one W (.cells #[.int .i64 a, .int .i64 b] 25))
  have T0 := Lib.hid (two_row W a b)
  have C1 := Lib.hid (fun W' (h : Below W.heap.size W W') => CH W' h)
  have H1 := Lib.hid HH
  have E1 := f_index mr mu
  have L0 : W.heap.size < (W.alloc (.cells #[.int .i64 a, .int .i64 b] 25)).heap.size := by simp
  have HL0 := Lib.hid L0
  clear CH HH L0
  go_enter Tryz.func34, Tryz.ntmps34
  go_wp2
  go_region_with (first
    | (go_at_call 50; go_loud ((with_reducible refine (C1.out _ B0.out.drew).mono ?_); rintro E w1 ⟨rfl, hb⟩; have T1 := (hb.block _ HL0.out).trans T0.out; have c0 := cell_row (i := 0) T1 rfl; have c1 := cell_row (i := 1) T1 rfl; have B1 := Lib.hid (B0.out.drew.trans (hb.mono B0.out.drew.size)); clear hb T1))
    | (go_at_call 40; (with_reducible refine (H1.out _ B1.out).mono ?_); rintro E w2 ⟨rfl, hb⟩; have B2 := Lib.hid (B1.out.trans (hb.mono B1.out.size)); clear hb))
  all_goals
    go_wp2
    go_ret
    exact ⟨rfl, B2.out⟩
/-! ### Record -/
theorem box_two (W : World) (a b : Int) (o : Obj) : ((W.alloc (.cells #[.int .i64 a, .int .i64 b] 25)).alloc o).heap[W.heap.size]? = some (.cells #[.int .i64 a, .int .i64 b] 25 (0, 0)) ∧ ((W.alloc (.cells #[.int .i64 a, .int .i64 b] 25)).alloc o).heap[W.heap.size + 1]? = some o ∧
    Below W.heap.size W ((W.alloc (.cells #[.int .i64 a, .int .i64 b] 25)).alloc o) ∧ W.heap.size + 1 < ((W.alloc (.cells #[.int .i64 a, .int .i64 b] 25)).alloc o).heap.size := by
  refine ⟨(Below.heap_alloc _ o _ (by simp)).trans (two_row W a b), ?_, (Cmd.below_one _ _).trans ((Cmd.below_one _ _).mono (by simp)), by simp⟩
  have h := heap_alloc_new (W.alloc (.cells #[.int .i64 a, .int .i64 b] 25)) o
  rwa [World.size_alloc] at h
abbrev oRec : Obj := .cells #[.int .i64 0, .int .i64 0, .int .i64 0, .slice none 0 0, .slice none 0 0] 45
/-- The two boxes of Record's call. -/
structure RBox (W : World) (a b : Int) (X : World) : Prop where
  id : X.heap[W.heap.size]? = some (.cells #[.int .i64 a, .int .i64 b] 25 (0, 0))
  res : X.heap[W.heap.size + 1]? = some (.cells #[.int .i64 0, .int .i64 0, .int .i64 0, .slice none 0 0, .slice none 0 0] 45 (0, 0))
  below : Below W.heap.size W X
  lt : W.heap.size + 1 < X.heap.size
theorem RBox.start (W : World) (a b : Int) : RBox W a b ((W.alloc (.cells #[.int .i64 a, .int .i64 b] 25)).alloc (.cells #[.int .i64 0, .int .i64 0, .int .i64 0, .slice none 0 0, .slice none 0 0] 45)).drew := by
  obtain ⟨h1, h2, h3, h4⟩ := box_two W a b oRec
  exact ⟨h1, h2, h3.drew, h4⟩
theorem RBox.on {W : World} {a b : Int} {X Y : World} (h : RBox W a b X) (hb : Below X.heap.size X Y) : RBox W a b Y :=
  ⟨(hb.block _ (by have := h.lt; omega)).trans h.id, (hb.block _ h.lt).trans h.res, h.below.trans (hb.mono h.below.size), Nat.lt_of_lt_of_le h.lt hb.size⟩
set_option maxRecDepth 100000 in
theorem rec_no (v : Value) (mr mu : Option Nat) (a b : Int) (W : World) (CH : HeldIs v mr mu W) (HG : ∀ W', Below W.heap.size W W' → Calls Tryz.prog 68 #[.agg #[.map mr], .agg #[.int .i64 a, .int .i64 b]] W' (RetBelow (.tuple #[zeroRec, .bool false]) W')) :
    Calls Tryz.prog 48 #[v, .agg #[.int .i64 a, .int .i64 b]] W (RetBelow (.tuple #[zeroRec, .bool false]) W) := by
  have R0 := Lib.hid (RBox.start W a b)
  have C1 := Lib.hid (fun W' (h : Below W.heap.size W W') => CH W' h)
  have H1 := Lib.hid HG
  have E1 := f_index mr mu
  clear CH HG
  have d0 := cell_row (i := 0) R0.out.id rfl
  have d1 := cell_row (i := 1) R0.out.id rfl
  go_enter Tryz.func48, Tryz.ntmps48
  go_wp2
  go_region_with (first
    | (go_at_call 50; (with_reducible refine (C1.out _ R0.out.below).mono ?_); rintro E w1 ⟨rfl, hb⟩; have R1 := Lib.hid (R0.out.on hb); have c0 := cell_row (i := 0) R1.out.id rfl; have c1 := cell_row (i := 1) R1.out.id rfl; clear hb)
    | (go_at_call 68; (with_reducible refine (H1.out _ R1.out.below).mono ?_); rintro E w2 ⟨rfl, hb⟩; have R2 := Lib.hid (R1.out.on hb); have f0 := free_row (i := 0) R2.out.res; have f1 := free_row (i := 1) R2.out.res; have f2 := free_row (i := 2) R2.out.res; have f3 := free_row (i := 3) R2.out.res; have f4 := free_row (i := 4) R2.out.res; have r0 := cell_row (i := 0) R2.out.res rfl; have r1 := cell_row (i := 1) R2.out.res rfl; have r2 := cell_row (i := 2) R2.out.res rfl; have r3 := cell_row (i := 3) R2.out.res rfl; have r4 := cell_row (i := 4) R2.out.res rfl; clear hb))
  all_goals
    go_wp2
    refine bodyPost_ret (v := .tuple #[zeroRec, .bool false]) ?_ rfl ?_
    · exact rec_two rfl _ rfl rfl (put5_row R2.out.res 0 0 0 (.slice none 0 0) (.slice none 0 0))
    exact ⟨rfl, below_put5 R2.out.below (by omega) 0 0 0 (.slice none 0 0) (.slice none 0 0)⟩
set_option maxRecDepth 100000 in
theorem rec_yes (v : Value) (mr mu : Option Nat) (a b q : Int) (ds : List Idn) (cs : List Cmdn) (hl : ds.length ≤ 1000) (hl' : cs.length ≤ 1000) (W : World) (CH : HeldIs v mr mu W) (HG : ∀ W', Below W.heap.size W W' → Calls Tryz.prog 68 #[.agg #[.map mr], .agg #[.int .i64 a, .int .i64 b]] W' (GivesGet a b q ds cs W')) :
    Calls Tryz.prog 48 #[v, .agg #[.int .i64 a, .int .i64 b]] W (GivesRd ((a, b), q, ds, cs) W) := by
  have R0 := Lib.hid (RBox.start W a b)
  have C1 := Lib.hid (fun W' (h : Below W.heap.size W W') => CH W' h)
  have H1 := Lib.hid HG
  have E1 := f_index mr mu
  obtain ⟨n, hn⟩ : ∃ n, n = ds.length := ⟨_, rfl⟩
  obtain ⟨k, hk⟩ : ∃ k, k = cs.length := ⟨_, rfl⟩
  unfold GivesGet at H1
  rw [← hn, ← hk] at H1
  have HN := Lib.hid (And.intro hn hk)
  clear CH HG hn hk
  have d0 := cell_row (i := 0) R0.out.id rfl
  have d1 := cell_row (i := 1) R0.out.id rfl
  go_enter Tryz.func48, Tryz.ntmps48
  go_wp2
  go_region_with (first
    | (go_at_call 50; (with_reducible refine (C1.out _ R0.out.below).mono ?_); rintro E w1 ⟨rfl, hb⟩; have R1 := Lib.hid (R0.out.on hb); have c0 := cell_row (i := 0) R1.out.id rfl; have c1 := cell_row (i := 1) R1.out.id rfl; clear hb)
    | (go_at_call 68; (with_reducible refine (H1.out _ R1.out.below).mono ?_); rintro E w2 ⟨g, h, rfl, hI⟩; have HI := Lib.hid hI; have R2 := Lib.hid (R1.out.on hI.below); have f0 := free_row (i := 0) R2.out.res; have f1 := free_row (i := 1) R2.out.res; have f2 := free_row (i := 2) R2.out.res; have f3 := free_row (i := 3) R2.out.res; have f4 := free_row (i := 4) R2.out.res; have r0 := cell_row (i := 0) R2.out.res rfl; have r1 := cell_row (i := 1) R2.out.res rfl; have r2 := cell_row (i := 2) R2.out.res rfl; have r3 := cell_row (i := 3) R2.out.res rfl; have r4 := cell_row (i := 4) R2.out.res rfl; clear hI))
  all_goals
    go_wp2
    refine bodyPost_ret (v := .tuple #[.agg #[.int .i64 a, .int .i64 b, .int .i64 q, .slice (some ⟨g, 0, none⟩) n n, .slice (some ⟨h, 0, none⟩) k k], .bool true]) ?_ rfl ?_
    · exact rec_two rfl _ rfl rfl (put5_row R2.out.res a b q (.slice (some ⟨g, 0, none⟩) n n) (.slice (some ⟨h, 0, none⟩) k k))
    obtain ⟨rfl, rfl⟩ := HN.out
    have h1 := HI.out.own
    have h2 := HI.out.own'
    have h3 := R1.out.lt
    exact ⟨_, _, rfl, owns_block ((put5_far w2 (by omega) a b q (.slice (some ⟨g, 0, none⟩) ds.length ds.length) (.slice (some ⟨h, 0, none⟩) cs.length cs.length)).trans HI.out.row) (by omega) (by omega), rowC ((put5_far w2 (by omega) a b q (.slice (some ⟨g, 0, none⟩) ds.length ds.length) (.slice (some ⟨h, 0, none⟩) cs.length cs.length)).trans HI.out.row') (by omega), below_put5 R2.out.below (by omega) a b q (.slice (some ⟨g, 0, none⟩) ds.length ds.length) (.slice (some ⟨h, 0, none⟩) cs.length cs.length)⟩
end Go.Proofs.YtnekajpoheipiaaGreat.Gra
