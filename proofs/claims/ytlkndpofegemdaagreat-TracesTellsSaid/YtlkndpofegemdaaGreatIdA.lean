/- What the small functions of layer 3 (ident) and of the document's answer give, for any two numbers. No condition. -/
import Derived.Test.YtlkndpofegemdaaGreatChecked
import Derived.WalkKit
import Derived.WalkSpells
import Derived.Lib.Hide
import Derived.Lib.SliceRun
import Derived.Laws.StructEq
import Derived.Deep.RegionHeld3
import Derived.Deep.DrawnRows
import Derived.KernelRfl
import Derived.LoopTactic
import Derived.IntWalk
import Derived.Deep.QuietTactic
import Derived.BigQuiet
import Derived.Lib.SmallJoins
import Derived.Sort.Statements
import Derived.WalkSmall
namespace Go.Proofs.YtlkndpofegemdaaGreat.Ids
open Go.RowKit
set_option linter.unusedVariables false

/-- An id: its two numbers, and its two cells. -/
abbrev Idn := Int × Int
/-- A number that fits into an int. -/
abbrev wfI (n : Int) : Prop := -9223372036854775808 ≤ n ∧ n ≤ 9223372036854775807
def wfId (x : Idn) : Prop := wfI x.1 ∧ wfI x.2
theorem wf_i64 {n : Int} : (Lit.int .i64 n).wf = true ↔ wfI n := by
  simp [Lit.wf, IntKind.min, IntKind.max, IntKind.signed, IntKind.bits]
def ids (x : Idn) : List Value := [.int .i64 x.1, .int .i64 x.2]
def idLt (a b : Idn) : Bool := if a.1 = b.1 then decide (a.2 < b.2) else decide (a.1 < b.1)
def idCmp (a b : Idn) : Int := if a = b then 0 else if idLt a b then -1 else 1
def idRight (x : Idn) : Bool := decide (0 ≤ x.1 ∧ x.1 < 8 ∧ 1 ≤ x.2 ∧ x.2 ≤ 1048576)
def idErr (x : Idn) : Int := if 0 ≤ x.1 ∧ x.1 < 8 then (if 1 ≤ x.2 ∧ x.2 ≤ 1048576 then 0 else 8) else 7

theorem und_id : Tryz.prog.underlying 43 = some (.struct (Tryz.prog.fieldsOf 43)) := by kernel_rfl
theorem equal_id (w : World) (a b c d : Int) : (Op.equalIn 10000 43 (.agg #[.int .i64 a, .int .i64 b]) (.agg #[.int .i64 c, .int .i64 d])).run Tryz.prog w = .ok (a == c && b == d) w := by
  have u3 := Tryz.underlying3
  have a3 := Tryz.isAgg3
  have z3 := Tryz.sizeOf3
  have hS := und_id
  have hp : Tryz.prog.stoodInHeld 43 = false := by kernel_rfl
  rw [show (10000 : Nat) = 9999 + 1 from rfl, run_equalIn_agg w 9999 43 _ _ hS hp]
  simp only [Program.fieldsOf, Tryz.underlying43]
  go_simp
  by_cases h1 : a = c <;> by_cases h2 : b = d <;> simp [h1, h2]
@[go_sem] theorem eql_id (w : World) (a b c d : Int) : (binOp .eql 43 (.agg #[.int .i64 a, .int .i64 b]) (.agg #[.int .i64 c, .int .i64 d])).run Tryz.prog w = .ok (.bool (a == c && b == d)) w := by
  rw [run_eql_struct, equal_id]; rfl
@[go_sem] theorem neq_id (w : World) (a b c d : Int) : (binOp .neq 43 (.agg #[.int .i64 a, .int .i64 b]) (.agg #[.int .i64 c, .int .i64 d])).run Tryz.prog w = .ok (.bool !(a == c && b == d)) w := by
  rw [run_neq_struct, equal_id]; rfl

def cells (a b : Int) : Obj := .cells #[.int .i64 a, .int .i64 b] 43
def two (w : World) (a b c d : Int) : World := (w.alloc (cells a b)).alloc (cells c d)
theorem below_one (w : World) (o : Obj) : Below w.heap.size w (w.alloc o) := (Below.refl _ w).alloc (Nat.le_refl _) _
theorem below_two (w : World) (a b c d : Int) : Below w.heap.size w (two w a b c d) := (below_one _ _).trans ((below_one _ _).mono (by simp))
theorem ret_bool {a b : Bool} (h : a = b) : Ending.returned (.bool a) = .returned (.bool b) := by rw [h]
theorem ret_int {k : IntKind} {a b : Int} (h : a = b) : Ending.returned (.int k a) = .returned (.int k b) := by rw [h]

theorem less_any (a b c d : Int) (w : World) : Calls Tryz.prog 30 #[.agg #[.int .i64 a, .int .i64 b], .agg #[.int .i64 c, .int .i64 d]] w fun e w' => e = .returned (.bool (idLt (a, b) (c, d))) ∧ w' = two w a b c d := by
  go_enter Tryz.func30, Tryz.ntmps30
  go_wp2
  all_goals
    rename_i h
    go_ret
    refine ⟨ret_bool ?_, rfl⟩
    simp at h
    unfold idLt; simp [h]

theorem compare_any (a b c d : Int) (w : World) : Calls Tryz.prog 73 #[.agg #[.int .i64 a, .int .i64 b], .agg #[.int .i64 c, .int .i64 d]] w fun e w' => e = .returned (.int .i64 (idCmp (a, b) (c, d))) ∧ w' = two w a b c d := by
  by_cases h1 : a = c
  · subst h1
    by_cases h2 : b = d
    · subst h2
      go_enter Tryz.func73, Tryz.ntmps73
      go_wp2
      go_ret
      exact ⟨ret_int (by unfold idCmp; simp), rfl⟩
    · have h3 : (b == d) = false := beq_eq_false_iff_ne.2 h2
      by_cases h4 : b < d
      · go_enter Tryz.func73, Tryz.ntmps73
        go_wp2
        go_ret
        exact ⟨ret_int (by unfold idCmp idLt; simp [h2, h4]), rfl⟩
      · go_enter Tryz.func73, Tryz.ntmps73
        go_wp2
        go_ret
        exact ⟨ret_int (by unfold idCmp idLt; simp [h2, h4]), rfl⟩
  · have h3 : (a == c) = false := beq_eq_false_iff_ne.2 h1
    by_cases h4 : a < c
    · go_enter Tryz.func73, Tryz.ntmps73
      go_wp2
      go_ret
      exact ⟨ret_int (by unfold idCmp idLt; simp [h1, h4]), rfl⟩
    · go_enter Tryz.func73, Tryz.ntmps73
      go_wp2
      go_ret
      exact ⟨ret_int (by unfold idCmp idLt; simp [h1, h4]), rfl⟩

theorem check_any (a b : Int) (w : World) : Calls Tryz.prog 68 #[.agg #[.int .i64 a, .int .i64 b]] w fun e w' => e = .returned (.int .i64 (idErr (a, b))) ∧ w' = w.alloc (cells a b) := by
  go_enter Tryz.func68, Tryz.ntmps68
  go_wp2
  all_goals
    go_ret
    refine ⟨ret_int ?_, rfl⟩
    (try simp at *)
    unfold idErr
    simp only []
    repeat' split
    all_goals omega

theorem right_any (a b : Int) (w : World) : Calls Tryz.prog 46 #[.agg #[.int .i64 a, .int .i64 b]] w fun e w' => e = .returned (.bool (idRight (a, b))) ∧ w' = w.alloc (cells a b) := by
  go_enter Tryz.func46, Tryz.ntmps46
  go_wp2
  all_goals
    go_ret
    refine ⟨ret_bool ?_, rfl⟩
    (try simp at *)
    unfold idRight
    (try simp [*])
    (try omega)

theorem right_err (x : Idn) : idRight x = true ↔ idErr x = 0 := by
  unfold idRight idErr
  rw [decide_eq_true_eq]
  repeat' split
  all_goals omega
end Go.Proofs.YtlkndpofegemdaaGreat.Ids

/- What the loops over a list of ids give (layer 3, ident): whether one is in it, whether it rises, whether two are the same. Condition: the list lies in memory as its cells say (RowAt). -/
namespace Go.Proofs.YtlkndpofegemdaaGreat.Ids
open Go.RowKit
set_option linter.unusedVariables false

def nth (zs : List Idn) (j : Nat) : Idn := zs.getD j (0, 0)
/-- A slice value that reads as a list of ids. -/
def RowAt (w : World) (v : Value) (zs : List Idn) : Prop :=
  ∃ (p : Option Addr) (cap : Nat), v = .slice p zs.length cap ∧ zs.length ≤ cap ∧ cap ≤ 9223372036854775807 ∧ (p = none → cap = 0) ∧
    (zs ≠ [] → ∃ b off, p = some ⟨b, off, none⟩ ∧ b < w.heap.size ∧ ∀ j, j < zs.length → w.cell? ⟨b, off + j * 2, none⟩ = some (.int .i64 (nth zs j).1) ∧ w.cell? ⟨b, off + j * 2 + 1, none⟩ = some (.int .i64 (nth zs j).2))
theorem RowAt.on {w w' : World} {v : Value} {zs : List Idn} (h : RowAt w v zs) (hb : Below w.heap.size w w') : RowAt w' v zs := by
  obtain ⟨p, cap, rfl, h1, h2, h0, h3⟩ := h
  refine ⟨p, cap, rfl, h1, h2, h0, fun hz => ?_⟩
  obtain ⟨b, off, rfl, hlt, hc⟩ := h3 hz
  exact ⟨b, off, rfl, Nat.lt_of_lt_of_le hlt hb.size, fun j hj => ⟨(hb.cell (p := ⟨b, off + j * 2, none⟩) hlt).trans (hc j hj).1, (hb.cell (p := ⟨b, off + j * 2 + 1, none⟩) hlt).trans (hc j hj).2⟩⟩

/-! ### The document's Has -/
theorem mem_nth {zs : List Idn} {x : Idn} : x ∈ zs ↔ ∃ j, j < zs.length ∧ nth zs j = x := by
  unfold nth
  constructor
  · intro h
    obtain ⟨j, hj, e⟩ := List.getElem_of_mem h
    exact ⟨j, hj, by rw [List.getD_eq_getElem?_getD, List.getElem?_eq_getElem hj]; exact e⟩
  · rintro ⟨j, hj, e⟩
    rw [List.getD_eq_getElem?_getD, List.getElem?_eq_getElem hj] at e
    rw [← e]; exact List.getElem_mem hj

structure Row2 (w : World) (B off : Nat) (zs : List Idn) : Prop where
  lt : B < w.heap.size
  fst : ∀ j, j < zs.length → w.cell? ⟨B, off + j * 2, none⟩ = some (.int .i64 (nth zs j).1)
  snd : ∀ j, j < zs.length → w.cell? ⟨B, off + j * 2 + 1, none⟩ = some (.int .i64 (nth zs j).2)
theorem Row2.on {w w' : World} {B off : Nat} {zs : List Idn} (h : Row2 w B off zs) (hb : Below w.heap.size w w') : Row2 w' B off zs :=
  ⟨Nat.lt_of_lt_of_le h.lt hb.size, fun j hj => (hb.cell (p := ⟨B, off + j * 2, none⟩) h.lt).trans (h.fst j hj), fun j hj => (hb.cell (p := ⟨B, off + j * 2 + 1, none⟩) h.lt).trans (h.snd j hj)⟩
/-- Behind a box of the call's own: what lay there, and what is in the box. -/
structure Boxed (w : World) (a b : Int) (wr : World) : Prop where
  below : Below w.heap.size w wr
  lt : w.heap.size < wr.heap.size
  fst : wr.cell? ⟨w.heap.size, 0, none⟩ = some (.int .i64 a)
  snd : wr.cell? ⟨w.heap.size, 1, none⟩ = some (.int .i64 b)
  fr0 : wr.frozen? ⟨w.heap.size, 0, none⟩ = false
  fr1 : wr.frozen? ⟨w.heap.size, 1, none⟩ = false
theorem box_free (w : World) (a b : Int) (j : Nat) : (w.alloc (cells a b)).frozen? ⟨w.heap.size, j, none⟩ = false := by
  have h : (w.alloc (cells a b)).heap[w.heap.size]? = some (.cells #[.int .i64 a, .int .i64 b] 43 (0, 0)) := heap_alloc_new w _
  unfold World.frozen?
  simp only [h]
  simp
theorem Boxed.start (w : World) (a b : Int) : Boxed w a b (w.alloc (cells a b)) :=
  ⟨below_one _ _, by simp, by unfold cells; rw [World.cell?_alloc_mark]; rfl, by unfold cells; rw [World.cell?_alloc_mark]; rfl, box_free _ _ _ _, box_free _ _ _ _⟩
theorem Boxed.on {w wr w' : World} {a b : Int} (h : Boxed w a b wr) (hb : Below wr.heap.size wr w') : Boxed w a b w' :=
  ⟨h.below.trans (hb.mono h.below.size), Nat.lt_of_lt_of_le h.lt hb.size, (hb.cell (p := ⟨w.heap.size, 0, none⟩) h.lt).trans h.fst, (hb.cell (p := ⟨w.heap.size, 1, none⟩) h.lt).trans h.snd, (hb.frozen (p := ⟨w.heap.size, 0, none⟩) h.lt).trans h.fr0, (hb.frozen (p := ⟨w.heap.size, 1, none⟩) h.lt).trans h.fr1⟩
theorem below_drN {B : Nat} {a w : World} (h : Below B a w) (n : Nat) : Below B a (w.drewN n) := ⟨h.os, h.tape, h.output, h.size, h.block⟩
theorem below_draws (w : World) (n : Nat) : Below w.heap.size w (w.drewN n) := Go.Joins.below_draws _ _ _


/-! ### Rising -/
theorem below_drew_two (w : World) (a b c d : Int) : Below w.heap.size w (two w.drew a b c d) := (Below.refl _ w).drew.trans (below_two w.drew a b c d)
/-- Two cells side by side, twice. -/
theorem Row2.pair {w w' : World} {B off : Nat} {zs : List Idn} (h : Row2 w B off zs) (hb : Below w.heap.size w w') {j k : Nat} {x y x' y' : Int} (hj : j < zs.length) (hk : k < zs.length) (e : nth zs j = (x, y)) (e' : nth zs k = (x', y')) :
    w'.cell? ⟨B, off + j * 2, none⟩ = some (.int .i64 x) ∧ w'.cell? ⟨B, off + j * 2 + 1, none⟩ = some (.int .i64 y) ∧ w'.cell? ⟨B, off + k * 2, none⟩ = some (.int .i64 x') ∧ w'.cell? ⟨B, off + k * 2 + 1, none⟩ = some (.int .i64 y') := by
  have h2 := h.on hb
  have a := h2.fst j hj; have b := h2.snd j hj; have c := h2.fst k hk; have d := h2.snd k hk
  rw [e] at a b; rw [e'] at c d
  exact ⟨a, b, c, d⟩
def rises (zs : List Idn) : Bool := (List.range (zs.length - 1)).all fun j => idLt (nth zs j) (nth zs (j + 1))
theorem rises_iff {zs : List Idn} : rises zs = true ↔ ∀ j, j + 1 < zs.length → idLt (nth zs j) (nth zs (j + 1)) = true := by
  unfold rises
  rw [List.all_eq_true]
  constructor
  · intro h j hj; exact h j (List.mem_range.2 (by omega))
  · intro h j hj; exact h j (by have := List.mem_range.1 hj; omega)
theorem cmp_lt (a b : Idn) : idCmp a b = if idLt a b then -1 else if a = b then 0 else 1 := by
  unfold idCmp
  by_cases h : a = b
  · subst h; unfold idLt; simp
  · simp [h]



/-! ### Same -/
theorem eq_nth {zs ys : List Idn} : zs = ys ↔ zs.length = ys.length ∧ ∀ j, j < zs.length → nth zs j = nth ys j := by
  constructor
  · rintro rfl; exact ⟨rfl, fun _ _ => rfl⟩
  · rintro ⟨h1, h2⟩
    refine List.ext_getElem h1 fun j h3 h4 => ?_
    have := h2 j h3
    unfold nth at this
    rwa [List.getD_eq_getElem?_getD, List.getElem?_eq_getElem h3, List.getD_eq_getElem?_getD, List.getElem?_eq_getElem h4] at this

set_option maxHeartbeats 1000000 in
theorem same_any (v u : Value) (zs ys : List Idn) (w : World) (h : RowAt w v zs) (g : RowAt w u ys) : Calls Tryz.prog 28 #[v, u] w fun e w' => e = .returned (.bool (decide (zs = ys))) ∧ Below w.heap.size w w' := by
  obtain ⟨p, cap, rfl, h1, h2, -, h3⟩ := h
  obtain ⟨q, caq, rfl, g1, g2, -, g3⟩ := g
  by_cases hl : zs.length = ys.length
  · by_cases hz : zs = []
    · subst hz
      have hy : ys = [] := List.eq_nil_of_length_eq_zero hl.symm
      subst hy
      clear h3 g3 hl
      go_enter Tryz.func28, Tryz.ntmps28
      go_wp2
      go_loopw [5] (fun i wr => i = .int .i64 0 ∧ wr = w) (fun _ _ => 0)
      case atStart => exact ⟨rfl, rfl⟩
      case round =>
        obtain ⟨rfl, rfl⟩ := hrel
        go_wp2
        go_ret
        exact ⟨rfl, Below.refl _ _⟩
    · have hy : ys ≠ [] := fun e => by rw [e] at hl; exact hz (List.eq_nil_of_length_eq_zero hl)
      obtain ⟨B, off, rfl, hlt, hc⟩ := h3 hz
      obtain ⟨C, og, rfl, glt, gc⟩ := g3 hy
      have HC : Hid (Row2 w B off zs) := Lib.hid ⟨hlt, fun j hj => (hc j hj).1, fun j hj => (hc j hj).2⟩
      have HD : Hid (Row2 w C og ys) := Lib.hid ⟨glt, fun j hj => (gc j hj).1, fun j hj => (gc j hj).2⟩
      have hlen : zs.length ≤ 9223372036854775807 := by omega
      have hpos : 0 < zs.length := List.length_pos_iff.2 hz
      obtain ⟨n, hn⟩ : ∃ n, n = zs.length := ⟨_, rfl⟩
      have hm : n = ys.length := by omega
      rw [← hm] at g1 ⊢
      rw [← hn] at h1 hlen hpos ⊢
      have HZ := Lib.hid hn
      have HY := Lib.hid hm
      have HM := Lib.hid (eq_nth (zs := zs) (ys := ys))
      generalize hr : decide (zs = ys) = r
      have HR := Lib.hid hr
      clear hr hc hn h3 hz h1 h2 hlt gc hm g3 hy g1 g2 glt hl
      go_enter Tryz.func28, Tryz.ntmps28
      go_wp2
      go_loopw [5] (fun i wr => ∃ k : Nat, k ≤ n ∧ i = .int .i64 k ∧ Hid (Below w.heap.size w wr) ∧ Hid (∀ j, j < k → nth zs j = nth ys j)) (fun i _ => n - (intOf i).toNat)
      case atStart => exact ⟨0, Nat.zero_le _, rfl, Lib.hid (Below.refl _ _), Lib.hid fun j hj => absurd hj (Nat.not_lt_zero _)⟩
      case round =>
        obtain ⟨k, hk, rfl, hbw, hno⟩ := hrel
        by_cases hkn : k < n
        · have hrow := HC.out.on hbw.out
          have grow := HD.out.on hbw.out
          have c1 := hrow.fst k (by rw [← HZ.out]; omega)
          have c2 := hrow.snd k (by rw [← HZ.out]; omega)
          have c3 := grow.fst k (by rw [← HY.out]; omega)
          have c4 := grow.snd k (by rw [← HY.out]; omega)
          have k0 : (0 : Int) ≤ k := by omega
          have kn : (k : Int) < n := by omega
          obtain ⟨x, y, hxy⟩ : ∃ x y, nth zs k = (x, y) := ⟨_, _, rfl⟩
          obtain ⟨x', y', hxy'⟩ : ∃ x y, nth ys k = (x, y) := ⟨_, _, rfl⟩
          rw [hxy] at c1 c2
          rw [hxy'] at c3 c4
          by_cases he : (x, y) = (x', y')
          · have h3 : (x == x' && y == y') = true := by
              rw [Prod.mk.injEq] at he; rw [he.1, he.2]; simp
            have HX : Hid (nth zs k = nth ys k) := Lib.hid (by rw [hxy, hxy']; exact he)
            have hq : ∀ w, (binOp .neq 43 (.agg #[.int .i64 x, .int .i64 y]) (.agg #[.int .i64 x', .int .i64 y'])).run Tryz.prog w = .ok (.bool false) w := fun w => by rw [neq_id, h3]; rfl
            clear hrow grow he hxy hxy' h3
            go_wp2
            go_quiet (fail)
            go_wp2
            go_roundw
            case rel => exact ⟨k + 1, by omega, by go_num, Lib.hid (hbw.out.trans ((below_draws _ _).mono hbw.out.size)), Lib.hid fun j hj => by
              by_cases e : j = k
              · rw [e]; exact HX.out
              · exact hno.out j (by omega)⟩
            case measure => simp [intOf]; omega
          · have h3 : (x == x' && y == y') = false := by
              rw [Bool.eq_false_iff]; intro h; rw [Bool.and_eq_true, beq_iff_eq, beq_iff_eq] at h; exact he (by rw [h.1, h.2])
            have HX : Hid (nth zs k ≠ nth ys k) := Lib.hid (by rw [hxy, hxy']; exact he)
            have hq : ∀ w, (binOp .neq 43 (.agg #[.int .i64 x, .int .i64 y]) (.agg #[.int .i64 x', .int .i64 y'])).run Tryz.prog w = .ok (.bool true) w := fun w => by rw [neq_id, h3]; rfl
            clear hrow grow he hxy hxy' h3
            go_wp2
            go_quiet (fail)
            go_wp2
            go_ret
            refine ⟨ret_bool ?_, hbw.out.trans ((below_draws _ _).mono hbw.out.size)⟩
            rw [← HR.out]
            exact (decide_eq_false fun h => HX.out ((HM.out.1 h).2 k (by rw [← HZ.out]; exact hkn))).symm
        · have kn : ¬ (k : Int) < n := by omega
          go_wp2
          go_ret
          refine ⟨ret_bool ?_, hbw.out⟩
          rw [← HR.out]
          exact (decide_eq_true (HM.out.2 ⟨by rw [← HZ.out, ← HY.out], fun j hj => hno.out j (by rw [← HZ.out] at hj; omega)⟩)).symm
  · have hne : ¬ zs = ys := fun e => hl (by rw [e])
    have hn : ((zs.length : Int) == (ys.length : Int)) = false := by rw [beq_eq_false_iff_ne]; omega
    obtain ⟨n, e1⟩ : ∃ n, zs.length = n := ⟨_, rfl⟩
    obtain ⟨m, e2⟩ : ∃ n, ys.length = n := ⟨_, rfl⟩
    rw [decide_eq_false hne]
    rw [e1, e2] at hn hl ⊢
    have hl' : ¬ (n : Int) = (m : Int) := by omega
    clear h3 g3 hne h1 h2 g1 g2 e1 e2
    go_enter Tryz.func28, Tryz.ntmps28
    go_wp2
    go_ret
    exact ⟨rfl, Below.refl _ _⟩
end Go.Proofs.YtlkndpofegemdaaGreat.Ids

/- Plain facts on lists of ids: the order is strict and total; one more put in; two rising lists with the same ids are the same; one of each run of the same. No condition but those in each statement. -/
namespace Go.Proofs.YtlkndpofegemdaaGreat.Ids
set_option linter.unusedVariables false

theorem lt_irr (x : Idn) : idLt x x = false := by unfold idLt; simp
theorem lt_tr {x y z : Idn} (h : idLt x y = true) (k : idLt y z = true) : idLt x z = true := by
  unfold idLt at *
  split at h <;> split at k <;> split <;> simp only [decide_eq_true_eq] at * <;> omega
theorem lt_tot {x y : Idn} (h : idLt x y = false) (k : idLt y x = false) : x = y := by
  unfold idLt at *
  have : x.1 = y.1 ∧ x.2 = y.2 := by
    split at h <;> split at k <;> simp only [decide_eq_false_iff_not] at * <;> omega
  exact Prod.ext this.1 this.2
theorem lt_as {x y : Idn} (h : idLt x y = true) : idLt y x = false := by
  cases hk : idLt y x with
  | false => rfl
  | true => have := lt_tr h hk; rw [lt_irr] at this; cases this
abbrev Rise (l : List Idn) : Prop := l.Pairwise fun x y => idLt x y = true

theorem nth_bang (zs : List Idn) (j : Nat) : zs[j]! = nth zs j := by
  unfold nth
  rw [List.getElem!_eq_getElem?_getD, List.getD_eq_getElem?_getD]; rfl
theorem nth_cons_zero (x : Idn) (l : List Idn) : nth (x :: l) 0 = x := rfl
theorem nth_cons_succ (x : Idn) (l : List Idn) (j : Nat) : nth (x :: l) (j + 1) = nth l j := by unfold nth; simp
theorem rises_rise : ∀ {zs : List Idn}, rises zs = true ↔ Rise zs
  | [] => ⟨fun _ => .nil, fun _ => rfl⟩
  | [x] => ⟨fun _ => by simp [Rise], fun _ => rfl⟩
  | x :: y :: l => by
    have ih := rises_rise (zs := y :: l)
    rw [rises_iff] at ih ⊢
    constructor
    · intro h
      have h1 := ih.1 fun j hj => by
        have := h (j + 1) (by simp at hj ⊢; omega)
        rwa [nth_cons_succ, nth_cons_succ] at this
      refine List.Pairwise.cons (fun z hz => ?_) h1
      have h2 : idLt x y = true := h 0 (by simp)
      rcases List.mem_cons.1 hz with rfl | hz
      · exact h2
      · exact lt_tr h2 ((List.pairwise_cons.1 h1).1 z hz)
    · intro h j hj
      obtain ⟨h1, h2⟩ := List.pairwise_cons.1 h
      match j with
      | 0 => exact h1 y (by simp)
      | j + 1 =>
        rw [nth_cons_succ, nth_cons_succ]
        exact ih.2 h2 j (by simp at hj ⊢; omega)

theorem rise_eq : ∀ {a b : List Idn}, Rise a → Rise b → (∀ x, x ∈ a ↔ x ∈ b) → a = b
  | [], [], _, _, _ => rfl
  | [], y :: b, _, _, h => by have := (h y).2 (by simp); cases this
  | x :: a, [], _, _, h => by have := (h x).1 (by simp); cases this
  | x :: a, y :: b, ha, hb, h => by
    obtain ⟨a1, a2⟩ := List.pairwise_cons.1 ha
    obtain ⟨b1, b2⟩ := List.pairwise_cons.1 hb
    have e : x = y := by
      rcases List.mem_cons.1 ((h x).1 (by simp)) with e | hx
      · exact e
      · rcases List.mem_cons.1 ((h y).2 (by simp)) with e | hy
        · exact e.symm
        · have := lt_tr (a1 y hy) (b1 x hx)
          rw [lt_irr] at this; cases this
    subst e
    have ht : a = b := rise_eq a2 b2 fun z => by
      have hz := h z
      rw [List.mem_cons, List.mem_cons] at hz
      constructor
      · intro hm
        rcases hz.1 (.inr hm) with rfl | h2
        · have := a1 z hm; rw [lt_irr] at this; cases this
        · exact h2
      · intro hm
        rcases hz.2 (.inr hm) with rfl | h2
        · have := b1 z hm; rw [lt_irr] at this; cases this
        · exact h2
    rw [ht]

/-! ### One more -/
def ins (x : Idn) : List Idn → List Idn
  | [] => [x]
  | y :: t => if idLt x y then x :: y :: t else y :: ins x t
def put (l : List Idn) (x : Idn) : List Idn := if x ∈ l then l else ins x l
def srt (l : List Idn) : List Idn := l.foldl put []
theorem ins_mem (x z : Idn) : ∀ l, z ∈ ins x l ↔ z = x ∨ z ∈ l
  | [] => by simp [ins]
  | y :: t => by
    unfold ins
    split
    · simp
    · rw [List.mem_cons, ins_mem x z t, List.mem_cons]
      constructor
      · rintro (h | h | h) <;> simp [h]
      · rintro (h | h | h) <;> simp [h]
theorem ins_length (x : Idn) : ∀ l, (ins x l).length = l.length + 1
  | [] => rfl
  | y :: t => by
    unfold ins
    split
    · rfl
    · rw [List.length_cons, ins_length x t]; rfl
theorem ins_rise {x : Idn} : ∀ {l}, Rise l → x ∉ l → Rise (ins x l)
  | [], _, _ => by simp [ins, Rise]
  | y :: t, h, hx => by
    obtain ⟨h1, h2⟩ := List.pairwise_cons.1 h
    unfold ins
    split
    · rename_i hl
      refine List.Pairwise.cons (fun z hz => ?_) h
      rcases List.mem_cons.1 hz with rfl | hz
      · exact hl
      · exact lt_tr hl (h1 z hz)
    · rename_i hl
      refine List.Pairwise.cons (fun z hz => ?_) (ins_rise h2 fun hm => hx (List.mem_cons_of_mem _ hm))
      rcases (ins_mem x z t).1 hz with rfl | hz
      · cases hk : idLt y z with
        | true => rfl
        | false => exact absurd (lt_tot (by simpa using hl) hk) fun e => hx (by rw [e]; simp)
      · exact h1 z hz
theorem put_mem (l : List Idn) (x z : Idn) : z ∈ put l x ↔ z = x ∨ z ∈ l := by
  unfold put
  split
  · rename_i h
    exact ⟨.inr, fun hz => hz.elim (fun e => e ▸ h) id⟩
  · exact ins_mem x z l
theorem put_rise {l : List Idn} {x : Idn} (h : Rise l) : Rise (put l x) := by
  unfold put
  split
  · exact h
  · rename_i hx; exact ins_rise h hx
theorem put_length (l : List Idn) (x : Idn) : (put l x).length ≤ l.length + 1 := by
  unfold put
  split
  · omega
  · rw [ins_length]; exact Nat.le_refl _
theorem fold_put : ∀ (l a : List Idn), Rise a → Rise (l.foldl put a) ∧ ∀ z, z ∈ l.foldl put a ↔ z ∈ a ∨ z ∈ l
  | [], a, h => ⟨h, fun z => by simp⟩
  | x :: l, a, h => by
    obtain ⟨h1, h2⟩ := fold_put l (put a x) (put_rise h)
    refine ⟨h1, fun z => ?_⟩
    rw [List.foldl_cons, h2, put_mem, List.mem_cons]
    constructor
    · rintro ((h | h) | h) <;> simp [h]
    · rintro (h | h | h) <;> simp [h]
theorem srt_rise (l : List Idn) : Rise (srt l) := (fold_put l [] .nil).1
theorem srt_mem (l : List Idn) (z : Idn) : z ∈ srt l ↔ z ∈ l := by
  have := (fold_put l [] .nil).2 z
  unfold srt; simpa using this
theorem srt_take (l : List Idn) (k : Nat) (h : k < l.length) : srt (l.take (k + 1)) = put (srt (l.take k)) (nth l k) := by
  unfold srt nth
  rw [List.take_succ_eq_append_getElem h, List.foldl_append, List.getD_eq_getElem?_getD, List.getElem?_eq_getElem h]
  rfl
theorem srt_length (l : List Idn) : (srt l).length ≤ l.length := by
  have : ∀ (l a : List Idn), (l.foldl put a).length ≤ a.length + l.length := by
    intro l
    induction l with
    | nil => intro a; simp
    | cons x l ih =>
      intro a
      rw [List.foldl_cons]
      have := ih (put a x)
      have := put_length a x
      simp only [List.length_cons]; omega
  have := this l []
  unfold srt; simpa using this

/-! ### One of each run -/
/-- What is left of a list whose first element was kept: those that differ from the one ahead. -/
def cpt : List Idn → List Idn
  | [] => []
  | [x] => [x]
  | x :: y :: t => if x = y then cpt (y :: t) else x :: cpt (y :: t)
theorem cpt_mem (z : Idn) : ∀ l, z ∈ cpt l ↔ z ∈ l
  | [] => Iff.rfl
  | [x] => Iff.rfl
  | x :: y :: t => by
    have ih := cpt_mem z (y :: t)
    unfold cpt
    split
    · rename_i e
      subst e
      rw [ih]
      simp
    · rw [List.mem_cons, ih, List.mem_cons, List.mem_cons, List.mem_cons]
/-- Not falling. -/
abbrev Flat (l : List Idn) : Prop := l.Pairwise fun x y => idLt y x = false
theorem cpt_rise : ∀ {l}, Flat l → Rise (cpt l)
  | [], _ => .nil
  | [x], _ => by simp [cpt, Rise]
  | x :: y :: t, h => by
    obtain ⟨h1, h2⟩ := List.pairwise_cons.1 h
    have ih := cpt_rise h2
    unfold cpt
    split
    · exact ih
    · rename_i e
      refine List.Pairwise.cons (fun z hz => ?_) ih
      have hz := (cpt_mem z _).1 hz
      have hy : idLt x y = true := by
        cases hk : idLt x y with
        | true => rfl
        | false => exact absurd (lt_tot hk (h1 y (by simp))) e
      rcases List.mem_cons.1 hz with rfl | hz
      · exact hy
      · have h3 := (List.pairwise_cons.1 h2).1 z hz
        cases hk : idLt x z with
        | true => rfl
        | false =>
          have e2 := lt_tot hk (h1 z (by simp [hz]))
          subst e2
          rw [hy] at h3; cases h3
theorem cpt_srt {l s : List Idn} (h : Flat s) (hm : ∀ z, z ∈ s ↔ z ∈ l) : cpt s = srt l :=
  rise_eq (cpt_rise h) (srt_rise l) fun z => by rw [cpt_mem, srt_mem, hm]
end Go.Proofs.YtlkndpofegemdaaGreat.Ids

/- What the document's Put and Sorted give (layer 3, ident): the list with one more id in its place; the list in order, each id once. Conditions: the list lies in memory as its cells say, and is not longer than 100000. -/
namespace Go.Proofs.YtlkndpofegemdaaGreat.Ids
open Go.RowKit
set_option linter.unusedVariables false

/-! ### Rows of the call's own -/
def flat (zs : List Idn) : List Value := zs.flatMap ids
theorem flat_len : ∀ zs : List Idn, (flat zs).length = zs.length * 2
  | [] => rfl
  | x :: t => by
    have := flat_len t
    unfold flat at *
    rw [List.flatMap_cons, List.length_append, this, List.length_cons]
    show 2 + _ = _
    omega
theorem flat_app (a b : List Idn) : flat (a ++ b) = flat a ++ flat b := by unfold flat; rw [List.flatMap_append]
theorem flat_at : ∀ (zs : List Idn) (j : Nat), j < zs.length → (flat zs)[j * 2]? = some (.int .i64 (nth zs j).1) ∧ (flat zs)[j * 2 + 1]? = some (.int .i64 (nth zs j).2)
  | x :: t, 0, _ => ⟨rfl, rfl⟩
  | x :: t, j + 1, h => by
    have ih := flat_at t j (by simpa using h)
    have e : flat (x :: t) = .int .i64 x.1 :: .int .i64 x.2 :: flat t := rfl
    rw [e, nth_cons_succ, show (j + 1) * 2 = j * 2 + 2 by omega, show j * 2 + 2 + 1 = j * 2 + 1 + 2 by omega]
    exact ih
abbrev Owns (w : World) (base : Nat) (v : Value) (zs : List Idn) : Prop := w.ownsRow base 43 2 v zs.length (flat zs)
theorem add_lit (g j : Nat) : ((⟨g, 0, none⟩ : Addr).add j) = ⟨g, j, none⟩ := by unfold Addr.add; split <;> simp_all
theorem Owns.row {w : World} {base : Nat} {v : Value} {zs : List Idn} (h : Owns w base v zs) : RowAt w v zs := by
  have hc := fun g hg => World.ownsRow.cells h (g := g) hg
  have hlt := World.ownsRow.lt h
  rcases h.2 with ⟨rfl, h0⟩ | ⟨g, cap, cur, rfl, hb, hg, hn, hm, -, -⟩
  · have e : zs = [] := List.eq_nil_of_length_eq_zero h0
    subst e
    exact ⟨none, 0, rfl, Nat.le_refl _, by omega, fun _ => rfl, fun h => absurd rfl h⟩
  · refine ⟨some ⟨g, 0, none⟩, cap, rfl, hn, by unfold maxLen at hm; omega, (fun h => by cases h), fun _ => ⟨g, 0, rfl, (hlt g rfl).2, fun j hj => ?_⟩⟩
    have h1 := flat_at zs j hj
    have e1 := hc g rfl _ _ h1.1
    have e2 := hc g rfl _ _ h1.2
    rw [add_lit] at e1 e2
    rw [Nat.zero_add]
    exact ⟨e1, e2⟩
theorem Owns.snoc {w : World} {base : Nat} {v : Value} {zs : List Idn} {x y : Int} (h : w.ownsRow base 43 2 v (zs.length + 1) (flat zs ++ [.int .i64 x, .int .i64 y])) : Owns w base v (zs ++ [(x, y)]) := by
  have e : flat zs ++ [.int .i64 x, .int .i64 y] = flat (zs ++ [(x, y)]) := by rw [flat_app]; rfl
  unfold Owns
  rw [← e, List.length_append]; exact h

/-- What lies under the box of a call, and the box. -/
theorem Boxed.of {w wr : World} {a b : Int} (h : Below (w.heap.size + 1) (w.alloc (cells a b)) wr) : Boxed w a b wr := by
  have h0 := Boxed.start w a b
  refine h0.on (h.mono ?_)
  simp
theorem put_far {w wr w1 : World} {a b : Int} {v : Value} {zs : List Idn} (h : Below (w.heap.size + 1) (w.alloc (cells a b)) wr) (hown : Owns wr (w.heap.size + 1) v zs) (o : Obj) (hg : (wr.alloc o).grownBy w1 v.ownBlock) : Below (w.heap.size + 1) (w.alloc (cells a b)) w1 := by
  have hs : w.heap.size + 1 ≤ wr.heap.size := by have := h.size; simpa using this
  exact Below.grown (h.alloc hs _) hg (by simp; omega) (fun k hk => (World.ownsRow.lt hown k hk).1)

theorem info_id : (Tryz.prog.info? 43).map (fun i => (i.zero, i.size, i.bytes)) = some (some (.agg #[.int .i64 0, .int .i64 0]), 2, 16) := by kernel_rfl
/-- The invariant of Put's loop. -/
def PutAt (x : Idn) (zs out : List Idn) (k : Nat) (d : Bool) : Prop := ins x zs = out ++ (if d then zs.drop k else ins x (zs.drop k)) ∧ out.length = k + d.toNat
theorem PutAt.start (x : Idn) (zs : List Idn) : PutAt x zs [] 0 false := ⟨rfl, rfl⟩
theorem drop_nth {zs : List Idn} {k : Nat} (h : k < zs.length) : zs.drop k = nth zs k :: zs.drop (k + 1) := by
  unfold nth
  rw [List.drop_eq_getElem_cons h, List.getD_eq_getElem?_getD, List.getElem?_eq_getElem h]; rfl
theorem PutAt.past {x : Idn} {zs out : List Idn} {k : Nat} (h : PutAt x zs out k true) (hk : k < zs.length) : PutAt x zs (out ++ [nth zs k]) (k + 1) true := by
  refine ⟨?_, by rw [List.length_append, h.2]; show k + 1 + 1 = k + 1 + 1; rfl⟩
  rw [h.1, if_pos rfl, if_pos rfl, drop_nth hk]; simp
theorem PutAt.go {x : Idn} {zs out : List Idn} {k : Nat} (h : PutAt x zs out k false) (hk : k < zs.length) (hx : idLt x (nth zs k) = false) : PutAt x zs (out ++ [nth zs k]) (k + 1) false := by
  refine ⟨?_, by rw [List.length_append, h.2]; simp⟩
  rw [h.1, drop_nth hk]
  simp [ins, hx]
theorem PutAt.hit {x : Idn} {zs out : List Idn} {k : Nat} (h : PutAt x zs out k false) (hk : k < zs.length) (hx : idLt x (nth zs k) = true) : PutAt x zs (out ++ [x] ++ [nth zs k]) (k + 1) true := by
  refine ⟨?_, by rw [List.length_append, List.length_append, h.2]; simp⟩
  rw [h.1, drop_nth hk]
  simp [ins, hx]
theorem PutAt.endT {x : Idn} {zs out : List Idn} (h : PutAt x zs out zs.length true) : ins x zs = out := by
  have := h.1
  simpa using this
theorem PutAt.endF {x : Idn} {zs out : List Idn} (h : PutAt x zs out zs.length false) : ins x zs = out ++ [x] := by
  have := h.1
  simpa [ins] using this

/-- A row in new memory. -/
def GivesNew (zs : List Idn) (w : World) (e : Ending) (w' : World) : Prop := ∃ v, e = .returned v ∧ RowAt w' v zs ∧ Below w.heap.size w w' ∧ ∀ k, v.ownBlock = some k → w.heap.size ≤ k
def GivesRow (zs : List Idn) (w : World) (e : Ending) (w' : World) : Prop := ∃ v, e = .returned v ∧ RowAt w' v zs ∧ Below w.heap.size w w'
/-- A row of the call's own. -/
def GivesOwned (zs : List Idn) (w : World) (e : Ending) (w' : World) : Prop := ∃ v, e = .returned v ∧ Owns w' w.heap.size v zs ∧ Below w.heap.size w w'
theorem GivesOwned.row {zs : List Idn} {w w' : World} {e : Ending} (h : GivesOwned zs w e w') : GivesRow zs w e w' := by obtain ⟨v, e1, o, b⟩ := h; exact ⟨v, e1, o.row, b⟩


/-! ### The document's Sorted -/
end Go.Proofs.YtlkndpofegemdaaGreat.Ids
