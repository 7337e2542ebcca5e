/- What the small functions of layer 3 (ident) and of the document's answer give, for any two numbers. No condition. -/
import Derived.Test.YtomidcbpnaajeaaGreatChecked
import Derived.WalkKit
import Derived.WalkSpells
import Derived.Lib.Hide
import Derived.Lib.SliceRun
import Derived.Laws.StructEq
import Derived.Deep.RegionHeld3
import Derived.Deep.DrawnRows
import Derived.KernelRfl
import Derived.LoopTactic
import Derived.IntWalk
import Derived.Deep.QuietTactic
import Derived.BigQuiet
import Derived.Lib.SmallJoins
import Derived.Sort.Statements
import Derived.WalkSmall
namespace Go.Proofs.YtomidcbpnaajeaaGreat.Ids
open Go.RowKit
set_option linter.unusedVariables false

/-- An id: its two numbers, and its two cells. -/
abbrev Idn := Int × Int
/-- A number that fits into an int. -/
abbrev wfI (n : Int) : Prop := -9223372036854775808 ≤ n ∧ n ≤ 9223372036854775807
def wfId (x : Idn) : Prop := wfI x.1 ∧ wfI x.2
theorem wf_i64 {n : Int} : (Lit.int .i64 n).wf = true ↔ wfI n := by
  simp [Lit.wf, IntKind.min, IntKind.max, IntKind.signed, IntKind.bits]
def ids (x : Idn) : List Value := [.int .i64 x.1, .int .i64 x.2]
def idLt (a b : Idn) : Bool := if a.1 = b.1 then decide (a.2 < b.2) else decide (a.1 < b.1)
def idCmp (a b : Idn) : Int := if a = b then 0 else if idLt a b then -1 else 1
def idRight (x : Idn) : Bool := decide (0 ≤ x.1 ∧ x.1 < 8 ∧ 1 ≤ x.2 ∧ x.2 ≤ 1048576)
def idErr (x : Idn) : Int := if 0 ≤ x.1 ∧ x.1 < 8 then (if 1 ≤ x.2 ∧ x.2 ≤ 1048576 then 0 else 8) else 7

theorem und_id : Tryz.prog.underlying 32 = some (.struct (Tryz.prog.fieldsOf 32)) := by kernel_rfl
theorem equal_id (w : World) (a b c d : Int) : (Op.equalIn 10000 32 (.agg #[.int .i64 a, .int .i64 b]) (.agg #[.int .i64 c, .int .i64 d])).run Tryz.prog w = .ok (a == c && b == d) w := by
  have u3 := Tryz.underlying3
  have a3 := Tryz.isAgg3
  have z3 := Tryz.sizeOf3
  have hS := und_id
  have hp : Tryz.prog.stoodInHeld 32 = false := by kernel_rfl
  rw [show (10000 : Nat) = 9999 + 1 from rfl, run_equalIn_agg w 9999 32 _ _ hS hp]
  simp only [Program.fieldsOf, Tryz.underlying32]
  go_simp
  by_cases h1 : a = c <;> by_cases h2 : b = d <;> simp [h1, h2]
@[go_sem] theorem eql_id (w : World) (a b c d : Int) : (binOp .eql 32 (.agg #[.int .i64 a, .int .i64 b]) (.agg #[.int .i64 c, .int .i64 d])).run Tryz.prog w = .ok (.bool (a == c && b == d)) w := by
  rw [run_eql_struct, equal_id]; rfl
@[go_sem] theorem neq_id (w : World) (a b c d : Int) : (binOp .neq 32 (.agg #[.int .i64 a, .int .i64 b]) (.agg #[.int .i64 c, .int .i64 d])).run Tryz.prog w = .ok (.bool !(a == c && b == d)) w := by
  rw [run_neq_struct, equal_id]; rfl

def cells (a b : Int) : Obj := .cells #[.int .i64 a, .int .i64 b] 32
def two (w : World) (a b c d : Int) : World := (w.alloc (cells a b)).alloc (cells c d)
theorem below_one (w : World) (o : Obj) : Below w.heap.size w (w.alloc o) := (Below.refl _ w).alloc (Nat.le_refl _) _
theorem below_two (w : World) (a b c d : Int) : Below w.heap.size w (two w a b c d) := (below_one _ _).trans ((below_one _ _).mono (by simp))
theorem ret_bool {a b : Bool} (h : a = b) : Ending.returned (.bool a) = .returned (.bool b) := by rw [h]
theorem ret_int {k : IntKind} {a b : Int} (h : a = b) : Ending.returned (.int k a) = .returned (.int k b) := by rw [h]

theorem less_any (a b c d : Int) (w : World) : Calls Tryz.prog 40 #[.agg #[.int .i64 a, .int .i64 b], .agg #[.int .i64 c, .int .i64 d]] w fun e w' => e = .returned (.bool (idLt (a, b) (c, d))) ∧ w' = two w a b c d := by
  go_enter Tryz.func40, Tryz.ntmps40
  go_wp2
  all_goals
    rename_i h
    go_ret
    refine ⟨ret_bool ?_, rfl⟩
    simp at h
    unfold idLt; simp [h]

theorem compare_any (a b c d : Int) (w : World) : Calls Tryz.prog 56 #[.agg #[.int .i64 a, .int .i64 b], .agg #[.int .i64 c, .int .i64 d]] w fun e w' => e = .returned (.int .i64 (idCmp (a, b) (c, d))) ∧ w' = two w a b c d := by
  by_cases h1 : a = c
  · subst h1
    by_cases h2 : b = d
    · subst h2
      go_enter Tryz.func56, Tryz.ntmps56
      go_wp2
      go_ret
      exact ⟨ret_int (by unfold idCmp; simp), rfl⟩
    · have h3 : (b == d) = false := beq_eq_false_iff_ne.2 h2
      by_cases h4 : b < d
      · go_enter Tryz.func56, Tryz.ntmps56
        go_wp2
        go_ret
        exact ⟨ret_int (by unfold idCmp idLt; simp [h2, h4]), rfl⟩
      · go_enter Tryz.func56, Tryz.ntmps56
        go_wp2
        go_ret
        exact ⟨ret_int (by unfold idCmp idLt; simp [h2, h4]), rfl⟩
  · have h3 : (a == c) = false := beq_eq_false_iff_ne.2 h1
    by_cases h4 : a < c
    · go_enter Tryz.func56, Tryz.ntmps56
      go_wp2
      go_ret
      exact ⟨ret_int (by unfold idCmp idLt; simp [h1, h4]), rfl⟩
    · go_enter Tryz.func56, Tryz.ntmps56
      go_wp2
      go_ret
      exact ⟨ret_int (by unfold idCmp idLt; simp [h1, h4]), rfl⟩

theorem check_any (a b : Int) (w : World) : Calls Tryz.prog 80 #[.agg #[.int .i64 a, .int .i64 b]] w fun e w' => e = .returned (.int .i64 (idErr (a, b))) ∧ w' = w.alloc (cells a b) := by
  go_enter Tryz.func80, Tryz.ntmps80
  go_wp2
  all_goals
    go_ret
    refine ⟨ret_int ?_, rfl⟩
    (try simp at *)
    unfold idErr
    simp only []
    repeat' split
    all_goals omega

theorem right_any (a b : Int) (w : World) : Calls Tryz.prog 59 #[.agg #[.int .i64 a, .int .i64 b]] w fun e w' => e = .returned (.bool (idRight (a, b))) ∧ w' = w.alloc (cells a b) := by
  go_enter Tryz.func59, Tryz.ntmps59
  go_wp2
  all_goals
    go_ret
    refine ⟨ret_bool ?_, rfl⟩
    (try simp at *)
    unfold idRight
    (try simp [*])
    (try omega)

theorem right_err (x : Idn) : idRight x = true ↔ idErr x = 0 := by
  unfold idRight idErr
  rw [decide_eq_true_eq]
  repeat' split
  all_goals omega
end Go.Proofs.YtomidcbpnaajeaaGreat.Ids

/- What the loops over a list of ids give (layer 3, ident): whether one is in it, whether it rises, whether two are the same. Condition: the list lies in memory as its cells say (RowAt). -/
namespace Go.Proofs.YtomidcbpnaajeaaGreat.Ids
open Go.RowKit
set_option linter.unusedVariables false

def nth (zs : List Idn) (j : Nat) : Idn := zs.getD j (0, 0)
/-- A slice value that reads as a list of ids. -/
def RowAt (w : World) (v : Value) (zs : List Idn) : Prop :=
  ∃ (p : Option Addr) (cap : Nat), v = .slice p zs.length cap ∧ zs.length ≤ cap ∧ cap ≤ 9223372036854775807 ∧ (p = none → cap = 0) ∧
    (zs ≠ [] → ∃ b off, p = some ⟨b, off, none⟩ ∧ b < w.heap.size ∧ ∀ j, j < zs.length → w.cell? ⟨b, off + j * 2, none⟩ = some (.int .i64 (nth zs j).1) ∧ w.cell? ⟨b, off + j * 2 + 1, none⟩ = some (.int .i64 (nth zs j).2))
theorem RowAt.on {w w' : World} {v : Value} {zs : List Idn} (h : RowAt w v zs) (hb : Below w.heap.size w w') : RowAt w' v zs := by
  obtain ⟨p, cap, rfl, h1, h2, h0, h3⟩ := h
  refine ⟨p, cap, rfl, h1, h2, h0, fun hz => ?_⟩
  obtain ⟨b, off, rfl, hlt, hc⟩ := h3 hz
  exact ⟨b, off, rfl, Nat.lt_of_lt_of_le hlt hb.size, fun j hj => ⟨(hb.cell (p := ⟨b, off + j * 2, none⟩) hlt).trans (hc j hj).1, (hb.cell (p := ⟨b, off + j * 2 + 1, none⟩) hlt).trans (hc j hj).2⟩⟩

/-! ### The document's Has -/
theorem mem_nth {zs : List Idn} {x : Idn} : x ∈ zs ↔ ∃ j, j < zs.length ∧ nth zs j = x := by
  unfold nth
  constructor
  · intro h
    obtain ⟨j, hj, e⟩ := List.getElem_of_mem h
    exact ⟨j, hj, by rw [List.getD_eq_getElem?_getD, List.getElem?_eq_getElem hj]; exact e⟩
  · rintro ⟨j, hj, e⟩
    rw [List.getD_eq_getElem?_getD, List.getElem?_eq_getElem hj] at e
    rw [← e]; exact List.getElem_mem hj

structure Row2 (w : World) (B off : Nat) (zs : List Idn) : Prop where
  lt : B < w.heap.size
  fst : ∀ j, j < zs.length → w.cell? ⟨B, off + j * 2, none⟩ = some (.int .i64 (nth zs j).1)
  snd : ∀ j, j < zs.length → w.cell? ⟨B, off + j * 2 + 1, none⟩ = some (.int .i64 (nth zs j).2)
theorem Row2.on {w w' : World} {B off : Nat} {zs : List Idn} (h : Row2 w B off zs) (hb : Below w.heap.size w w') : Row2 w' B off zs :=
  ⟨Nat.lt_of_lt_of_le h.lt hb.size, fun j hj => (hb.cell (p := ⟨B, off + j * 2, none⟩) h.lt).trans (h.fst j hj), fun j hj => (hb.cell (p := ⟨B, off + j * 2 + 1, none⟩) h.lt).trans (h.snd j hj)⟩
/-- Behind a box of the call's own: what lay there, and what is in the box. -/
structure Boxed (w : World) (a b : Int) (wr : World) : Prop where
  below : Below w.heap.size w wr
  lt : w.heap.size < wr.heap.size
  fst : wr.cell? ⟨w.heap.size, 0, none⟩ = some (.int .i64 a)
  snd : wr.cell? ⟨w.heap.size, 1, none⟩ = some (.int .i64 b)
  fr0 : wr.frozen? ⟨w.heap.size, 0, none⟩ = false
  fr1 : wr.frozen? ⟨w.heap.size, 1, none⟩ = false
theorem box_free (w : World) (a b : Int) (j : Nat) : (w.alloc (cells a b)).frozen? ⟨w.heap.size, j, none⟩ = false := by
  have h : (w.alloc (cells a b)).heap[w.heap.size]? = some (.cells #[.int .i64 a, .int .i64 b] 32 (0, 0)) := heap_alloc_new w _
  unfold World.frozen?
  simp only [h]
  simp
theorem Boxed.start (w : World) (a b : Int) : Boxed w a b (w.alloc (cells a b)) :=
  ⟨below_one _ _, by simp, by unfold cells; rw [World.cell?_alloc_mark]; rfl, by unfold cells; rw [World.cell?_alloc_mark]; rfl, box_free _ _ _ _, box_free _ _ _ _⟩
theorem Boxed.on {w wr w' : World} {a b : Int} (h : Boxed w a b wr) (hb : Below wr.heap.size wr w') : Boxed w a b w' :=
  ⟨h.below.trans (hb.mono h.below.size), Nat.lt_of_lt_of_le h.lt hb.size, (hb.cell (p := ⟨w.heap.size, 0, none⟩) h.lt).trans h.fst, (hb.cell (p := ⟨w.heap.size, 1, none⟩) h.lt).trans h.snd, (hb.frozen (p := ⟨w.heap.size, 0, none⟩) h.lt).trans h.fr0, (hb.frozen (p := ⟨w.heap.size, 1, none⟩) h.lt).trans h.fr1⟩
theorem below_drN {B : Nat} {a w : World} (h : Below B a w) (n : Nat) : Below B a (w.drewN n) := ⟨h.os, h.tape, h.output, h.size, h.block⟩
theorem below_draws (w : World) (n : Nat) : Below w.heap.size w (w.drewN n) := Go.Joins.below_draws _ _ _

set_option maxHeartbeats 1000000 in
theorem refhas_any (v : Value) (zs : List Idn) (a b : Int) (w : World) (h : RowAt w v zs) : Calls Tryz.prog 30 #[v, .agg #[.int .i64 a, .int .i64 b]] w fun e w' => e = .returned (.bool (decide ((a, b) ∈ zs))) ∧ Below w.heap.size w w' := by
  obtain ⟨p, cap, rfl, h1, h2, -, h3⟩ := h
  by_cases hz : zs = []
  · subst hz
    clear h3
    go_enter Tryz.func30, Tryz.ntmps30
    go_wp2
    go_loopw [5] (fun i wr => i = .int .i64 0 ∧ wr = w.alloc (cells a b)) (fun _ _ => 0)
    case atStart => exact ⟨rfl, rfl⟩
    case round =>
      obtain ⟨rfl, rfl⟩ := hrel
      go_wp2
      go_ret
      exact ⟨rfl, below_one _ _⟩
  · obtain ⟨B, off, rfl, hlt, hc⟩ := h3 hz
    have HC : Hid (Row2 w B off zs) := Lib.hid ⟨hlt, fun j hj => (hc j hj).1, fun j hj => (hc j hj).2⟩
    have hlen : zs.length ≤ 9223372036854775807 := by omega
    obtain ⟨n, hn⟩ : ∃ n, n = zs.length := ⟨_, rfl⟩
    rw [← hn] at h1 hlen ⊢
    have HZ := Lib.hid hn
    clear hc hn h3 hz h1 h2 hlt
    have HM := Lib.hid (mem_nth (zs := zs) (x := (a, b)))
    generalize hr : decide ((a, b) ∈ zs) = r
    have HR := Lib.hid hr
    clear hr
    go_enter Tryz.func30, Tryz.ntmps30
    go_wp2
    go_loopw [5] (fun i wr => ∃ k : Nat, k ≤ n ∧ i = .int .i64 k ∧ Hid (Boxed w a b wr) ∧ Hid (∀ j, j < k → nth zs j ≠ (a, b))) (fun i _ => n - (intOf i).toNat)
    case atStart => exact ⟨0, Nat.zero_le _, rfl, Lib.hid (Boxed.start _ _ _), Lib.hid fun j hj => absurd hj (Nat.not_lt_zero _)⟩
    case round =>
      obtain ⟨k, hk, rfl, hbw, hno⟩ := hrel
      by_cases hkn : k < n
      · have hrow := HC.out.on hbw.out.below
        have c1 := hrow.fst k (by rw [← HZ.out]; exact hkn)
        have c2 := hrow.snd k (by rw [← HZ.out]; exact hkn)
        have c3 := hbw.out.fst
        have c4 := hbw.out.snd
        have k0 : (0 : Int) ≤ k := by omega
        have kn : (k : Int) < n := by omega
        obtain ⟨x, y, hxy⟩ : ∃ x y, nth zs k = (x, y) := ⟨_, _, rfl⟩
        rw [hxy] at c1 c2
        by_cases he : (x, y) = (a, b)
        · have h1 : x = a := congrArg Prod.fst he
          have h2 : y = b := congrArg Prod.snd he
          subst h1; subst h2
          have HX := Lib.hid hxy
          clear hrow hno he hxy
          go_wp2
          go_quiet (fail)
          go_wp2
          go_ret
          refine ⟨ret_bool ?_, hbw.out.below.trans ((below_draws _ _).mono hbw.out.below.size)⟩
          rw [← HR.out]
          exact (decide_eq_true (HM.out.2 ⟨k, by rw [← HZ.out]; exact hkn, HX.out⟩)).symm
        · have h3 : (x == a && y == b) = false := by
            rw [Bool.eq_false_iff]; intro h; rw [Bool.and_eq_true, beq_iff_eq, beq_iff_eq] at h; exact he (by rw [h.1, h.2])
          have HX : Hid (nth zs k ≠ (a, b)) := Lib.hid (by rw [hxy]; exact he)
          have hq : ∀ w, (binOp .eql 32 (.agg #[.int .i64 x, .int .i64 y]) (.agg #[.int .i64 a, .int .i64 b])).run Tryz.prog w = .ok (.bool false) w := fun w => by rw [eql_id, h3]
          clear hrow he hxy h3
          go_wp2
          go_quiet (fail)
          go_wp2
          go_roundw
          case rel => exact ⟨k + 1, by omega, by go_num, Lib.hid (hbw.out.on (below_draws _ _)), Lib.hid fun j hj => by
            by_cases e : j = k
            · rw [e]; exact HX.out
            · exact hno.out j (by omega)⟩
          case measure => simp [intOf]; omega
      · have kn : ¬ (k : Int) < n := by omega
        go_wp2
        go_ret
        refine ⟨ret_bool ?_, hbw.out.below⟩
        rw [← HR.out]
        refine (decide_eq_false fun h => ?_).symm
        obtain ⟨j, hj, e⟩ := HM.out.1 h
        exact hno.out j (by rw [← HZ.out] at hj; omega) e

/-! ### Rising -/
theorem below_drew_two (w : World) (a b c d : Int) : Below w.heap.size w (two w.drew a b c d) := (Below.refl _ w).drew.trans (below_two w.drew a b c d)
/-- Two cells side by side, twice. -/
theorem Row2.pair {w w' : World} {B off : Nat} {zs : List Idn} (h : Row2 w B off zs) (hb : Below w.heap.size w w') {j k : Nat} {x y x' y' : Int} (hj : j < zs.length) (hk : k < zs.length) (e : nth zs j = (x, y)) (e' : nth zs k = (x', y')) :
    w'.cell? ⟨B, off + j * 2, none⟩ = some (.int .i64 x) ∧ w'.cell? ⟨B, off + j * 2 + 1, none⟩ = some (.int .i64 y) ∧ w'.cell? ⟨B, off + k * 2, none⟩ = some (.int .i64 x') ∧ w'.cell? ⟨B, off + k * 2 + 1, none⟩ = some (.int .i64 y') := by
  have h2 := h.on hb
  have a := h2.fst j hj; have b := h2.snd j hj; have c := h2.fst k hk; have d := h2.snd k hk
  rw [e] at a b; rw [e'] at c d
  exact ⟨a, b, c, d⟩
def rises (zs : List Idn) : Bool := (List.range (zs.length - 1)).all fun j => idLt (nth zs j) (nth zs (j + 1))
theorem rises_iff {zs : List Idn} : rises zs = true ↔ ∀ j, j + 1 < zs.length → idLt (nth zs j) (nth zs (j + 1)) = true := by
  unfold rises
  rw [List.all_eq_true]
  constructor
  · intro h j hj; exact h j (List.mem_range.2 (by omega))
  · intro h j hj; exact h j (by have := List.mem_range.1 hj; omega)
theorem cmp_lt (a b : Idn) : idCmp a b = if idLt a b then -1 else if a = b then 0 else 1 := by
  unfold idCmp
  by_cases h : a = b
  · subst h; unfold idLt; simp
  · simp [h]



/-! ### Same -/
theorem eq_nth {zs ys : List Idn} : zs = ys ↔ zs.length = ys.length ∧ ∀ j, j < zs.length → nth zs j = nth ys j := by
  constructor
  · rintro rfl; exact ⟨rfl, fun _ _ => rfl⟩
  · rintro ⟨h1, h2⟩
    refine List.ext_getElem h1 fun j h3 h4 => ?_
    have := h2 j h3
    unfold nth at this
    rwa [List.getD_eq_getElem?_getD, List.getElem?_eq_getElem h3, List.getD_eq_getElem?_getD, List.getElem?_eq_getElem h4] at this

set_option maxHeartbeats 1000000 in
theorem same_any (v u : Value) (zs ys : List Idn) (w : World) (h : RowAt w v zs) (g : RowAt w u ys) : Calls Tryz.prog 37 #[v, u] w fun e w' => e = .returned (.bool (decide (zs = ys))) ∧ Below w.heap.size w w' := by
  obtain ⟨p, cap, rfl, h1, h2, -, h3⟩ := h
  obtain ⟨q, caq, rfl, g1, g2, -, g3⟩ := g
  by_cases hl : zs.length = ys.length
  · by_cases hz : zs = []
    · subst hz
      have hy : ys = [] := List.eq_nil_of_length_eq_zero hl.symm
      subst hy
      clear h3 g3 hl
      go_enter Tryz.func37, Tryz.ntmps37
      go_wp2
      go_loopw [5] (fun i wr => i = .int .i64 0 ∧ wr = w) (fun _ _ => 0)
      case atStart => exact ⟨rfl, rfl⟩
      case round =>
        obtain ⟨rfl, rfl⟩ := hrel
        go_wp2
        go_ret
        exact ⟨rfl, Below.refl _ _⟩
    · have hy : ys ≠ [] := fun e => by rw [e] at hl; exact hz (List.eq_nil_of_length_eq_zero hl)
      obtain ⟨B, off, rfl, hlt, hc⟩ := h3 hz
      obtain ⟨C, og, rfl, glt, gc⟩ := g3 hy
      have HC : Hid (Row2 w B off zs) := Lib.hid ⟨hlt, fun j hj => (hc j hj).1, fun j hj => (hc j hj).2⟩
      have HD : Hid (Row2 w C og ys) := Lib.hid ⟨glt, fun j hj => (gc j hj).1, fun j hj => (gc j hj).2⟩
      have hlen : zs.length ≤ 9223372036854775807 := by omega
      have hpos : 0 < zs.length := List.length_pos_iff.2 hz
      obtain ⟨n, hn⟩ : ∃ n, n = zs.length := ⟨_, rfl⟩
      have hm : n = ys.length := by omega
      rw [← hm] at g1 ⊢
      rw [← hn] at h1 hlen hpos ⊢
      have HZ := Lib.hid hn
      have HY := Lib.hid hm
      have HM := Lib.hid (eq_nth (zs := zs) (ys := ys))
      generalize hr : decide (zs = ys) = r
      have HR := Lib.hid hr
      clear hr hc hn h3 hz h1 h2 hlt gc hm g3 hy g1 g2 glt hl
      go_enter Tryz.func37, Tryz.ntmps37
      go_wp2
      go_loopw [5] (fun i wr => ∃ k : Nat, k ≤ n ∧ i = .int .i64 k ∧ Hid (Below w.heap.size w wr) ∧ Hid (∀ j, j < k → nth zs j = nth ys j)) (fun i _ => n - (intOf i).toNat)
      case atStart => exact ⟨0, Nat.zero_le _, rfl, Lib.hid (Below.refl _ _), Lib.hid fun j hj => absurd hj (Nat.not_lt_zero _)⟩
      case round =>
        obtain ⟨k, hk, rfl, hbw, hno⟩ := hrel
        by_cases hkn : k < n
        · have hrow := HC.out.on hbw.out
          have grow := HD.out.on hbw.out
          have c1 := hrow.fst k (by rw [← HZ.out]; omega)
          have c2 := hrow.snd k (by rw [← HZ.out]; omega)
          have c3 := grow.fst k (by rw [← HY.out]; omega)
          have c4 := grow.snd k (by rw [← HY.out]; omega)
          have k0 : (0 : Int) ≤ k := by omega
          have kn : (k : Int) < n := by omega
          obtain ⟨x, y, hxy⟩ : ∃ x y, nth zs k = (x, y) := ⟨_, _, rfl⟩
          obtain ⟨x', y', hxy'⟩ : ∃ x y, nth ys k = (x, y) := ⟨_, _, rfl⟩
          rw [hxy] at c1 c2
          rw [hxy'] at c3 c4
          by_cases he : (x, y) = (x', y')
          · have h3 : (x == x' && y == y') = true := by
              rw [Prod.mk.injEq] at he; rw [he.1, he.2]; simp
            have HX : Hid (nth zs k = nth ys k) := Lib.hid (by rw [hxy, hxy']; exact he)
            have hq : ∀ w, (binOp .neq 32 (.agg #[.int .i64 x, .int .i64 y]) (.agg #[.int .i64 x', .int .i64 y'])).run Tryz.prog w = .ok (.bool false) w := fun w => by rw [neq_id, h3]; rfl
            clear hrow grow he hxy hxy' h3
            go_wp2
            go_quiet (fail)
            go_wp2
            go_roundw
            case rel => exact ⟨k + 1, by omega, by go_num, Lib.hid (hbw.out.trans ((below_draws _ _).mono hbw.out.size)), Lib.hid fun j hj => by
              by_cases e : j = k
              · rw [e]; exact HX.out
              · exact hno.out j (by omega)⟩
            case measure => simp [intOf]; omega
          · have h3 : (x == x' && y == y') = false := by
              rw [Bool.eq_false_iff]; intro h; rw [Bool.and_eq_true, beq_iff_eq, beq_iff_eq] at h; exact he (by rw [h.1, h.2])
            have HX : Hid (nth zs k ≠ nth ys k) := Lib.hid (by rw [hxy, hxy']; exact he)
            have hq : ∀ w, (binOp .neq 32 (.agg #[.int .i64 x, .int .i64 y]) (.agg #[.int .i64 x', .int .i64 y'])).run Tryz.prog w = .ok (.bool true) w := fun w => by rw [neq_id, h3]; rfl
            clear hrow grow he hxy hxy' h3
            go_wp2
            go_quiet (fail)
            go_wp2
            go_ret
            refine ⟨ret_bool ?_, hbw.out.trans ((below_draws _ _).mono hbw.out.size)⟩
            rw [← HR.out]
            exact (decide_eq_false fun h => HX.out ((HM.out.1 h).2 k (by rw [← HZ.out]; exact hkn))).symm
        · have kn : ¬ (k : Int) < n := by omega
          go_wp2
          go_ret
          refine ⟨ret_bool ?_, hbw.out⟩
          rw [← HR.out]
          exact (decide_eq_true (HM.out.2 ⟨by rw [← HZ.out, ← HY.out], fun j hj => hno.out j (by rw [← HZ.out] at hj; omega)⟩)).symm
  · have hne : ¬ zs = ys := fun e => hl (by rw [e])
    have hn : ((zs.length : Int) == (ys.length : Int)) = false := by rw [beq_eq_false_iff_ne]; omega
    obtain ⟨n, e1⟩ : ∃ n, zs.length = n := ⟨_, rfl⟩
    obtain ⟨m, e2⟩ : ∃ n, ys.length = n := ⟨_, rfl⟩
    rw [decide_eq_false hne]
    rw [e1, e2] at hn hl ⊢
    have hl' : ¬ (n : Int) = (m : Int) := by omega
    clear h3 g3 hne h1 h2 g1 g2 e1 e2
    go_enter Tryz.func37, Tryz.ntmps37
    go_wp2
    go_ret
    exact ⟨rfl, Below.refl _ _⟩
end Go.Proofs.YtomidcbpnaajeaaGreat.Ids

/- Plain facts on lists of ids: the order is strict and total; one more put in; two rising lists with the same ids are the same; one of each run of the same. No condition but those in each statement. -/
namespace Go.Proofs.YtomidcbpnaajeaaGreat.Ids
set_option linter.unusedVariables false

theorem lt_irr (x : Idn) : idLt x x = false := by unfold idLt; simp
theorem lt_tr {x y z : Idn} (h : idLt x y = true) (k : idLt y z = true) : idLt x z = true := by
  unfold idLt at *
  split at h <;> split at k <;> split <;> simp only [decide_eq_true_eq] at * <;> omega
theorem lt_tot {x y : Idn} (h : idLt x y = false) (k : idLt y x = false) : x = y := by
  unfold idLt at *
  have : x.1 = y.1 ∧ x.2 = y.2 := by
    split at h <;> split at k <;> simp only [decide_eq_false_iff_not] at * <;> omega
  exact Prod.ext this.1 this.2
theorem lt_as {x y : Idn} (h : idLt x y = true) : idLt y x = false := by
  cases hk : idLt y x with
  | false => rfl
  | true => have := lt_tr h hk; rw [lt_irr] at this; cases this
abbrev Rise (l : List Idn) : Prop := l.Pairwise fun x y => idLt x y = true

theorem nth_bang (zs : List Idn) (j : Nat) : zs[j]! = nth zs j := by
  unfold nth
  rw [List.getElem!_eq_getElem?_getD, List.getD_eq_getElem?_getD]; rfl
theorem nth_cons_zero (x : Idn) (l : List Idn) : nth (x :: l) 0 = x := rfl
theorem nth_cons_succ (x : Idn) (l : List Idn) (j : Nat) : nth (x :: l) (j + 1) = nth l j := by unfold nth; simp
theorem rises_rise : ∀ {zs : List Idn}, rises zs = true ↔ Rise zs
  | [] => ⟨fun _ => .nil, fun _ => rfl⟩
  | [x] => ⟨fun _ => by simp [Rise], fun _ => rfl⟩
  | x :: y :: l => by
    have ih := rises_rise (zs := y :: l)
    rw [rises_iff] at ih ⊢
    constructor
    · intro h
      have h1 := ih.1 fun j hj => by
        have := h (j + 1) (by simp at hj ⊢; omega)
        rwa [nth_cons_succ, nth_cons_succ] at this
      refine List.Pairwise.cons (fun z hz => ?_) h1
      have h2 : idLt x y = true := h 0 (by simp)
      rcases List.mem_cons.1 hz with rfl | hz
      · exact h2
      · exact lt_tr h2 ((List.pairwise_cons.1 h1).1 z hz)
    · intro h j hj
      obtain ⟨h1, h2⟩ := List.pairwise_cons.1 h
      match j with
      | 0 => exact h1 y (by simp)
      | j + 1 =>
        rw [nth_cons_succ, nth_cons_succ]
        exact ih.2 h2 j (by simp at hj ⊢; omega)

theorem rise_eq : ∀ {a b : List Idn}, Rise a → Rise b → (∀ x, x ∈ a ↔ x ∈ b) → a = b
  | [], [], _, _, _ => rfl
  | [], y :: b, _, _, h => by have := (h y).2 (by simp); cases this
  | x :: a, [], _, _, h => by have := (h x).1 (by simp); cases this
  | x :: a, y :: b, ha, hb, h => by
    obtain ⟨a1, a2⟩ := List.pairwise_cons.1 ha
    obtain ⟨b1, b2⟩ := List.pairwise_cons.1 hb
    have e : x = y := by
      rcases List.mem_cons.1 ((h x).1 (by simp)) with e | hx
      · exact e
      · rcases List.mem_cons.1 ((h y).2 (by simp)) with e | hy
        · exact e.symm
        · have := lt_tr (a1 y hy) (b1 x hx)
          rw [lt_irr] at this; cases this
    subst e
    have ht : a = b := rise_eq a2 b2 fun z => by
      have hz := h z
      rw [List.mem_cons, List.mem_cons] at hz
      constructor
      · intro hm
        rcases hz.1 (.inr hm) with rfl | h2
        · have := a1 z hm; rw [lt_irr] at this; cases this
        · exact h2
      · intro hm
        rcases hz.2 (.inr hm) with rfl | h2
        · have := b1 z hm; rw [lt_irr] at this; cases this
        · exact h2
    rw [ht]

/-! ### One more -/
def ins (x : Idn) : List Idn → List Idn
  | [] => [x]
  | y :: t => if idLt x y then x :: y :: t else y :: ins x t
def put (l : List Idn) (x : Idn) : List Idn := if x ∈ l then l else ins x l
def srt (l : List Idn) : List Idn := l.foldl put []
theorem ins_mem (x z : Idn) : ∀ l, z ∈ ins x l ↔ z = x ∨ z ∈ l
  | [] => by simp [ins]
  | y :: t => by
    unfold ins
    split
    · simp
    · rw [List.mem_cons, ins_mem x z t, List.mem_cons]
      constructor
      · rintro (h | h | h) <;> simp [h]
      · rintro (h | h | h) <;> simp [h]
theorem ins_length (x : Idn) : ∀ l, (ins x l).length = l.length + 1
  | [] => rfl
  | y :: t => by
    unfold ins
    split
    · rfl
    · rw [List.length_cons, ins_length x t]; rfl
theorem ins_rise {x : Idn} : ∀ {l}, Rise l → x ∉ l → Rise (ins x l)
  | [], _, _ => by simp [ins, Rise]
  | y :: t, h, hx => by
    obtain ⟨h1, h2⟩ := List.pairwise_cons.1 h
    unfold ins
    split
    · rename_i hl
      refine List.Pairwise.cons (fun z hz => ?_) h
      rcases List.mem_cons.1 hz with rfl | hz
      · exact hl
      · exact lt_tr hl (h1 z hz)
    · rename_i hl
      refine List.Pairwise.cons (fun z hz => ?_) (ins_rise h2 fun hm => hx (List.mem_cons_of_mem _ hm))
      rcases (ins_mem x z t).1 hz with rfl | hz
      · cases hk : idLt y z with
        | true => rfl
        | false => exact absurd (lt_tot (by simpa using hl) hk) fun e => hx (by rw [e]; simp)
      · exact h1 z hz
theorem put_mem (l : List Idn) (x z : Idn) : z ∈ put l x ↔ z = x ∨ z ∈ l := by
  unfold put
  split
  · rename_i h
    exact ⟨.inr, fun hz => hz.elim (fun e => e ▸ h) id⟩
  · exact ins_mem x z l
theorem put_rise {l : List Idn} {x : Idn} (h : Rise l) : Rise (put l x) := by
  unfold put
  split
  · exact h
  · rename_i hx; exact ins_rise h hx
theorem put_length (l : List Idn) (x : Idn) : (put l x).length ≤ l.length + 1 := by
  unfold put
  split
  · omega
  · rw [ins_length]; exact Nat.le_refl _
theorem fold_put : ∀ (l a : List Idn), Rise a → Rise (l.foldl put a) ∧ ∀ z, z ∈ l.foldl put a ↔ z ∈ a ∨ z ∈ l
  | [], a, h => ⟨h, fun z => by simp⟩
  | x :: l, a, h => by
    obtain ⟨h1, h2⟩ := fold_put l (put a x) (put_rise h)
    refine ⟨h1, fun z => ?_⟩
    rw [List.foldl_cons, h2, put_mem, List.mem_cons]
    constructor
    · rintro ((h | h) | h) <;> simp [h]
    · rintro (h | h | h) <;> simp [h]
theorem srt_rise (l : List Idn) : Rise (srt l) := (fold_put l [] .nil).1
theorem srt_mem (l : List Idn) (z : Idn) : z ∈ srt l ↔ z ∈ l := by
  have := (fold_put l [] .nil).2 z
  unfold srt; simpa using this
theorem srt_take (l : List Idn) (k : Nat) (h : k < l.length) : srt (l.take (k + 1)) = put (srt (l.take k)) (nth l k) := by
  unfold srt nth
  rw [List.take_succ_eq_append_getElem h, List.foldl_append, List.getD_eq_getElem?_getD, List.getElem?_eq_getElem h]
  rfl
theorem srt_length (l : List Idn) : (srt l).length ≤ l.length := by
  have : ∀ (l a : List Idn), (l.foldl put a).length ≤ a.length + l.length := by
    intro l
    induction l with
    | nil => intro a; simp
    | cons x l ih =>
      intro a
      rw [List.foldl_cons]
      have := ih (put a x)
      have := put_length a x
      simp only [List.length_cons]; omega
  have := this l []
  unfold srt; simpa using this

/-! ### One of each run -/
/-- What is left of a list whose first element was kept: those that differ from the one ahead. -/
def cpt : List Idn → List Idn
  | [] => []
  | [x] => [x]
  | x :: y :: t => if x = y then cpt (y :: t) else x :: cpt (y :: t)
theorem cpt_mem (z : Idn) : ∀ l, z ∈ cpt l ↔ z ∈ l
  | [] => Iff.rfl
  | [x] => Iff.rfl
  | x :: y :: t => by
    have ih := cpt_mem z (y :: t)
    unfold cpt
    split
    · rename_i e
      subst e
      rw [ih]
      simp
    · rw [List.mem_cons, ih, List.mem_cons, List.mem_cons, List.mem_cons]
/-- Not falling. -/
abbrev Flat (l : List Idn) : Prop := l.Pairwise fun x y => idLt y x = false
theorem cpt_rise : ∀ {l}, Flat l → Rise (cpt l)
  | [], _ => .nil
  | [x], _ => by simp [cpt, Rise]
  | x :: y :: t, h => by
    obtain ⟨h1, h2⟩ := List.pairwise_cons.1 h
    have ih := cpt_rise h2
    unfold cpt
    split
    · exact ih
    · rename_i e
      refine List.Pairwise.cons (fun z hz => ?_) ih
      have hz := (cpt_mem z _).1 hz
      have hy : idLt x y = true := by
        cases hk : idLt x y with
        | true => rfl
        | false => exact absurd (lt_tot hk (h1 y (by simp))) e
      rcases List.mem_cons.1 hz with rfl | hz
      · exact hy
      · have h3 := (List.pairwise_cons.1 h2).1 z hz
        cases hk : idLt x z with
        | true => rfl
        | false =>
          have e2 := lt_tot hk (h1 z (by simp [hz]))
          subst e2
          rw [hy] at h3; cases h3
theorem cpt_srt {l s : List Idn} (h : Flat s) (hm : ∀ z, z ∈ s ↔ z ∈ l) : cpt s = srt l :=
  rise_eq (cpt_rise h) (srt_rise l) fun z => by rw [cpt_mem, srt_mem, hm]
end Go.Proofs.YtomidcbpnaajeaaGreat.Ids

/- What the document's Put and Sorted give (layer 3, ident): the list with one more id in its place; the list in order, each id once. Conditions: the list lies in memory as its cells say, and is not longer than 100000. -/
namespace Go.Proofs.YtomidcbpnaajeaaGreat.Ids
open Go.RowKit
set_option linter.unusedVariables false

/-! ### Rows of the call's own -/
def flat (zs : List Idn) : List Value := zs.flatMap ids
theorem flat_len : ∀ zs : List Idn, (flat zs).length = zs.length * 2
  | [] => rfl
  | x :: t => by
    have := flat_len t
    unfold flat at *
    rw [List.flatMap_cons, List.length_append, this, List.length_cons]
    show 2 + _ = _
    omega
theorem flat_app (a b : List Idn) : flat (a ++ b) = flat a ++ flat b := by unfold flat; rw [List.flatMap_append]
theorem flat_at : ∀ (zs : List Idn) (j : Nat), j < zs.length → (flat zs)[j * 2]? = some (.int .i64 (nth zs j).1) ∧ (flat zs)[j * 2 + 1]? = some (.int .i64 (nth zs j).2)
  | x :: t, 0, _ => ⟨rfl, rfl⟩
  | x :: t, j + 1, h => by
    have ih := flat_at t j (by simpa using h)
    have e : flat (x :: t) = .int .i64 x.1 :: .int .i64 x.2 :: flat t := rfl
    rw [e, nth_cons_succ, show (j + 1) * 2 = j * 2 + 2 by omega, show j * 2 + 2 + 1 = j * 2 + 1 + 2 by omega]
    exact ih
abbrev Owns (w : World) (base : Nat) (v : Value) (zs : List Idn) : Prop := w.ownsRow base 32 2 v zs.length (flat zs)
theorem add_lit (g j : Nat) : ((⟨g, 0, none⟩ : Addr).add j) = ⟨g, j, none⟩ := by unfold Addr.add; split <;> simp_all
theorem Owns.row {w : World} {base : Nat} {v : Value} {zs : List Idn} (h : Owns w base v zs) : RowAt w v zs := by
  have hc := fun g hg => World.ownsRow.cells h (g := g) hg
  have hlt := World.ownsRow.lt h
  rcases h.2 with ⟨rfl, h0⟩ | ⟨g, cap, cur, rfl, hb, hg, hn, hm, -, -⟩
  · have e : zs = [] := List.eq_nil_of_length_eq_zero h0
    subst e
    exact ⟨none, 0, rfl, Nat.le_refl _, by omega, fun _ => rfl, fun h => absurd rfl h⟩
  · refine ⟨some ⟨g, 0, none⟩, cap, rfl, hn, by unfold maxLen at hm; omega, (fun h => by cases h), fun _ => ⟨g, 0, rfl, (hlt g rfl).2, fun j hj => ?_⟩⟩
    have h1 := flat_at zs j hj
    have e1 := hc g rfl _ _ h1.1
    have e2 := hc g rfl _ _ h1.2
    rw [add_lit] at e1 e2
    rw [Nat.zero_add]
    exact ⟨e1, e2⟩
theorem Owns.snoc {w : World} {base : Nat} {v : Value} {zs : List Idn} {x y : Int} (h : w.ownsRow base 32 2 v (zs.length + 1) (flat zs ++ [.int .i64 x, .int .i64 y])) : Owns w base v (zs ++ [(x, y)]) := by
  have e : flat zs ++ [.int .i64 x, .int .i64 y] = flat (zs ++ [(x, y)]) := by rw [flat_app]; rfl
  unfold Owns
  rw [← e, List.length_append]; exact h

/-- What lies under the box of a call, and the box. -/
theorem Boxed.of {w wr : World} {a b : Int} (h : Below (w.heap.size + 1) (w.alloc (cells a b)) wr) : Boxed w a b wr := by
  have h0 := Boxed.start w a b
  refine h0.on (h.mono ?_)
  simp
theorem put_far {w wr w1 : World} {a b : Int} {v : Value} {zs : List Idn} (h : Below (w.heap.size + 1) (w.alloc (cells a b)) wr) (hown : Owns wr (w.heap.size + 1) v zs) (o : Obj) (hg : (wr.alloc o).grownBy w1 v.ownBlock) : Below (w.heap.size + 1) (w.alloc (cells a b)) w1 := by
  have hs : w.heap.size + 1 ≤ wr.heap.size := by have := h.size; simpa using this
  exact Below.grown (h.alloc hs _) hg (by simp; omega) (fun k hk => (World.ownsRow.lt hown k hk).1)

theorem info_id : (Tryz.prog.info? 32).map (fun i => (i.zero, i.size, i.bytes)) = some (some (.agg #[.int .i64 0, .int .i64 0]), 2, 16) := by kernel_rfl
/-- The invariant of Put's loop. -/
def PutAt (x : Idn) (zs out : List Idn) (k : Nat) (d : Bool) : Prop := ins x zs = out ++ (if d then zs.drop k else ins x (zs.drop k)) ∧ out.length = k + d.toNat
theorem PutAt.start (x : Idn) (zs : List Idn) : PutAt x zs [] 0 false := ⟨rfl, rfl⟩
theorem drop_nth {zs : List Idn} {k : Nat} (h : k < zs.length) : zs.drop k = nth zs k :: zs.drop (k + 1) := by
  unfold nth
  rw [List.drop_eq_getElem_cons h, List.getD_eq_getElem?_getD, List.getElem?_eq_getElem h]; rfl
theorem PutAt.past {x : Idn} {zs out : List Idn} {k : Nat} (h : PutAt x zs out k true) (hk : k < zs.length) : PutAt x zs (out ++ [nth zs k]) (k + 1) true := by
  refine ⟨?_, by rw [List.length_append, h.2]; show k + 1 + 1 = k + 1 + 1; rfl⟩
  rw [h.1, if_pos rfl, if_pos rfl, drop_nth hk]; simp
theorem PutAt.go {x : Idn} {zs out : List Idn} {k : Nat} (h : PutAt x zs out k false) (hk : k < zs.length) (hx : idLt x (nth zs k) = false) : PutAt x zs (out ++ [nth zs k]) (k + 1) false := by
  refine ⟨?_, by rw [List.length_append, h.2]; simp⟩
  rw [h.1, drop_nth hk]
  simp [ins, hx]
theorem PutAt.hit {x : Idn} {zs out : List Idn} {k : Nat} (h : PutAt x zs out k false) (hk : k < zs.length) (hx : idLt x (nth zs k) = true) : PutAt x zs (out ++ [x] ++ [nth zs k]) (k + 1) true := by
  refine ⟨?_, by rw [List.length_append, List.length_append, h.2]; simp⟩
  rw [h.1, drop_nth hk]
  simp [ins, hx]
theorem PutAt.endT {x : Idn} {zs out : List Idn} (h : PutAt x zs out zs.length true) : ins x zs = out := by
  have := h.1
  simpa using this
theorem PutAt.endF {x : Idn} {zs out : List Idn} (h : PutAt x zs out zs.length false) : ins x zs = out ++ [x] := by
  have := h.1
  simpa [ins] using this

/-- A row in new memory. -/
def GivesNew (zs : List Idn) (w : World) (e : Ending) (w' : World) : Prop := ∃ v, e = .returned v ∧ RowAt w' v zs ∧ Below w.heap.size w w' ∧ ∀ k, v.ownBlock = some k → w.heap.size ≤ k
def GivesRow (zs : List Idn) (w : World) (e : Ending) (w' : World) : Prop := ∃ v, e = .returned v ∧ RowAt w' v zs ∧ Below w.heap.size w w'
/-- A row of the call's own. -/
def GivesOwned (zs : List Idn) (w : World) (e : Ending) (w' : World) : Prop := ∃ v, e = .returned v ∧ Owns w' w.heap.size v zs ∧ Below w.heap.size w w'
theorem GivesOwned.row {zs : List Idn} {w w' : World} {e : Ending} (h : GivesOwned zs w e w') : GivesRow zs w e w' := by obtain ⟨v, e1, o, b⟩ := h; exact ⟨v, e1, o.row, b⟩

set_option maxHeartbeats 4000000 in
set_option maxRecDepth 100000 in
theorem put_new (v : Value) (zs : List Idn) (a b : Int) (w : World) (h : RowAt w v zs) (hl : zs.length ≤ 100000) (hm : (a, b) ∉ zs) : Calls Tryz.prog 36 #[v, .agg #[.int .i64 a, .int .i64 b]] w (GivesNew (put zs (a, b)) w) := by
  have HH : Hid (∀ W, Below w.heap.size w W → Calls Tryz.prog 30 #[v, .agg #[.int .i64 a, .int .i64 b]] W fun e w' => e = .returned (.bool (decide ((a, b) ∈ zs))) ∧ Below W.heap.size W w') := Lib.hid fun W hW => refhas_any v zs a b W (h.on hW)
  have H0 := Lib.hid h
  have hp : put zs (a, b) = ins (a, b) zs := by unfold put; rw [if_neg hm]
  rw [hp]
  rw [decide_eq_false hm] at HH
  clear hp hm
  obtain ⟨i0, hi, hz0, hz1, hz2⟩ := info_parts info_id
  obtain ⟨p, cap, rfl, h1, h2, -, h3⟩ := h
  obtain ⟨n, hn⟩ : ∃ n, n = zs.length := ⟨_, rfl⟩
  have HZ := Lib.hid hn
  rw [← hn] at h1 hl HH H0 h3 ⊢
  have hd : n = 0 ∨ ∃ B off, p = some ⟨B, off, none⟩ ∧ Hid (Row2 w B off zs) := by
    by_cases hz : zs = []
    · left; rw [hn, hz]; rfl
    · right
      obtain ⟨B, off, rfl, hlt, hc⟩ := h3 hz
      rw [hn] at hc
      exact ⟨B, off, rfl, Lib.hid ⟨hlt, fun j hj => (hc j hj).1, fun j hj => (hc j hj).2⟩⟩
  clear h3 hn H0
  go_enter Tryz.func36, Tryz.ntmps36
  go_wp2_with (first
    | (go_at_call 30; ((with_reducible refine (HH.out _ (below_one _ _)).mono ?_); rintro e w1 ⟨rfl, hb⟩; have HB := Lib.hid hb; clear hb)))
  go_loopw [5, 6, 7] (fun o d i wr => ∃ (k : Nat) (dn : Bool) (out : List Idn), k ≤ n ∧ out.length ≤ k + 1 ∧ i = .int .i64 k ∧ d = .bool dn ∧ Hid (Below (w.heap.size + 1) (w.alloc (cells a b)) wr) ∧ Hid (Owns wr (w.heap.size + 1) o out) ∧ Hid (PutAt (a, b) zs out k dn)) (fun _ _ i _ => n - (intOf i).toNat)
  case atStart =>
    have hb : Below (w.heap.size + 1) (w.alloc (cells a b)) w1 := HB.out.mono (by simp)
    have hs : w.heap.size + 1 ≤ w1.heap.size := by have := hb.size; simpa using this
    exact ⟨0, false, [], Nat.zero_le _, Nat.zero_le _, rfl, rfl, Lib.hid (hb.alloc hs _), Lib.hid (World.ownsRow_made w1 #[] 0 hs (by decide) rfl), Lib.hid (PutAt.start _ _)⟩
  case round =>
    obtain ⟨k, dn, out, hk, ho, rfl, rfl, hbw, hown, hput⟩ := hrel
    have hs : w.heap.size + 1 ≤ wr.heap.size := by have := hbw.out.size; simpa using this
    have hbx := Boxed.of hbw.out
    have c3 := hbx.fst
    have c4 := hbx.snd
    by_cases hkn : k < n
    · obtain ⟨B, off, rfl, HC⟩ : ∃ B off, p = some ⟨B, off, none⟩ ∧ Hid (Row2 w B off zs) := hd.resolve_left (by omega)
      have hrow := HC.out.on hbx.below
      have c1 := hrow.fst k (by rw [← HZ.out]; exact hkn)
      have c2 := hrow.snd k (by rw [← HZ.out]; exact hkn)
      have k0 : (0 : Int) ≤ k := by omega
      have kn : (k : Int) < n := by omega
      obtain ⟨x, y, hxy⟩ : ∃ x y, nth zs k = (x, y) := ⟨_, _, rfl⟩
      rw [hxy] at c1 c2
      have HX := Lib.hid hxy
      have HR := Lib.hid hrow
      have hbx' := hbx
      clear hrow hbx hd hxy HH
      cases dn with
      | true =>
        have ho2 := hput.out.2
        have HP := Lib.hid (hput.out.past (by rw [← HZ.out]; exact hkn))
        rw [HX.out] at HP
        go_wp2
        go_quiet (fail)
        have hoD : Hid (Owns (wr.drewN nq) (w.heap.size + 1) u5 out) := Lib.hid hown.out
        have hbD := Lib.hid (below_drN hbw.out nq)
        go_wp2_with (first
          | (at_builtin; refine wpList_append_own _ rfl _ _ 23 rfl (w.heap.size + 1) 32 i0 (.agg #[.int .i64 0, .int .i64 0]) 2 16 Tryz.underlying23 hi hz0 hz1 hz2 rfl (by decide) _ _ _ rfl (World.ownsRow.alloc hoD.out _) ⟨wr.heap.size, 0, none⟩ 1 1 [.int .i64 x, .int .i64 y] rfl rfl (cell_two_new _ _ _ _) (fun u hu => by simp at hu; rcases hu with rfl | rfl <;> rfl) (by unfold maxLen; omega) (by omega) (by simp; omega) ?_; intro v1 w3 hown1 hgrow1 hnil1; have X1 := Lib.hid (And.intro (Owns.snoc hown1) (put_far hbD.out hoD.out _ hgrow1)); clear hown1 hgrow1 hnil1))
        go_roundw
        case rel => exact ⟨k + 1, true, out ++ [(x, y)], by omega, by simp; omega, by go_num, rfl, Lib.hid X1.out.2, Lib.hid X1.out.1, HP⟩
        case measure => simp [intOf]; omega
      | false =>
        have hlt := less_any a b x y
        have HK := Lib.hid (fun w' (hb : Below wr.heap.size wr w') => And.intro (hbx'.on hb).fst (And.intro (hbx'.on hb).snd (And.intro ((hb.cell (p := ⟨B, off + k * 2, none⟩) HR.out.lt).trans c1) ((hb.cell (p := ⟨B, off + k * 2 + 1, none⟩) HR.out.lt).trans c2))))
        obtain ⟨W, hW, hbW, hoW, hWW⟩ : ∃ W, two wr.drew a b x y = W ∧ Hid (Below (w.heap.size + 1) (w.alloc (cells a b)) W) ∧ Hid (Owns W (w.heap.size + 1) u5 out) ∧ Hid (Below wr.heap.size wr W) :=
          ⟨_, rfl, Lib.hid (hbw.out.trans ((below_drew_two _ _ _ _ _).mono hs)), Lib.hid (World.ownsRow.alloc (World.ownsRow.alloc (w := wr.drew) hown.out _) _), Lib.hid (below_drew_two _ _ _ _ _)⟩
        have hsW : w.heap.size + 1 ≤ W.heap.size := Nat.le_trans hs hWW.out.size
        have d := HK.out W hWW.out
        obtain ⟨d3, d4, d1, d2⟩ := d
        cases hl : idLt (a, b) (x, y) with
        | true =>
          have ho2 := hput.out.2
          have HP := Lib.hid (hput.out.hit (by rw [← HZ.out]; exact hkn) (by rw [HX.out]; exact hl))
          rw [HX.out] at HP
          have HL := Lib.hid hlt
          rw [hl] at HL
          clear hlt hl hbx'
          go_wp2
          go_region_held3 (fun w' => w'.cell? ⟨w.heap.size, 0, none⟩ = some (.int .i64 a) ∧ w'.cell? ⟨w.heap.size, 1, none⟩ = some (.int .i64 b) ∧ w'.cell? ⟨B, off + k * 2, none⟩ = some (.int .i64 x) ∧ w'.cell? ⟨B, off + k * 2 + 1, none⟩ = some (.int .i64 y)) (first | go_keep | exact HK.out _ hWW.out) (first | (go_at_call 40; refine (HL.out _).mono ?_; rintro e w' ⟨rfl, hw⟩; replace hw := (hw.trans hW).symm; subst hw))
          go_wp2_with (first
            | (at_builtin; refine wpList_append_own _ rfl _ _ 23 rfl (w.heap.size + 1) 32 i0 (.agg #[.int .i64 0, .int .i64 0]) 2 16 Tryz.underlying23 hi hz0 hz1 hz2 rfl (by decide) _ _ _ rfl (World.ownsRow.alloc hoW.out _) ⟨W.heap.size, 0, none⟩ 1 1 [.int .i64 a, .int .i64 b] rfl rfl (cell_two_new _ _ _ _) (fun u hu => by simp at hu; rcases hu with rfl | rfl <;> rfl) (by unfold maxLen; omega) (by omega) (by simp; omega) ?_; intro v1 w3 hown1 hgrow1 hnil1; have X1 := Lib.hid (And.intro (Owns.snoc hown1) (put_far hbW.out hoW.out _ hgrow1)); have q1 := (HC.out.on (Boxed.of X1.out.2).below).fst k (by rw [← HZ.out]; exact hkn); have q2 := (HC.out.on (Boxed.of X1.out.2).below).snd k (by rw [← HZ.out]; exact hkn); rw [HX.out] at q1 q2; have hs3 : w.heap.size + 1 ≤ w3.heap.size := (by have := X1.out.2.size; simpa using this); clear hown1 hgrow1 hnil1)
            | (at_builtin; refine wpList_append_own _ rfl _ _ 23 rfl (w.heap.size + 1) 32 i0 (.agg #[.int .i64 0, .int .i64 0]) 2 16 Tryz.underlying23 hi hz0 hz1 hz2 rfl (by decide) _ _ _ rfl (World.ownsRow.alloc X1.out.1 _) ⟨w3.heap.size, 0, none⟩ 1 1 [.int .i64 x, .int .i64 y] rfl rfl (cell_two_new _ _ _ _) (fun u hu => by simp at hu; rcases hu with rfl | rfl <;> rfl) (by rw [List.length_append]; simp only [List.length_cons, List.length_nil]; unfold maxLen; omega) (by rw [List.length_append]; simp only [List.length_cons, List.length_nil]; omega) (by simp; omega) ?_; intro v2 w4 hown2 hgrow2 hnil2; have X2 := Lib.hid (And.intro (Owns.snoc hown2) (put_far X1.out.2 X1.out.1 _ hgrow2)); clear hown2 hgrow2 hnil2))
          go_roundw
          case rel => exact ⟨k + 1, true, out ++ [(a, b)] ++ [(x, y)], by omega, by have e : out.length = k := ho2; simp; omega, by go_num, rfl, Lib.hid X2.out.2, Lib.hid X2.out.1, HP⟩
          case measure => simp [intOf]; omega
        | false =>
          have ho2 := hput.out.2
          have HP := Lib.hid (hput.out.go (by rw [← HZ.out]; exact hkn) (by rw [HX.out]; exact hl))
          rw [HX.out] at HP
          have HL := Lib.hid hlt
          rw [hl] at HL
          clear hlt hl hbx'
          go_wp2
          go_region_held3 (fun w' => w'.cell? ⟨w.heap.size, 0, none⟩ = some (.int .i64 a) ∧ w'.cell? ⟨w.heap.size, 1, none⟩ = some (.int .i64 b) ∧ w'.cell? ⟨B, off + k * 2, none⟩ = some (.int .i64 x) ∧ w'.cell? ⟨B, off + k * 2 + 1, none⟩ = some (.int .i64 y)) (first | go_keep | exact HK.out _ hWW.out) (first | (go_at_call 40; refine (HL.out _).mono ?_; rintro e w' ⟨rfl, hw⟩; replace hw := (hw.trans hW).symm; subst hw))
          go_wp2_with (first
            | (at_builtin; refine wpList_append_own _ rfl _ _ 23 rfl (w.heap.size + 1) 32 i0 (.agg #[.int .i64 0, .int .i64 0]) 2 16 Tryz.underlying23 hi hz0 hz1 hz2 rfl (by decide) _ _ _ rfl (World.ownsRow.alloc hoW.out _) ⟨W.heap.size, 0, none⟩ 1 1 [.int .i64 x, .int .i64 y] rfl rfl (cell_two_new _ _ _ _) (fun u hu => by simp at hu; rcases hu with rfl | rfl <;> rfl) (by unfold maxLen; omega) (by omega) (by simp; omega) ?_; intro v1 w3 hown1 hgrow1 hnil1; have X1 := Lib.hid (And.intro (Owns.snoc hown1) (put_far hbW.out hoW.out _ hgrow1)); clear hown1 hgrow1 hnil1))
          go_roundw
          case rel => exact ⟨k + 1, false, out ++ [(x, y)], by omega, by simp; omega, by go_num, rfl, Lib.hid X1.out.2, Lib.hid X1.out.1, HP⟩
          case measure => simp [intOf]; omega
    · have kn : ¬ (k : Int) < n := by omega
      have hkn' : k = zs.length := by rw [← HZ.out]; omega
      cases dn with
      | true =>
        have HE : Hid (ins (a, b) zs = out) := Lib.hid (PutAt.endT (by rw [← hkn']; exact hput.out))
        clear hkn' HH hbx hd
        go_wp2
        go_ret
        exact ⟨_, rfl, by rw [HE.out]; exact Owns.row hown.out, (below_one w (cells a b)).trans (hbw.out.mono (by omega)), fun k hk => by have := (World.ownsRow.lt hown.out k hk).1; omega⟩
      | false =>
        have HE : Hid (ins (a, b) zs = out ++ [(a, b)]) := Lib.hid (PutAt.endF (by rw [← hkn']; exact hput.out))
        clear hkn' HH hbx hd
        go_wp2_with (first
          | (at_builtin; refine wpList_append_own _ rfl _ _ 23 rfl (w.heap.size + 1) 32 i0 (.agg #[.int .i64 0, .int .i64 0]) 2 16 Tryz.underlying23 hi hz0 hz1 hz2 rfl (by decide) _ _ _ rfl (World.ownsRow.alloc hown.out _) ⟨wr.heap.size, 0, none⟩ 1 1 [.int .i64 a, .int .i64 b] rfl rfl (cell_two_new _ _ _ _) (fun u hu => by simp at hu; rcases hu with rfl | rfl <;> rfl) (by unfold maxLen; omega) (by omega) (by simp; omega) ?_; intro v1 w3 hown1 hgrow1 hnil1; have X1 := Lib.hid (And.intro (Owns.snoc hown1) (put_far hbw.out hown.out _ hgrow1)); clear hown1 hgrow1 hnil1))
        go_ret
        exact ⟨_, rfl, by rw [HE.out]; exact Owns.row X1.out.1, (below_one w (cells a b)).trans (X1.out.2.mono (by omega)), fun k hk => by have := (World.ownsRow.lt X1.out.1 k hk).1; omega⟩
set_option maxHeartbeats 4000000 in
set_option maxRecDepth 100000 in
theorem put_any (v : Value) (zs : List Idn) (a b : Int) (w : World) (h : RowAt w v zs) (hl : zs.length ≤ 100000) : Calls Tryz.prog 36 #[v, .agg #[.int .i64 a, .int .i64 b]] w (GivesRow (put zs (a, b)) w) := by
  have HH : Hid (∀ W, Below w.heap.size w W → Calls Tryz.prog 30 #[v, .agg #[.int .i64 a, .int .i64 b]] W fun e w' => e = .returned (.bool (decide ((a, b) ∈ zs))) ∧ Below W.heap.size W w') := Lib.hid fun W hW => refhas_any v zs a b W (h.on hW)
  have H0 := Lib.hid h
  by_cases hm : (a, b) ∈ zs
  · have hp : put zs (a, b) = zs := by unfold put; rw [if_pos hm]
    rw [hp]
    rw [decide_eq_true hm] at HH
    clear hp hm h hl
    go_enter Tryz.func36, Tryz.ntmps36
    go_wp2_with (first
      | (go_at_call 30; ((with_reducible refine (HH.out _ (below_one _ _)).mono ?_); rintro e w1 ⟨rfl, hb⟩; have HB := Lib.hid hb; clear hb)))
    go_ret
    have hb : Below w.heap.size w w1 := (below_one _ _).trans (HB.out.mono (by simp))
    exact ⟨_, rfl, H0.out.on hb, hb⟩
  · exact (put_new v zs a b w h hl hm).mono fun e w' ⟨u, he, hr, hb, _⟩ => ⟨u, he, hr, hb⟩

/-! ### The document's Sorted -/
end Go.Proofs.YtomidcbpnaajeaaGreat.Ids
