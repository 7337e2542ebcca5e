/- What the loops over a list of ids give (layer 3, ident): whether one is in it, whether it rises, whether two are the same. Condition: the list lies in memory as its cells say (RowAt). -/
import Derived.Test.YtimkkelnakamkaaIdA
import Derived.LoopTactic
import Derived.IntWalk
import Derived.Deep.QuietTactic
import Derived.BigQuiet
import Derived.Lib.SmallJoins
namespace Go.Proofs.Ytimkkelnakamkaa.Ids
open Go.RowKit
set_option linter.unusedVariables false

def nth (zs : List Idn) (j : Nat) : Idn := zs.getD j (0, 0)
/-- A slice value that reads as a list of ids. -/
def RowAt (w : World) (v : Value) (zs : List Idn) : Prop :=
  ∃ (p : Option Addr) (cap : Nat), v = .slice p zs.length cap ∧ zs.length ≤ cap ∧ cap ≤ 9223372036854775807 ∧ (p = none → cap = 0) ∧
    (zs ≠ [] → ∃ b off, p = some ⟨b, off, none⟩ ∧ b < w.heap.size ∧ ∀ j, j < zs.length → w.cell? ⟨b, off + j * 2, none⟩ = some (.int .i64 (nth zs j).1) ∧ w.cell? ⟨b, off + j * 2 + 1, none⟩ = some (.int .i64 (nth zs j).2))
theorem RowAt.on {w w' : World} {v : Value} {zs : List Idn} (h : RowAt w v zs) (hb : Below w.heap.size w w') : RowAt w' v zs := by
  obtain ⟨p, cap, rfl, h1, h2, h0, h3⟩ := h
  refine ⟨p, cap, rfl, h1, h2, h0, fun hz => ?_⟩
  obtain ⟨b, off, rfl, hlt, hc⟩ := h3 hz
  exact ⟨b, off, rfl, Nat.lt_of_lt_of_le hlt hb.size, fun j hj => ⟨(hb.cell (p := ⟨b, off + j * 2, none⟩) hlt).trans (hc j hj).1, (hb.cell (p := ⟨b, off + j * 2 + 1, none⟩) hlt).trans (hc j hj).2⟩⟩

/-! ### The document's Has -/
theorem mem_nth {zs : List Idn} {x : Idn} : x ∈ zs ↔ ∃ j, j < zs.length ∧ nth zs j = x := by
  unfold nth
  constructor
  · intro h
    obtain ⟨j, hj, e⟩ := List.getElem_of_mem h
    exact ⟨j, hj, by rw [List.getD_eq_getElem?_getD, List.getElem?_eq_getElem hj]; exact e⟩
  · rintro ⟨j, hj, e⟩
    rw [List.getD_eq_getElem?_getD, List.getElem?_eq_getElem hj] at e
    rw [← e]; exact List.getElem_mem hj

structure Row2 (w : World) (B off : Nat) (zs : List Idn) : Prop where
  lt : B < w.heap.size
  fst : ∀ j, j < zs.length → w.cell? ⟨B, off + j * 2, none⟩ = some (.int .i64 (nth zs j).1)
  snd : ∀ j, j < zs.length → w.cell? ⟨B, off + j * 2 + 1, none⟩ = some (.int .i64 (nth zs j).2)
theorem Row2.on {w w' : World} {B off : Nat} {zs : List Idn} (h : Row2 w B off zs) (hb : Below w.heap.size w w') : Row2 w' B off zs :=
  ⟨Nat.lt_of_lt_of_le h.lt hb.size, fun j hj => (hb.cell (p := ⟨B, off + j * 2, none⟩) h.lt).trans (h.fst j hj), fun j hj => (hb.cell (p := ⟨B, off + j * 2 + 1, none⟩) h.lt).trans (h.snd j hj)⟩
/-- Behind a box of the call's own: what lay there, and what is in the box. -/
structure Boxed (w : World) (a b : Int) (wr : World) : Prop where
  below : Below w.heap.size w wr
  lt : w.heap.size < wr.heap.size
  fst : wr.cell? ⟨w.heap.size, 0, none⟩ = some (.int .i64 a)
  snd : wr.cell? ⟨w.heap.size, 1, none⟩ = some (.int .i64 b)
  fr0 : wr.frozen? ⟨w.heap.size, 0, none⟩ = false
  fr1 : wr.frozen? ⟨w.heap.size, 1, none⟩ = false
theorem box_free (w : World) (a b : Int) (j : Nat) : (w.alloc (cells a b)).frozen? ⟨w.heap.size, j, none⟩ = false := by
  have h : (w.alloc (cells a b)).heap[w.heap.size]? = some (.cells #[.int .i64 a, .int .i64 b] 24 (0, 0)) := heap_alloc_new w _
  unfold World.frozen?
  simp only [h]
  simp
theorem Boxed.start (w : World) (a b : Int) : Boxed w a b (w.alloc (cells a b)) :=
  ⟨below_one _ _, by simp, by unfold cells; rw [World.cell?_alloc_mark]; rfl, by unfold cells; rw [World.cell?_alloc_mark]; rfl, box_free _ _ _ _, box_free _ _ _ _⟩
theorem Boxed.on {w wr w' : World} {a b : Int} (h : Boxed w a b wr) (hb : Below wr.heap.size wr w') : Boxed w a b w' :=
  ⟨h.below.trans (hb.mono h.below.size), Nat.lt_of_lt_of_le h.lt hb.size, (hb.cell (p := ⟨w.heap.size, 0, none⟩) h.lt).trans h.fst, (hb.cell (p := ⟨w.heap.size, 1, none⟩) h.lt).trans h.snd, (hb.frozen (p := ⟨w.heap.size, 0, none⟩) h.lt).trans h.fr0, (hb.frozen (p := ⟨w.heap.size, 1, none⟩) h.lt).trans h.fr1⟩
theorem below_drN {B : Nat} {a w : World} (h : Below B a w) (n : Nat) : Below B a (w.drewN n) := ⟨h.os, h.tape, h.output, h.size, h.block⟩
theorem below_draws (w : World) (n : Nat) : Below w.heap.size w (w.drewN n) := Go.Joins.below_draws _ _ _

set_option maxHeartbeats 1000000 in
theorem refhas_any (v : Value) (zs : List Idn) (a b : Int) (w : World) (h : RowAt w v zs) : Calls Try.prog 32 #[v, .agg #[.int .i64 a, .int .i64 b]] w fun e w' => e = .returned (.bool (decide ((a, b) ∈ zs))) ∧ Below w.heap.size w w' := by
  obtain ⟨p, cap, rfl, h1, h2, -, h3⟩ := h
  by_cases hz : zs = []
  · subst hz
    clear h3
    go_enter Try.func32, Try.ntmps32
    go_wp2
    go_loopw [5] (fun i wr => i = .int .i64 0 ∧ wr = w.alloc (cells a b)) (fun _ _ => 0)
    case atStart => exact ⟨rfl, rfl⟩
    case round =>
      obtain ⟨rfl, rfl⟩ := hrel
      go_wp2
      go_ret
      exact ⟨rfl, below_one _ _⟩
  · obtain ⟨B, off, rfl, hlt, hc⟩ := h3 hz
    have HC : Hid (Row2 w B off zs) := Lib.hid ⟨hlt, fun j hj => (hc j hj).1, fun j hj => (hc j hj).2⟩
    have hlen : zs.length ≤ 9223372036854775807 := by omega
    obtain ⟨n, hn⟩ : ∃ n, n = zs.length := ⟨_, rfl⟩
    rw [← hn] at h1 hlen ⊢
    have HZ := Lib.hid hn
    clear hc hn h3 hz h1 h2 hlt
    have HM := Lib.hid (mem_nth (zs := zs) (x := (a, b)))
    generalize hr : decide ((a, b) ∈ zs) = r
    have HR := Lib.hid hr
    clear hr
    go_enter Try.func32, Try.ntmps32
    go_wp2
    go_loopw [5] (fun i wr => ∃ k : Nat, k ≤ n ∧ i = .int .i64 k ∧ Hid (Boxed w a b wr) ∧ Hid (∀ j, j < k → nth zs j ≠ (a, b))) (fun i _ => n - (intOf i).toNat)
    case atStart => exact ⟨0, Nat.zero_le _, rfl, Lib.hid (Boxed.start _ _ _), Lib.hid fun j hj => absurd hj (Nat.not_lt_zero _)⟩
    case round =>
      obtain ⟨k, hk, rfl, hbw, hno⟩ := hrel
      by_cases hkn : k < n
      · have hrow := HC.out.on hbw.out.below
        have c1 := hrow.fst k (by rw [← HZ.out]; exact hkn)
        have c2 := hrow.snd k (by rw [← HZ.out]; exact hkn)
        have c3 := hbw.out.fst
        have c4 := hbw.out.snd
        have k0 : (0 : Int) ≤ k := by omega
        have kn : (k : Int) < n := by omega
        obtain ⟨x, y, hxy⟩ : ∃ x y, nth zs k = (x, y) := ⟨_, _, rfl⟩
        rw [hxy] at c1 c2
        by_cases he : (x, y) = (a, b)
        · have h1 : x = a := congrArg Prod.fst he
          have h2 : y = b := congrArg Prod.snd he
          subst h1; subst h2
          have HX := Lib.hid hxy
          clear hrow hno he hxy
          go_wp2
          go_quiet (fail)
          go_wp2
          go_ret
          refine ⟨ret_bool ?_, hbw.out.below.trans ((below_draws _ _).mono hbw.out.below.size)⟩
          rw [← HR.out]
          exact (decide_eq_true (HM.out.2 ⟨k, by rw [← HZ.out]; exact hkn, HX.out⟩)).symm
        · have h3 : (x == a && y == b) = false := by
            rw [Bool.eq_false_iff]; intro h; rw [Bool.and_eq_true, beq_iff_eq, beq_iff_eq] at h; exact he (by rw [h.1, h.2])
          have HX : Hid (nth zs k ≠ (a, b)) := Lib.hid (by rw [hxy]; exact he)
          have hq : ∀ w, (binOp .eql 24 (.agg #[.int .i64 x, .int .i64 y]) (.agg #[.int .i64 a, .int .i64 b])).run Try.prog w = .ok (.bool false) w := fun w => by rw [eql_id, h3]
          clear hrow he hxy h3
          go_wp2
          go_quiet (fail)
          go_wp2
          go_roundw
          case rel => exact ⟨k + 1, by omega, by go_num, Lib.hid (hbw.out.on (below_draws _ _)), Lib.hid fun j hj => by
            by_cases e : j = k
            · rw [e]; exact HX.out
            · exact hno.out j (by omega)⟩
          case measure => simp [intOf]; omega
      · have kn : ¬ (k : Int) < n := by omega
        go_wp2
        go_ret
        refine ⟨ret_bool ?_, hbw.out.below⟩
        rw [← HR.out]
        refine (decide_eq_false fun h => ?_).symm
        obtain ⟨j, hj, e⟩ := HM.out.1 h
        exact hno.out j (by rw [← HZ.out] at hj; omega) e

/-! ### Rising -/
theorem below_drew_two (w : World) (a b c d : Int) : Below w.heap.size w (two w.drew a b c d) := (Below.refl _ w).drew.trans (below_two w.drew a b c d)
/-- Two cells side by side, twice. -/
theorem Row2.pair {w w' : World} {B off : Nat} {zs : List Idn} (h : Row2 w B off zs) (hb : Below w.heap.size w w') {j k : Nat} {x y x' y' : Int} (hj : j < zs.length) (hk : k < zs.length) (e : nth zs j = (x, y)) (e' : nth zs k = (x', y')) :
    w'.cell? ⟨B, off + j * 2, none⟩ = some (.int .i64 x) ∧ w'.cell? ⟨B, off + j * 2 + 1, none⟩ = some (.int .i64 y) ∧ w'.cell? ⟨B, off + k * 2, none⟩ = some (.int .i64 x') ∧ w'.cell? ⟨B, off + k * 2 + 1, none⟩ = some (.int .i64 y') := by
  have h2 := h.on hb
  have a := h2.fst j hj; have b := h2.snd j hj; have c := h2.fst k hk; have d := h2.snd k hk
  rw [e] at a b; rw [e'] at c d
  exact ⟨a, b, c, d⟩
def rises (zs : List Idn) : Bool := (List.range (zs.length - 1)).all fun j => idLt (nth zs j) (nth zs (j + 1))
theorem rises_iff {zs : List Idn} : rises zs = true ↔ ∀ j, j + 1 < zs.length → idLt (nth zs j) (nth zs (j + 1)) = true := by
  unfold rises
  rw [List.all_eq_true]
  constructor
  · intro h j hj; exact h j (List.mem_range.2 (by omega))
  · intro h j hj; exact h j (by have := List.mem_range.1 hj; omega)
theorem cmp_lt (a b : Idn) : idCmp a b = if idLt a b then -1 else if a = b then 0 else 1 := by
  unfold idCmp
  by_cases h : a = b
  · subst h; unfold idLt; simp
  · simp [h]



/-! ### Same -/
theorem eq_nth {zs ys : List Idn} : zs = ys ↔ zs.length = ys.length ∧ ∀ j, j < zs.length → nth zs j = nth ys j := by
  constructor
  · rintro rfl; exact ⟨rfl, fun _ _ => rfl⟩
  · rintro ⟨h1, h2⟩
    refine List.ext_getElem h1 fun j h3 h4 => ?_
    have := h2 j h3
    unfold nth at this
    rwa [List.getD_eq_getElem?_getD, List.getElem?_eq_getElem h3, List.getD_eq_getElem?_getD, List.getElem?_eq_getElem h4] at this

set_option maxHeartbeats 1000000 in
theorem same_any (v u : Value) (zs ys : List Idn) (w : World) (h : RowAt w v zs) (g : RowAt w u ys) : Calls Try.prog 17 #[v, u] w fun e w' => e = .returned (.bool (decide (zs = ys))) ∧ Below w.heap.size w w' := by
  obtain ⟨p, cap, rfl, h1, h2, -, h3⟩ := h
  obtain ⟨q, caq, rfl, g1, g2, -, g3⟩ := g
  by_cases hl : zs.length = ys.length
  · by_cases hz : zs = []
    · subst hz
      have hy : ys = [] := List.eq_nil_of_length_eq_zero hl.symm
      subst hy
      clear h3 g3 hl
      go_enter Try.func17, Try.ntmps17
      go_wp2
      go_loopw [5] (fun i wr => i = .int .i64 0 ∧ wr = w) (fun _ _ => 0)
      case atStart => exact ⟨rfl, rfl⟩
      case round =>
        obtain ⟨rfl, rfl⟩ := hrel
        go_wp2
        go_ret
        exact ⟨rfl, Below.refl _ _⟩
    · have hy : ys ≠ [] := fun e => by rw [e] at hl; exact hz (List.eq_nil_of_length_eq_zero hl)
      obtain ⟨B, off, rfl, hlt, hc⟩ := h3 hz
      obtain ⟨C, og, rfl, glt, gc⟩ := g3 hy
      have HC : Hid (Row2 w B off zs) := Lib.hid ⟨hlt, fun j hj => (hc j hj).1, fun j hj => (hc j hj).2⟩
      have HD : Hid (Row2 w C og ys) := Lib.hid ⟨glt, fun j hj => (gc j hj).1, fun j hj => (gc j hj).2⟩
      have hlen : zs.length ≤ 9223372036854775807 := by omega
      have hpos : 0 < zs.length := List.length_pos_iff.2 hz
      obtain ⟨n, hn⟩ : ∃ n, n = zs.length := ⟨_, rfl⟩
      have hm : n = ys.length := by omega
      rw [← hm] at g1 ⊢
      rw [← hn] at h1 hlen hpos ⊢
      have HZ := Lib.hid hn
      have HY := Lib.hid hm
      have HM := Lib.hid (eq_nth (zs := zs) (ys := ys))
      generalize hr : decide (zs = ys) = r
      have HR := Lib.hid hr
      clear hr hc hn h3 hz h1 h2 hlt gc hm g3 hy g1 g2 glt hl
      go_enter Try.func17, Try.ntmps17
      go_wp2
      go_loopw [5] (fun i wr => ∃ k : Nat, k ≤ n ∧ i = .int .i64 k ∧ Hid (Below w.heap.size w wr) ∧ Hid (∀ j, j < k → nth zs j = nth ys j)) (fun i _ => n - (intOf i).toNat)
      case atStart => exact ⟨0, Nat.zero_le _, rfl, Lib.hid (Below.refl _ _), Lib.hid fun j hj => absurd hj (Nat.not_lt_zero _)⟩
      case round =>
        obtain ⟨k, hk, rfl, hbw, hno⟩ := hrel
        by_cases hkn : k < n
        · have hrow := HC.out.on hbw.out
          have grow := HD.out.on hbw.out
          have c1 := hrow.fst k (by rw [← HZ.out]; omega)
          have c2 := hrow.snd k (by rw [← HZ.out]; omega)
          have c3 := grow.fst k (by rw [← HY.out]; omega)
          have c4 := grow.snd k (by rw [← HY.out]; omega)
          have k0 : (0 : Int) ≤ k := by omega
          have kn : (k : Int) < n := by omega
          obtain ⟨x, y, hxy⟩ : ∃ x y, nth zs k = (x, y) := ⟨_, _, rfl⟩
          obtain ⟨x', y', hxy'⟩ : ∃ x y, nth ys k = (x, y) := ⟨_, _, rfl⟩
          rw [hxy] at c1 c2
          rw [hxy'] at c3 c4
          by_cases he : (x, y) = (x', y')
          · have h3 : (x == x' && y == y') = true := by
              rw [Prod.mk.injEq] at he; rw [he.1, he.2]; simp
            have HX : Hid (nth zs k = nth ys k) := Lib.hid (by rw [hxy, hxy']; exact he)
            have hq : ∀ w, (binOp .neq 24 (.agg #[.int .i64 x, .int .i64 y]) (.agg #[.int .i64 x', .int .i64 y'])).run Try.prog w = .ok (.bool false) w := fun w => by rw [neq_id, h3]; rfl
            clear hrow grow he hxy hxy' h3
            go_wp2
            go_quiet (fail)
            go_wp2
            go_roundw
            case rel => exact ⟨k + 1, by omega, by go_num, Lib.hid (hbw.out.trans ((below_draws _ _).mono hbw.out.size)), Lib.hid fun j hj => by
              by_cases e : j = k
              · rw [e]; exact HX.out
              · exact hno.out j (by omega)⟩
            case measure => simp [intOf]; omega
          · have h3 : (x == x' && y == y') = false := by
              rw [Bool.eq_false_iff]; intro h; rw [Bool.and_eq_true, beq_iff_eq, beq_iff_eq] at h; exact he (by rw [h.1, h.2])
            have HX : Hid (nth zs k ≠ nth ys k) := Lib.hid (by rw [hxy, hxy']; exact he)
            have hq : ∀ w, (binOp .neq 24 (.agg #[.int .i64 x, .int .i64 y]) (.agg #[.int .i64 x', .int .i64 y'])).run Try.prog w = .ok (.bool true) w := fun w => by rw [neq_id, h3]; rfl
            clear hrow grow he hxy hxy' h3
            go_wp2
            go_quiet (fail)
            go_wp2
            go_ret
            refine ⟨ret_bool ?_, hbw.out.trans ((below_draws _ _).mono hbw.out.size)⟩
            rw [← HR.out]
            exact (decide_eq_false fun h => HX.out ((HM.out.1 h).2 k (by rw [← HZ.out]; exact hkn))).symm
        · have kn : ¬ (k : Int) < n := by omega
          go_wp2
          go_ret
          refine ⟨ret_bool ?_, hbw.out⟩
          rw [← HR.out]
          exact (decide_eq_true (HM.out.2 ⟨by rw [← HZ.out, ← HY.out], fun j hj => hno.out j (by rw [← HZ.out] at hj; omega)⟩)).symm
  · have hne : ¬ zs = ys := fun e => hl (by rw [e])
    have hn : ((zs.length : Int) == (ys.length : Int)) = false := by rw [beq_eq_false_iff_ne]; omega
    obtain ⟨n, e1⟩ : ∃ n, zs.length = n := ⟨_, rfl⟩
    obtain ⟨m, e2⟩ : ∃ n, ys.length = n := ⟨_, rfl⟩
    rw [decide_eq_false hne]
    rw [e1, e2] at hn hl ⊢
    have hl' : ¬ (n : Int) = (m : Int) := by omega
    clear h3 g3 hne h1 h2 g1 g2 e1 e2
    go_enter Try.func17, Try.ntmps17
    go_wp2
    go_ret
    exact ⟨rfl, Below.refl _ _⟩
end Go.Proofs.Ytimkkelnakamkaa.Ids
