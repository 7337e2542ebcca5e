/- Records in memory (layer 8, record): a box of the call's own; what Cost and Less give, and the document's Less. Conditions: those in each statement. -/
import Derived.Test.YtimkkelnakamkaaBatD
import Derived.Test.YtimkkelnakamkaaIdB
namespace Go.Proofs.Ytimkkelnakamkaa.Rec
open Go.RowKit Cmd Bat Ids
set_option linter.unusedVariables false

/-! ### Boxes -/
def cellsR (t : TypeId) (a b q : Int) (v u : Value) : Obj := .cells #[.int .i64 a, .int .i64 b, .int .i64 q, v, u] t
/-- A box at block g, and that w's blocks lie as they did. -/
structure BoxR (w : World) (g : Nat) (a b q : Int) (v u : Value) (wr : World) : Prop where
  below : Below w.heap.size w wr
  own : w.heap.size ≤ g
  lt : g < wr.heap.size
  c0 : wr.cell? ⟨g, 0, none⟩ = some (.int .i64 a)
  c1 : wr.cell? ⟨g, 1, none⟩ = some (.int .i64 b)
  c2 : wr.cell? ⟨g, 2, none⟩ = some (.int .i64 q)
  c3 : wr.cell? ⟨g, 3, none⟩ = some v
  c4 : wr.cell? ⟨g, 4, none⟩ = some u
theorem BoxR.start (t : TypeId) (w : World) (a b q : Int) (v u : Value) : BoxR w w.heap.size a b q v u (w.alloc (cellsR t a b q v u)) :=
  ⟨Cmd.below_one _ _, Nat.le_refl _, by simp, by unfold cellsR; rw [World.cell?_alloc_mark]; rfl, by unfold cellsR; rw [World.cell?_alloc_mark]; rfl, by unfold cellsR; rw [World.cell?_alloc_mark]; rfl, by unfold cellsR; rw [World.cell?_alloc_mark]; rfl, by unfold cellsR; rw [World.cell?_alloc_mark]; rfl⟩
theorem BoxR.on {w wr w' : World} {g : Nat} {a b q : Int} {v u : Value} (h : BoxR w g a b q v u wr) (hb : Below wr.heap.size wr w') : BoxR w g a b q v u w' :=
  ⟨h.below.trans (hb.mono h.below.size), h.own, Nat.lt_of_lt_of_le h.lt hb.size, (hb.cell (p := ⟨g, 0, none⟩) h.lt).trans h.c0, (hb.cell (p := ⟨g, 1, none⟩) h.lt).trans h.c1, (hb.cell (p := ⟨g, 2, none⟩) h.lt).trans h.c2, (hb.cell (p := ⟨g, 3, none⟩) h.lt).trans h.c3, (hb.cell (p := ⟨g, 4, none⟩) h.lt).trans h.c4⟩
theorem BoxR.from {x w wr : World} {g : Nat} {a b q : Int} {v u : Value} (h : BoxR w g a b q v u wr) (hb : Below x.heap.size x w) : BoxR x g a b q v u wr :=
  ⟨hb.trans (h.below.mono hb.size), Nat.le_trans hb.size h.own, h.lt, h.c0, h.c1, h.c2, h.c3, h.c4⟩
/-- The cells, at whatever world in which all that lay lies. -/
theorem BoxR.five {w wr : World} {g : Nat} {a b q : Int} {v u : Value} (h : BoxR w g a b q v u wr) :
    wr.cell? ⟨g, 0, none⟩ = some (.int .i64 a) ∧ wr.cell? ⟨g, 1, none⟩ = some (.int .i64 b) ∧ wr.cell? ⟨g, 2, none⟩ = some (.int .i64 q) ∧ wr.cell? ⟨g, 3, none⟩ = some v ∧ wr.cell? ⟨g, 4, none⟩ = some u := ⟨h.c0, h.c1, h.c2, h.c3, h.c4⟩
/-- Two boxes of the call's own. -/
structure Two8 (w : World) (a b q : Int) (v u : Value) (a' b' q' : Int) (v' u' : Value) (W : World) : Prop where
  a : BoxR w w.heap.size a b q v u W
  b : BoxR w (w.heap.size + 1) a' b' q' v' u' W
theorem Two8.start (t : TypeId) (w : World) (a b q : Int) (v u : Value) (a' b' q' : Int) (v' u' : Value) : Two8 w a b q v u a' b' q' v' u' ((w.alloc (cellsR t a b q v u)).alloc (cellsR t a' b' q' v' u')) := by
  have h1 := (BoxR.start t w a b q v u).on (Cmd.below_one _ (cellsR t a' b' q' v' u'))
  have h2 := (BoxR.start t (w.alloc (cellsR t a b q v u)) a' b' q' v' u').from (Cmd.below_one w _)
  have e : (w.alloc (cellsR t a b q v u)).heap.size = w.heap.size + 1 := by simp
  rw [e] at h2
  exact ⟨h1, h2⟩
theorem Two8.on {w W W' : World} {a b q : Int} {v u : Value} {a' b' q' : Int} {v' u' : Value} (h : Two8 w a b q v u a' b' q' v' u' W) (hb : Below W.heap.size W W') : Two8 w a b q v u a' b' q' v' u' W' := ⟨h.a.on hb, h.b.on hb⟩

/-! ### Cost, Less -/
def rLess (a b q a' b' q' : Int) : Bool := if q = q' then idLt (a, b) (a', b') else decide (q < q')
theorem cmp_neg (a b a' b' : Int) : decide (idCmp (a, b) (a', b') < 0) = idLt (a, b) (a', b') := by
  rw [cmp_lt]
  cases idLt (a, b) (a', b')
  · simp only [Bool.false_eq_true, if_false]; split <;> decide
  · simp
/-- Of two records not each stands ahead of the other. -/
theorem less_not (a b q a' b' q' : Int) : (rLess a b q a' b' q' && rLess a' b' q' a b q) = false := by
  rw [Bool.eq_false_iff]
  intro h
  rw [Bool.and_eq_true] at h
  obtain ⟨h1, h2⟩ := h
  unfold rLess at h1 h2
  by_cases e : q = q'
  · subst e
    rw [if_pos rfl] at h1 h2
    unfold idLt at h1 h2
    simp only [] at h1 h2
    split at h1 <;> split at h2 <;> simp at h1 h2 <;> omega
  · rw [if_neg e] at h1
    rw [if_neg (fun h => e h.symm)] at h2
    simp at h1 h2; omega

/-! ### What is wrong with an id -/
theorem refid_any (a b : Int) (w : World) : Calls Try.prog 35 #[.agg #[.int .i64 a, .int .i64 b]] w (RetBelow (.int .i64 (idErr (a, b))) w) := by
  have HB := Lib.hid (Boxed.start w a b)
  have HR := Lib.hid (fun w => Ids.right_any a b w)
  have HE : Hid (idErr (a, b) = if a < 0 then 7 else if 7 < a then 7 else if idRight (a, b) = true then 0 else 8) := Lib.hid (by
    unfold idErr idRight
    simp only [decide_eq_true_eq]
    repeat' split
    all_goals omega)
  generalize idRight (a, b) = r at HR HE
  by_cases h1 : a < 0
  · rw [if_pos h1] at HE
    go_enter Try.func35, Try.ntmps35
    go_wp2
    go_ret
    exact ⟨ret_int HE.out.symm, HB.out.below⟩
  · rw [if_neg h1] at HE
    by_cases h2 : 7 < a
    · rw [if_pos h2] at HE
      go_enter Try.func35, Try.ntmps35
      go_wp2
      go_ret
      exact ⟨ret_int HE.out.symm, HB.out.below⟩
    · rw [if_neg h2] at HE
      cases r
      all_goals
        go_enter Try.func35, Try.ntmps35
        go_wp2_with (first
          | (go_at_call 52; (with_reducible refine (HR.out _).mono ?_); rintro e w1 ⟨rfl, rfl⟩))
        go_ret
        exact ⟨ret_int HE.out.symm, HB.out.below.trans ((Ids.below_one _ _).mono HB.out.below.size)⟩
end Go.Proofs.Ytimkkelnakamkaa.Rec
