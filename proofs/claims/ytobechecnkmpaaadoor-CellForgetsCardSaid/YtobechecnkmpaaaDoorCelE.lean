/- The statement's function of layer 12 (cell) on two cells and a number: it returns true. Conditions: words of 64 bits; the library's tables as they are laid. -/
import Derived.Test.YtobechecnkmpaaaDoorCelC
namespace Go.Proofs.YtobechecnkmpaaaDoor.Cel
open Go.RowKit Go.Lib F64 Cmd
set_option linter.unusedVariables false
set_option linter.unusedSimpArgs false

/-- Two cells' boxes, two commands'. -/
structure Fx (w : World) (f : Bool) (z : Nat) (g : Bool) (y : Nat) (v : Nat) (W : World) : Prop where
  below : Below w.heap.size w W
  a : Bx w.heap.size f z W
  b : Bx (w.heap.size + 1) g y W
  p : W.heap[w.heap.size + 1 + 1]? = some (.cells #[.int .i64 2, .string ⟨#[107]⟩, .float .f64 v] 26 (0, 0))
  d : W.heap[w.heap.size + 1 + 1 + 1]? = some (.cells #[.int .i64 3, .string ⟨#[107]⟩, .float .f64 0] 26 (0, 0))
theorem Fx.start (w : World) (f : Bool) (z : Nat) (g : Bool) (y v : Nat) : Fx w f z g y v ((((w.alloc (.cells #[.bool f, .float .f64 z] 24)).alloc (.cells #[.bool g, .float .f64 y] 24)).alloc (.cells #[.int .i64 2, .string ⟨#[107]⟩, .float .f64 v] 26)).alloc (.cells #[.int .i64 3, .string ⟨#[107]⟩, .float .f64 0] 26)) := by
  have P := Bx2.start w f z g y
  have l2 := P.b.lt
  generalize hW : (w.alloc (.cells #[.bool f, .float .f64 z] 24)).alloc (.cells #[.bool g, .float .f64 y] 24) = W at P l2
  have e2 : W.heap.size = w.heap.size + 1 + 1 := by rw [← hW]; simp
  have h1 := heap_alloc_new W (.cells #[.int .i64 2, .string ⟨#[107]⟩, .float .f64 v] 26)
  have h2 := heap_alloc_new (W.alloc (.cells #[.int .i64 2, .string ⟨#[107]⟩, .float .f64 v] 26)) (.cells #[.int .i64 3, .string ⟨#[107]⟩, .float .f64 0] 26)
  rw [e2] at h1
  rw [World.size_alloc, e2] at h2
  refine ⟨(P.below.alloc P.below.size _).alloc (by simp only [World.size_alloc]; omega) _, (P.a.alloc _).alloc _, (P.b.alloc _).alloc _, (Below.heap_alloc _ _ _ (by simp only [World.size_alloc]; omega)).trans h1, h2⟩
theorem Fx.on {w W W' : World} {f : Bool} {z : Nat} {g : Bool} {y v : Nat} (h : Fx w f z g y v W) (hb : Below W.heap.size W W') : Fx w f z g y v W' :=
  ⟨h.below.trans (hb.mono h.below.size), h.a.on hb, h.b.on hb, (hb.block _ (Array.getElem?_eq_some_iff.1 h.p).1).trans h.p, (hb.block _ (Array.getElem?_eq_some_iff.1 h.d).1).trans h.d⟩
theorem Fx.facts {w W : World} {f : Bool} {z : Nat} {g : Bool} {y v : Nat} (h : Fx w f z g y v W) : W.cell? ⟨w.heap.size, 0, none⟩ = some (.bool f) ∧ W.cell? ⟨w.heap.size, 1, none⟩ = some (.float .f64 z) ∧ W.cell? ⟨w.heap.size + 1, 0, none⟩ = some (.bool g) ∧ W.cell? ⟨w.heap.size + 1, 1, none⟩ = some (.float .f64 y)
    ∧ W.cell? ⟨w.heap.size + 1 + 1, 0, none⟩ = some (.int .i64 2) ∧ W.cell? ⟨w.heap.size + 1 + 1, 1, none⟩ = some (.string ⟨#[107]⟩) ∧ W.cell? ⟨w.heap.size + 1 + 1, 2, none⟩ = some (.float .f64 v)
    ∧ W.cell? ⟨w.heap.size + 1 + 1 + 1, 0, none⟩ = some (.int .i64 3) ∧ W.cell? ⟨w.heap.size + 1 + 1 + 1, 1, none⟩ = some (.string ⟨#[107]⟩) ∧ W.cell? ⟨w.heap.size + 1 + 1 + 1, 2, none⟩ = some (.float .f64 0) := by
  have hp := h.p
  have hd := h.d
  exact ⟨h.a.facts.1, h.a.facts.2.1, h.b.facts.1, h.b.facts.2.1, by simp [World.cell?, hp], by simp [World.cell?, hp], by simp [World.cell?, hp], by simp [World.cell?, hd], by simp [World.cell?, hd], by simp [World.cell?, hd]⟩
theorem put_is (c : Cell2) (v : Nat) : doC c 2 [107] v = ((true, v), fz c) := by
  have hr : cRight 2 [107] v = true := by
    unfold cRight mayV
    rw [show isKeyL [107] = true by decide, Bool.true_and, decide_eq_true_eq]
    exact .inl rfl
  unfold doC; rw [hr]; rfl
theorem del_is (c : Cell2) : doC c 3 [107] 0 = ((false, 0), fz c) := by
  have hr : cRight 3 [107] 0 = true := by decide
  unfold doC; rw [hr]; rfl
def GivesTold (f : Bool) (r : Cell2) (w : World) (E : Ending) (w' : World) : Prop := ∃ (z : Nat) (g : Bool) (y : Nat), E = .returned (.tuple #[.agg #[.bool f, .float .f64 z], .agg #[.bool g, .float .f64 y]]) ∧ Fit f z r ∧ Below w.heap.size w w'
theorem told_of {r : Cell2 × Cell2} {w : World} {E : Ending} {w' : World} (h : GivesDo r w E w') : GivesTold r.1.1 r.1 w E w' := by
  obtain ⟨f, z, g, y, h1, h2, h3, h4⟩ := h
  have := h2.found
  subst this
  exact ⟨z, g, y, h1, h2, h4⟩
set_option maxHeartbeats 16000000 in
set_option maxRecDepth 100000 in
theorem forgets_any (f : Bool) (z : Nat) (g : Bool) (y : Nat) (v : Nat) (w : World) (hz : z < 18446744073709551616) (hy : y < 18446744073709551616) (hv : v < 18446744073709551616) (hE : Env w) : Calls Tryd.prog 5 #[.agg #[.bool f, .float .f64 z], .agg #[.bool g, .float .f64 y], .float .f64 v] w (RetBelow (.bool true) w) := by
  have CP : Hid (∀ W, Below w.heap.size w W → Calls Tryd.prog 13 #[] W (RetBelow (.bool true) W)) := Lib.hid fun W hb => xplay_any W (hE.on hb)
  have D1 : Hid (∀ W, Calls Tryd.prog 6 #[.agg #[.bool f, .float .f64 z], .agg #[.int .i64 2, .string ⟨#[107]⟩, .float .f64 v]] W (GivesTold true (true, v) W)) := Lib.hid fun W => (ddo_any (f, z) 2 [107] v W hz hv (by decide)).mono fun E w' h => by have := told_of h; rw [put_is] at this; exact this
  have D2 : Hid (∀ W, Calls Tryd.prog 6 #[.agg #[.bool g, .float .f64 y], .agg #[.int .i64 2, .string ⟨#[107]⟩, .float .f64 v]] W (GivesTold true (true, v) W)) := Lib.hid fun W => (ddo_any (g, y) 2 [107] v W hy hv (by decide)).mono fun E w' h => by have := told_of h; rw [put_is] at this; exact this
  have D3 : Hid (∀ W, Calls Tryd.prog 6 #[.agg #[.bool f, .float .f64 z], .agg #[.int .i64 3, .string ⟨#[107]⟩, .float .f64 0]] W (GivesTold false (false, 0) W)) := Lib.hid fun W => (ddo_any (f, z) 3 [107] 0 W hz (by decide) (by decide)).mono fun E w' h => by have := told_of h; rw [del_is] at this; exact this
  have D4 : Hid (∀ W, Calls Tryd.prog 6 #[.agg #[.bool g, .float .f64 y], .agg #[.int .i64 3, .string ⟨#[107]⟩, .float .f64 0]] W (GivesTold false (false, 0) W)) := Lib.hid fun W => (ddo_any (g, y) 3 [107] 0 W hy (by decide) (by decide)).mono fun E w' h => by have := told_of h; rw [del_is] at this; exact this
  have HV := Lib.hid hv
  have B0 := Lib.hid (Fx.start w f z g y v)
  obtain ⟨a0, a1, a2, a3, a4, a5, a6, a7, a8, a9⟩ := B0.out.facts
  clear hz hy hv hE
  go_enter Tryd.func5, Tryd.ntmps5
  go_wp2_with (first
    | (go_at_call 6; (with_reducible refine (D1.out (((((w.alloc _).alloc _).alloc _).alloc _))).mono ?_); rintro E w1 ⟨z1, g1, y1, rfl, h1, hb⟩; have X1 := Lib.hid h1; have P1 := Lib.hid (Bx2.start w1 true z1 g1 y1); have B1 := Lib.hid ((B0.out.on hb).on P1.out.below); obtain ⟨b0, b1, b2, b3, b4, b5, b6, b7, b8, b9⟩ := B1.out.facts; clear hb h1)
    | (go_at_call 6; (with_reducible refine (D2.out ((w1.alloc _).alloc _)).mono ?_); rintro E w2 ⟨z2, g2, y2, rfl, h1, hb⟩; have X2 := Lib.hid h1; have P2 := Lib.hid (Bx2.start w2 true z2 g2 y2); have B2 := Lib.hid ((B1.out.on hb).on P2.out.below); have Q1 := Lib.hid ((P1.out.on hb).a.on P2.out.below); obtain ⟨c0, c1, c2, c3, c4, c5, c6, c7, c8, c9⟩ := B2.out.facts; clear hb h1)
    | (go_at_call 6; (with_reducible refine (D3.out ((w2.alloc _).alloc _)).mono ?_); rintro E w3 ⟨z3, g3, y3, rfl, h1, hb⟩; have X3 := Lib.hid h1; have P3 := Lib.hid (Bx2.start w3 false z3 g3 y3); have B3 := Lib.hid ((B2.out.on hb).on P3.out.below); have Q2 := Lib.hid ((Q1.out.on hb).on P3.out.below); have Q3 := Lib.hid ((P2.out.on hb).a.on P3.out.below); obtain ⟨d0, d1, d2, d3, d4, d5, d6, d7, d8, d9⟩ := B3.out.facts; clear hb h1)
    | (go_at_call 6; (with_reducible refine (D4.out ((w3.alloc _).alloc _)).mono ?_); rintro E w4 ⟨z4, g4, y4, rfl, h1, hb⟩; have X4 := Lib.hid h1; have P4 := Lib.hid (Bx2.start w4 false z4 g4 y4); have B4 := Lib.hid ((B3.out.on hb).on P4.out.below); have Q4 := Lib.hid ((Q2.out.on hb).on P4.out.below); have Q5 := Lib.hid ((Q3.out.on hb).on P4.out.below); have Q6 := Lib.hid ((P3.out.on hb).a.on P4.out.below); obtain ⟨i0, i1, -, -⟩ := Q4.out.facts; obtain ⟨j0, j1, -, -⟩ := Q5.out.facts; have S1 : Hid (∀ W, Calls Tryd.prog 8 #[.agg #[.bool true, .float .f64 z1], .agg #[.bool true, .float .f64 z2]] W (RetBelow (.bool true) W)) := Lib.hid (fun W => (rcsame (true, z1) (true, z2) W X1.out.lt X2.out.lt).mono fun E w' h => by rw [fit_same X1.out X2.out] at h; exact h); have S2 : Hid (∀ W, Calls Tryd.prog 8 #[.agg #[.bool false, .float .f64 z3], .agg #[.bool false, .float .f64 z4]] W (RetBelow (.bool true) W)) := Lib.hid (fun W => (rcsame (false, z3) (false, z4) W X3.out.lt X4.out.lt).mono fun E w' h => by rw [fit_same X3.out X4.out] at h; exact h); have S3 : Hid (∀ W, Calls Tryd.prog 15 #[.float .f64 z1, .float .f64 v] W fun e w' => e = .returned (.bool true) ∧ W = w') := Lib.hid (fun W => (ref_same_any z1 v W X1.out.lt HV.out).mono fun E w' h => by rw [show same z1 v = true from decide_eq_true X1.out.val] at h; exact h); clear hb h1)
    | (go_at_call 8; (with_reducible refine (S1.out _).mono ?_); rintro E w5 ⟨rfl, hb⟩; have B5 := Lib.hid (B4.out.on hb); have Q7 := Lib.hid (Q4.out.on hb); have Q8 := Lib.hid (Q6.out.on hb); have Q9 := Lib.hid (P4.out.a.on hb); obtain ⟨k0, k1, -, -⟩ := Q7.out.facts; obtain ⟨l0, l1, -, -⟩ := Q8.out.facts; obtain ⟨m0, m1, -, -⟩ := Q9.out.facts; clear hb)
    | (go_at_call 15; (with_reducible refine (S3.out _).mono ?_); rintro E w6 ⟨rfl, rfl⟩)
    | (go_at_call 8; (with_reducible refine (S2.out _).mono ?_); rintro E w7 ⟨rfl, hb⟩; have B7 := Lib.hid (B5.out.on hb); have Q10 := Lib.hid (Q8.out.on hb); obtain ⟨n0, n1, -, -⟩ := Q10.out.facts; clear hb)
    | (go_at_call 13; (with_reducible refine (CP.out _ B7.out.below).mono ?_); rintro E w8 ⟨rfl, hb⟩; have B8 := Lib.hid (B7.out.on hb); clear hb))
  go_ret
  exact ⟨rfl, B8.out.below⟩
end Go.Proofs.YtobechecnkmpaaaDoor.Cel
