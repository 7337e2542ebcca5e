/- What the document's Same, Plain and Text of cells (layer 12, cell) give. Conditions: words of 64 bits. -/
import Derived.Test.YtobechecnkmpaaaDoorCelA
import Derived.Test.YtobechecnkmpaaaDoorBatA
namespace Go.Proofs.YtobechecnkmpaaaDoor.Cel
open Go.RowKit F64 Cmd Bat
set_option linter.unusedVariables false
set_option linter.unusedSimpArgs false

/-! ### Folds -/
/-- What is there behind all of them. -/
def foldC (xs : List Cmdn) : Cell2 := xs.foldl (fun c x => (doC c x.1 x.2.1 x.2.2).1) (false, 0)
theorem fold_step {xs : List Cmdn} {k : Nat} (h : k < xs.length) {a : Int} {s : List UInt8} {x : Nat} (e : layC.at xs k = (a, s, x)) : foldC (xs.take (k + 1)) = (doC (foldC (xs.take k)) a s x).1 := by
  unfold foldC
  rw [layC.take h, List.foldl_append, e]; rfl
theorem Fit.step {f g : Bool} {z y : Nat} {c : Cell2} {k : Int} {s : List UInt8} {x : Nat} (h : Fit f z c) (hd : Fit g y (doC (f, z) k s x).1) : Fit g y (doC c k s x).1 := by
  have ha := (do_alike h.alike k s x).1
  exact ⟨hd.found.trans ha.found, hd.val.trans ha.val, hd.plain, hd.lt⟩
def GivesFold (c : Cell2) (w : World) (E : Ending) (w' : World) : Prop := ∃ (f : Bool) (z : Nat), E = .returned (.agg #[.bool f, .float .f64 z]) ∧ Fit f z c ∧ Below w.heap.size w w'
abbrev cellO (f : Bool) (z : Nat) : Obj := .cells #[.bool f, .float .f64 z] 24
/-- Two boxes. -/
structure Bx2 (w : World) (f : Bool) (z : Nat) (g : Bool) (y : Nat) (W : World) : Prop where
  below : Below w.heap.size w W
  a : Bx w.heap.size f z W
  b : Bx (w.heap.size + 1) g y W
theorem Bx2.start (w : World) (f : Bool) (z : Nat) (g : Bool) (y : Nat) : Bx2 w f z g y ((w.alloc (.cells #[.bool f, .float .f64 z] 24)).alloc (.cells #[.bool g, .float .f64 y] 24)) := by
  have b1 := Cmd.below_one w (cellO f z)
  refine ⟨b1.alloc (by simp only [World.size_alloc]; omega) _, (Bx.new w f z).alloc _, ?_⟩
  have h := Bx.new (w.alloc (cellO f z)) g y
  rw [show (w.alloc (cellO f z)).heap.size = w.heap.size + 1 by simp] at h
  exact h
theorem Bx2.on {w W W' : World} {f : Bool} {z : Nat} {g : Bool} {y : Nat} (h : Bx2 w f z g y W) (hb : Below W.heap.size W W') : Bx2 w f z g y W' := ⟨h.below.trans (hb.mono h.below.size), h.a.on hb, h.b.on hb⟩
/-- A cell's box, a command's. -/
structure Cx (w : World) (f : Bool) (z : Nat) (k : Int) (s : List UInt8) (x : Nat) (W : World) : Prop where
  below : Below w.heap.size w W
  c : Bx w.heap.size f z W
  x : W.heap[w.heap.size + 1]? = some (.cells #[.int .i64 k, .string (str s), .float .f64 x] 26 (0, 0))
theorem Cx.start (w : World) (f : Bool) (z : Nat) (k : Int) (s : List UInt8) (x : Nat) : Cx w f z k s x ((w.alloc (.cells #[.bool f, .float .f64 z] 24)).alloc (.cells #[.int .i64 k, .string (str s), .float .f64 x] 26)) := by
  refine ⟨(Cmd.below_one w _).alloc (by simp only [World.size_alloc]; omega) _, (Bx.new w f z).alloc _, ?_⟩
  have h := heap_alloc_new (w.alloc (.cells #[.bool f, .float .f64 z] 24)) (.cells #[.int .i64 k, .string (str s), .float .f64 x] 26)
  rw [show (w.alloc (.cells #[.bool f, .float .f64 z] 24)).heap.size = w.heap.size + 1 by simp] at h
  exact h
theorem Cx.on {w W W' : World} {f : Bool} {z : Nat} {k : Int} {s : List UInt8} {x : Nat} (h : Cx w f z k s x W) (hb : Below W.heap.size W W') : Cx w f z k s x W' :=
  ⟨h.below.trans (hb.mono h.below.size), h.c.on hb, (hb.block _ (Array.getElem?_eq_some_iff.1 h.x).1).trans h.x⟩
theorem Cx.facts {w W : World} {f : Bool} {z : Nat} {k : Int} {s : List UInt8} {x : Nat} (h : Cx w f z k s x W) : W.cell? ⟨w.heap.size, 0, none⟩ = some (.bool f) ∧ W.cell? ⟨w.heap.size, 1, none⟩ = some (.float .f64 z) ∧ W.cell? ⟨w.heap.size + 1, 0, none⟩ = some (.int .i64 k) ∧ W.cell? ⟨w.heap.size + 1, 1, none⟩ = some (.string (str s)) ∧ W.cell? ⟨w.heap.size + 1, 2, none⟩ = some (.float .f64 x) := by
  have hx := h.x
  exact ⟨h.c.facts.1, h.c.facts.2.1, by simp [World.cell?, hx], by simp [World.cell?, hx], by simp [World.cell?, hx]⟩
theorem same_parts (f : Bool) (z : Nat) (g : Bool) (y : Nat) : sameC (f, z) (g, y) = (f == g && (!f || same z y)) := rfl
set_option maxHeartbeats 4000000 in
set_option maxRecDepth 100000 in
theorem rcsame (a b : Cell2) (w : World) (ha : a.2 < 18446744073709551616) (hb : b.2 < 18446744073709551616) : Calls Tryd.prog 8 #[.agg #[.bool a.1, .float .f64 a.2], .agg #[.bool b.1, .float .f64 b.2]] w (RetBelow (.bool (sameC a b)) w) := by
  obtain ⟨f, z⟩ := a
  obtain ⟨g, y⟩ := b
  simp only [] at ha hb ⊢
  have CS := Lib.hid (fun W => ref_same_any z y W ha hb)
  have D0 := Lib.hid (Bx2.start w f z g y)
  rw [same_parts]
  generalize same z y = t at CS ⊢
  obtain ⟨a0, a1, -, -⟩ := D0.out.a.facts
  obtain ⟨b0, b1, -, -⟩ := D0.out.b.facts
  clear ha hb
  cases f <;> cases g
  all_goals
    go_enter Tryd.func8, Tryd.ntmps8
    go_wp2_with (go_at_call 15; (with_reducible refine (CS.out _).mono ?_); rintro E w1 ⟨rfl, rfl⟩)
    go_ret
    exact ⟨rfl, D0.out.below⟩
set_option maxHeartbeats 4000000 in
set_option maxRecDepth 100000 in
theorem rcplain (f : Bool) (z : Nat) (w : World) (hz : z < 18446744073709551616) (hp : f = false → z = 0) : Calls Tryd.prog 9 #[.agg #[.bool f, .float .f64 z]] w (RetBelow (.bool true) w) := by
  have D0 := Lib.hid (Cmd.below_one w (cellO f z))
  unfold cellO at D0
  cases f with
  | true =>
    go_enter Tryd.func9, Tryd.ntmps9
    go_wp2_with fail
    go_ret
    exact ⟨rfl, D0.out⟩
  | false =>
    obtain rfl := hp rfl
    have CK := Lib.hid (fun W => ref_kind_any 0 W hz)
    rw [show kind 0 = 4 by decide] at CK
    go_enter Tryd.func9, Tryd.ntmps9
    go_wp2_with (go_at_call 21; (with_reducible refine (CK.out _).mono ?_); rintro E w1 ⟨rfl, rfl⟩)
    go_ret
    exact ⟨rfl, D0.out⟩
set_option maxHeartbeats 4000000 in
set_option maxRecDepth 100000 in
theorem rctext (c : Cell2) (w : World) (hc : c.2 < 18446744073709551616) : Calls Tryd.prog 12 #[.agg #[.bool c.1, .float .f64 c.2]] w (RetBelow (.string (str (textC c))) w) := by
  obtain ⟨f, z⟩ := c
  simp only [] at hc ⊢
  have D0 := Lib.hid (Cmd.below_one w (cellO f z))
  unfold cellO at D0
  cases f with
  | false =>
    clear hc
    go_enter Tryd.func12, Tryd.ntmps12
    go_wp2_with fail
    go_ret
    exact ⟨rfl, D0.out⟩
  | true =>
    have CT : Hid (∀ W, Calls Tryd.prog 24 #[.float .f64 z] W (RetBelow (.string (str (text z))) W)) := Lib.hid fun W => (reft_any z W hc).mono fun E w' ⟨h1, q, h2⟩ => ⟨h1, by rw [h2]; exact Go.Joins.below_draws _ _ _⟩
    have HE : Hid (textC (true, z) = text z) := Lib.hid rfl
    rw [HE.out]
    clear hc HE
    go_enter Tryd.func12, Tryd.ntmps12
    go_wp2_with (go_at_call 24; (with_reducible refine (CT.out _).mono ?_); rintro E w1 ⟨rfl, hb⟩; have D1 := Lib.hid (D0.out.trans (hb.mono D0.out.size)); clear hb)
    go_ret
    exact ⟨rfl, D1.out⟩
end Go.Proofs.YtobechecnkmpaaaDoor.Cel
