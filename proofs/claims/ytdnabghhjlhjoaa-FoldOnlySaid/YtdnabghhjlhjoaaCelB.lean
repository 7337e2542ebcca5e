/- What the document's Same, Plain and Text of cells (layer 12, cell) give. Conditions: words of 64 bits. -/
import Derived.Test.YtdnabghhjlhjoaaCelA
import Derived.Test.YtdnabghhjlhjoaaBatA
namespace Go.Proofs.Ytdnabghhjlhjoaa.Cel
open Go.RowKit F64 Cmd Bat
set_option linter.unusedVariables false
set_option linter.unusedSimpArgs false

/-! ### Folds -/
/-- What is there behind all of them. -/
def foldC (xs : List Cmdn) : Cell2 := xs.foldl (fun c x => (doC c x.1 x.2.1 x.2.2).1) (false, 0)
theorem fold_step {xs : List Cmdn} {k : Nat} (h : k < xs.length) {a : Int} {s : List UInt8} {x : Nat} (e : layC.at xs k = (a, s, x)) : foldC (xs.take (k + 1)) = (doC (foldC (xs.take k)) a s x).1 := by
  unfold foldC
  rw [layC.take h, List.foldl_append, e]; rfl
theorem Fit.step {f g : Bool} {z y : Nat} {c : Cell2} {k : Int} {s : List UInt8} {x : Nat} (h : Fit f z c) (hd : Fit g y (doC (f, z) k s x).1) : Fit g y (doC c k s x).1 := by
  have ha := (do_alike h.alike k s x).1
  exact ⟨hd.found.trans ha.found, hd.val.trans ha.val, hd.plain, hd.lt⟩
def GivesFold (c : Cell2) (w : World) (E : Ending) (w' : World) : Prop := ∃ (f : Bool) (z : Nat), E = .returned (.agg #[.bool f, .float .f64 z]) ∧ Fit f z c ∧ Below w.heap.size w w'
abbrev cellO (f : Bool) (z : Nat) : Obj := .cells #[.bool f, .float .f64 z] 30
/-- Two boxes. -/
structure Bx2 (w : World) (f : Bool) (z : Nat) (g : Bool) (y : Nat) (W : World) : Prop where
  below : Below w.heap.size w W
  a : Bx w.heap.size f z W
  b : Bx (w.heap.size + 1) g y W
theorem Bx2.start (w : World) (f : Bool) (z : Nat) (g : Bool) (y : Nat) : Bx2 w f z g y ((w.alloc (.cells #[.bool f, .float .f64 z] 30)).alloc (.cells #[.bool g, .float .f64 y] 30)) := by
  have b1 := Cmd.below_one w (cellO f z)
  refine ⟨b1.alloc (by simp only [World.size_alloc]; omega) _, (Bx.new w f z).alloc _, ?_⟩
  have h := Bx.new (w.alloc (cellO f z)) g y
  rw [show (w.alloc (cellO f z)).heap.size = w.heap.size + 1 by simp] at h
  exact h
theorem Bx2.on {w W W' : World} {f : Bool} {z : Nat} {g : Bool} {y : Nat} (h : Bx2 w f z g y W) (hb : Below W.heap.size W W') : Bx2 w f z g y W' := ⟨h.below.trans (hb.mono h.below.size), h.a.on hb, h.b.on hb⟩
theorem cell_result {fn : Func} {p : Tmp} (h : fn.results = #[.cell p 30]) (tmps : Array Value) {W : World} {b : Nat} {f : Bool} {z : Nat} (hp : tmps.getD p undef = .pointer (some ⟨b, 0, none⟩)) (c0 : W.cell? ⟨b, 0, none⟩ = some (.bool f)) (c1 : W.cell? ⟨b, 1, none⟩ = some (.float .f64 z)) :
    (results fn tmps).run Try.prog W = .ok (.agg #[.bool f, .float .f64 z]) W := by
  have hp' : tmps[p]?.getD undef = .pointer (some ⟨b, 0, none⟩) := by rw [← Array.getD_eq_getD_getElem?]; exact hp
  unfold results
  rw [h]
  simp [go_sem, hp', c0, c1, Sem.run_bind, Result.andThen]
/-- The second of two boxes is written. -/
theorem Bx2.put {w W : World} {f : Bool} {z : Nat} {g : Bool} {y : Nat} (h : Bx2 w f z g y W) (g' : Bool) (y' : Nat) : Bx2 w f z g' y' ((W.setCell ⟨w.heap.size + 1, 0, none⟩ (.bool g')).setCell ⟨w.heap.size + 1, 1, none⟩ (.float .f64 y')) :=
  ⟨(h.below.setCell (p := ⟨w.heap.size + 1, 0, none⟩) (Nat.le_succ _) _).setCell (p := ⟨w.heap.size + 1, 1, none⟩) (Nat.le_succ _) _, (h.a.far (c := w.heap.size + 1) (by omega) _ _).far (c := w.heap.size + 1) (by omega) _ _, h.b.put g' y'⟩
/-- A box of the call's own is written. -/
theorem boxed_put {w W : World} {f : Bool} {z : Nat} (hb : Below w.heap.size w W) (h : Bx w.heap.size f z W) (f' : Bool) (z' : Nat) : Below w.heap.size w ((W.setCell ⟨w.heap.size, 0, none⟩ (.bool f')).setCell ⟨w.heap.size, 1, none⟩ (.float .f64 z')) ∧ Bx w.heap.size f' z' ((W.setCell ⟨w.heap.size, 0, none⟩ (.bool f')).setCell ⟨w.heap.size, 1, none⟩ (.float .f64 z')) :=
  ⟨(hb.setCell (p := ⟨w.heap.size, 0, none⟩) (Nat.le_refl _) _).setCell (p := ⟨w.heap.size, 1, none⟩) (Nat.le_refl _) _, h.put f' z'⟩
/-- A cell's box, a command's. -/
structure Cx (w : World) (f : Bool) (z : Nat) (k : Int) (s : List UInt8) (x : Nat) (W : World) : Prop where
  below : Below w.heap.size w W
  c : Bx w.heap.size f z W
  x : W.heap[w.heap.size + 1]? = some (.cells #[.int .i64 k, .string (str s), .float .f64 x] 48 (0, 0))
theorem Cx.start (w : World) (f : Bool) (z : Nat) (k : Int) (s : List UInt8) (x : Nat) : Cx w f z k s x ((w.alloc (.cells #[.bool f, .float .f64 z] 30)).alloc (.cells #[.int .i64 k, .string (str s), .float .f64 x] 48)) := by
  refine ⟨(Cmd.below_one w _).alloc (by simp only [World.size_alloc]; omega) _, (Bx.new w f z).alloc _, ?_⟩
  have h := heap_alloc_new (w.alloc (.cells #[.bool f, .float .f64 z] 30)) (.cells #[.int .i64 k, .string (str s), .float .f64 x] 48)
  rw [show (w.alloc (.cells #[.bool f, .float .f64 z] 30)).heap.size = w.heap.size + 1 by simp] at h
  exact h
theorem Cx.on {w W W' : World} {f : Bool} {z : Nat} {k : Int} {s : List UInt8} {x : Nat} (h : Cx w f z k s x W) (hb : Below W.heap.size W W') : Cx w f z k s x W' :=
  ⟨h.below.trans (hb.mono h.below.size), h.c.on hb, (hb.block _ (Array.getElem?_eq_some_iff.1 h.x).1).trans h.x⟩
theorem Cx.facts {w W : World} {f : Bool} {z : Nat} {k : Int} {s : List UInt8} {x : Nat} (h : Cx w f z k s x W) : W.cell? ⟨w.heap.size, 0, none⟩ = some (.bool f) ∧ W.cell? ⟨w.heap.size, 1, none⟩ = some (.float .f64 z) ∧ W.cell? ⟨w.heap.size + 1, 0, none⟩ = some (.int .i64 k) ∧ W.cell? ⟨w.heap.size + 1, 1, none⟩ = some (.string (str s)) ∧ W.cell? ⟨w.heap.size + 1, 2, none⟩ = some (.float .f64 x) := by
  have hx := h.x
  exact ⟨h.c.facts.1, h.c.facts.2.1, by simp [World.cell?, hx], by simp [World.cell?, hx], by simp [World.cell?, hx]⟩
theorem same_parts (f : Bool) (z : Nat) (g : Bool) (y : Nat) : sameC (f, z) (g, y) = (f == g && (!f || same z y)) := rfl
set_option maxHeartbeats 4000000 in
set_option maxRecDepth 100000 in
theorem rcsame (a b : Cell2) (w : World) (ha : a.2 < 18446744073709551616) (hb : b.2 < 18446744073709551616) : Calls Try.prog 8 #[.agg #[.bool a.1, .float .f64 a.2], .agg #[.bool b.1, .float .f64 b.2]] w (RetBelow (.bool (sameC a b)) w) := by
  obtain ⟨f, z⟩ := a
  obtain ⟨g, y⟩ := b
  simp only [] at ha hb ⊢
  have CS := Lib.hid (fun W => ref_same_any z y W ha hb)
  have D0 := Lib.hid (Bx2.start w f z g y)
  rw [same_parts]
  generalize same z y = t at CS ⊢
  obtain ⟨a0, a1, -, -⟩ := D0.out.a.facts
  obtain ⟨b0, b1, -, -⟩ := D0.out.b.facts
  clear ha hb
  cases f <;> cases g
  all_goals
    go_enter Try.func8, Try.ntmps8
    go_wp2_with (go_at_call 21; (with_reducible refine (CS.out _).mono ?_); rintro E w1 ⟨rfl, rfl⟩)
    go_ret
    exact ⟨rfl, D0.out.below⟩
end Go.Proofs.Ytdnabghhjlhjoaa.Cel
