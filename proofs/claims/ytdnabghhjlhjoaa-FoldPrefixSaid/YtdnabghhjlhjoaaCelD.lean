/- What the program's Do, Same, Text and Fold (layer 12, cell) give. Conditions: words of 64 bits; texts of a length that Go reads; Text: the library's tables as they are laid; Fold: the list lies in memory as its cells say. (Written by tools/gen_celd.py.) -/
import Derived.Test.YtdnabghhjlhjoaaCelB
namespace Go.Proofs.Ytdnabghhjlhjoaa.Cel
open Go.RowKit F64 Cmd Bat
set_option linter.unusedVariables false
set_option linter.unusedSimpArgs false

def cv (c : Cell2) : Value := .agg #[.bool c.1, .float .f64 c.2]
theorem dadd_any (a b : Nat) (w : World) : Calls Try.prog 52 #[.float .f64 a, .float .f64 b] w (RetBelow (.float .f64 (sumc a b)) w) := by
  unfold sumc
  cases hs : floatBits .add .f64 a b with
  | some r => exact (add_some a b r w hs).mono fun E w' h => ⟨h.1, by rw [← h.2]; exact Below.refl _ _⟩
  | none => exact (add_none a b w hs).mono fun E w' h => ⟨h.1, by rw [h.2]; exact (Below.refl _ _).drew⟩
set_option maxHeartbeats 4000000 in
set_option maxRecDepth 100000 in
theorem number_any (x : Nat) (w : World) : Calls Try.prog 51 #[.float .f64 x] w (RetBelow (.agg #[.bool true, .float .f64 (canon x)]) w) := by
  have CC := Lib.hid (fun W => canon_any x W)
  have B0 := Lib.hid (Cmd.below_one w (cellO false 0))
  have X0 := Lib.hid (Bx.new w false 0)
  unfold cellO at B0
  obtain ⟨a0, a1, a2, a3⟩ := X0.out.facts
  go_enter Try.func51, Try.ntmps51
  go_wp2_with (go_at_call 55; (with_reducible refine (CC.out _).mono ?_); rintro E w1 ⟨rfl, rfl⟩)
  obtain ⟨c0, c1, -, -⟩ := (Bx.new w true (canon x)).facts
  exact bodyPost_ret (cell_result rfl _ rfl c0 c1) rfl ⟨rfl, Cmd.below_one w (cellO true (canon x))⟩
/-- What is there, in its one form. -/
def thc (c : Cell2) : Cell2 := if c.1 then (true, canon c.2) else (false, 0)
set_option maxHeartbeats 4000000 in
set_option maxRecDepth 100000 in
theorem there_any (c : Cell2) (w : World) : Calls Try.prog 45 #[.agg #[.bool c.1, .float .f64 c.2]] w (RetBelow (cv (thc c)) w) := by
  obtain ⟨f, z⟩ := c
  have D0 := Lib.hid (Bx2.start w f z false 0)
  obtain ⟨a0, a1, a2, a3⟩ := D0.out.a.facts
  obtain ⟨b0, b1, b2, b3⟩ := D0.out.b.facts
  have CN := Lib.hid (fun W => number_any z W)
  cases f with
  | false =>
    go_enter Try.func45, Try.ntmps45
    go_wp2_with fail
    exact bodyPost_ret (cell_result rfl _ rfl b0 b1) rfl ⟨rfl, D0.out.below⟩
  | true =>
    go_enter Try.func45, Try.ntmps45
    go_wp2_with (go_at_call 51; (with_reducible refine (CN.out _).mono ?_); rintro E w1 ⟨rfl, hb⟩; have D1 := Lib.hid (D0.out.on hb); obtain ⟨d0, d1, d2, d3⟩ := D1.out.b.facts; clear hb)
    have D2 := D1.out.put true (canon z)
    obtain ⟨c0, c1, -, -⟩ := D2.b.facts
    exact bodyPost_ret (cell_result rfl _ rfl c0 c1) rfl ⟨rfl, D2.below⟩

/-! ### What tells and behind give -/
/-- A box of the call's own, at g. -/
structure Ob (w : World) (g : Nat) (f : Bool) (z : Nat) (W : World) : Prop where
  below : Below w.heap.size w W
  own : w.heap.size ≤ g
  box : Bx g f z W
theorem Ob.new {w W : World} (hb : Below w.heap.size w W) (f : Bool) (z : Nat) : Ob w W.heap.size f z (W.alloc (.cells #[.bool f, .float .f64 z] 30)) := ⟨hb.alloc hb.size _, hb.size, Bx.new W f z⟩
theorem Ob.on {w W W' : World} {g : Nat} {f : Bool} {z : Nat} (h : Ob w g f z W) (hb : Below W.heap.size W W') : Ob w g f z W' := ⟨h.below.trans (hb.mono h.below.size), h.own, h.box.on hb⟩
theorem Ob.put {w W : World} {g : Nat} {f : Bool} {z : Nat} (h : Ob w g f z W) (f' : Bool) (z' : Nat) : Ob w g f' z' ((W.setCell ⟨g, 0, none⟩ (.bool f')).setCell ⟨g, 1, none⟩ (.float .f64 z')) :=
  ⟨(h.below.setCell (p := ⟨g, 0, none⟩) h.own _).setCell (p := ⟨g, 1, none⟩) h.own _, h.own, h.box.put f' z'⟩
theorem size_two (w : World) (o p : Obj) : ((w.alloc o).alloc p).heap.size = w.heap.size + 1 + 1 := by simp
def tlc (k : Int) (a b : Cell2) : Cell2 := if k = 1 ∨ k = 2 ∨ k = 3 then a else b
set_option maxHeartbeats 4000000 in
set_option maxRecDepth 100000 in
theorem tells_first (k : Int) (hk : k = 1 ∨ k = 2 ∨ k = 3) (f : Bool) (z : Nat) (g : Bool) (y : Nat) (w : World) : Calls Try.prog 47 #[.int .i64 k, .agg #[.bool f, .float .f64 z], .agg #[.bool g, .float .f64 y]] w (RetBelow (.agg #[.bool f, .float .f64 z]) w) := by
  have D0 := Lib.hid (Bx2.start w f z g y)
  have O0 := Lib.hid (Ob.new D0.out.below false 0)
  have A0 := Lib.hid (D0.out.a.on (Cmd.below_one _ (.cells #[.bool false, .float .f64 0] 30)))
  have B0 := Lib.hid (D0.out.b.on (Cmd.below_one _ (.cells #[.bool false, .float .f64 0] 30)))
  rw [size_two] at O0
  obtain ⟨a0, a1, a2, a3⟩ := A0.out.facts
  obtain ⟨b0, b1, b2, b3⟩ := B0.out.facts
  obtain ⟨c0, c1, c2, c3⟩ := O0.out.box.facts
  have P := Lib.hid (Ob.new D0.out.below f z)
  rw [size_two] at P
  rcases hk with rfl | rfl | rfl
  all_goals
    go_enter Try.func47, Try.ntmps47
    go_wp2_with fail
    obtain ⟨d0, d1, -, -⟩ := P.out.box.facts
    exact bodyPost_ret (cell_result rfl _ rfl d0 d1) rfl ⟨rfl, P.out.below⟩
set_option maxHeartbeats 4000000 in
set_option maxRecDepth 100000 in
theorem tells_last (k : Int) (hk : ¬ (k = 1 ∨ k = 2 ∨ k = 3)) (f : Bool) (z : Nat) (g : Bool) (y : Nat) (w : World) : Calls Try.prog 47 #[.int .i64 k, .agg #[.bool f, .float .f64 z], .agg #[.bool g, .float .f64 y]] w (RetBelow (.agg #[.bool g, .float .f64 y]) w) := by
  have D0 := Lib.hid (Bx2.start w f z g y)
  have O0 := Lib.hid (Ob.new D0.out.below false 0)
  have A0 := Lib.hid (D0.out.a.on (Cmd.below_one _ (.cells #[.bool false, .float .f64 0] 30)))
  have B0 := Lib.hid (D0.out.b.on (Cmd.below_one _ (.cells #[.bool false, .float .f64 0] 30)))
  rw [size_two] at O0
  obtain ⟨a0, a1, a2, a3⟩ := A0.out.facts
  obtain ⟨b0, b1, b2, b3⟩ := B0.out.facts
  obtain ⟨c0, c1, c2, c3⟩ := O0.out.box.facts
  have P := Lib.hid (Ob.new D0.out.below g y)
  rw [size_two] at P
  have k1 : (k == 1) = false := beq_eq_false_iff_ne.2 (by omega)
  have k2 : (k == 2) = false := beq_eq_false_iff_ne.2 (by omega)
  have k3 : (k == 3) = false := beq_eq_false_iff_ne.2 (by omega)
  clear hk
  go_enter Try.func47, Try.ntmps47
  go_wp2_with fail
  obtain ⟨d0, d1, -, -⟩ := P.out.box.facts
  exact bodyPost_ret (cell_result rfl _ rfl d0 d1) rfl ⟨rfl, P.out.below⟩
theorem tells_any (k : Int) (a b : Cell2) (w : World) : Calls Try.prog 47 #[.int .i64 k, cv a, cv b] w (RetBelow (cv (tlc k a b)) w) := by
  unfold tlc
  split
  · rename_i h; exact tells_first k h a.1 a.2 b.1 b.2 w
  · rename_i h; exact tells_last k h a.1 a.2 b.1 b.2 w
def bhc (c : Cell2) (k : Int) (x : Nat) : Cell2 := if k = 2 then (true, canon x) else if k = 3 then (false, 0) else if k = 4 then (true, canon (sumc c.2 x)) else c
/-- What behind and its like find: a cell's box, a command's, the result's. -/
theorem three (w : World) (f : Bool) (z : Nat) (k : Int) (s : List UInt8) (x : Nat) (g : Bool) (y : Nat) : Cx w f z k s x (((w.alloc (.cells #[.bool f, .float .f64 z] 30)).alloc (.cells #[.int .i64 k, .string (str s), .float .f64 x] 48)).alloc (.cells #[.bool g, .float .f64 y] 30)) ∧ Ob w (w.heap.size + 1 + 1) g y (((w.alloc (.cells #[.bool f, .float .f64 z] 30)).alloc (.cells #[.int .i64 k, .string (str s), .float .f64 x] 48)).alloc (.cells #[.bool g, .float .f64 y] 30)) := by
  have C := Cx.start w f z k s x
  have O := Ob.new C.below g y
  rw [size_two] at O
  exact ⟨C.on (Cmd.below_one _ _), O⟩
set_option maxHeartbeats 4000000 in
set_option maxRecDepth 100000 in
theorem behind_put (f : Bool) (z : Nat) (s : List UInt8) (x : Nat) (w : World) : Calls Try.prog 46 #[.agg #[.bool f, .float .f64 z], .agg #[.int .i64 2, .string (str s), .float .f64 x]] w (RetBelow (cv (true, canon x)) w) := by
  have C0 := Lib.hid (three w f z 2 s x false 0).1
  have O0 := Lib.hid (three w f z 2 s x false 0).2
  obtain ⟨a0, a1, a2, a3, a4⟩ := C0.out.facts
  obtain ⟨b0, b1, b2, b3⟩ := O0.out.box.facts
  have CN := Lib.hid (fun W => number_any x W)
  have CA := Lib.hid (fun W => dadd_any z x W)
  have CM := Lib.hid (fun W => number_any (sumc z x) W)
  go_enter Try.func46, Try.ntmps46
  go_wp2_with (go_at_call 51; (with_reducible refine (CN.out _).mono ?_); rintro E w1 ⟨rfl, hb⟩; have O1 := Lib.hid (O0.out.on hb); obtain ⟨o0, o1, o2, o3⟩ := O1.out.box.facts; clear hb)
  have P := O1.out.put true (canon x)
  obtain ⟨d0, d1, -, -⟩ := P.box.facts
  exact bodyPost_ret (cell_result rfl _ rfl d0 d1) rfl ⟨rfl, P.below⟩
set_option maxHeartbeats 4000000 in
set_option maxRecDepth 100000 in
theorem behind_del (f : Bool) (z : Nat) (s : List UInt8) (x : Nat) (w : World) : Calls Try.prog 46 #[.agg #[.bool f, .float .f64 z], .agg #[.int .i64 3, .string (str s), .float .f64 x]] w (RetBelow (cv (false, 0)) w) := by
  have C0 := Lib.hid (three w f z 3 s x false 0).1
  have O0 := Lib.hid (three w f z 3 s x false 0).2
  obtain ⟨a0, a1, a2, a3, a4⟩ := C0.out.facts
  obtain ⟨b0, b1, b2, b3⟩ := O0.out.box.facts
  have CN := Lib.hid (fun W => number_any x W)
  have CA := Lib.hid (fun W => dadd_any z x W)
  have CM := Lib.hid (fun W => number_any (sumc z x) W)
  go_enter Try.func46, Try.ntmps46
  go_wp2_with fail
  have P := (three w f z 3 s x false 0).2
  obtain ⟨d0, d1, -, -⟩ := P.box.facts
  exact bodyPost_ret (cell_result rfl _ rfl d0 d1) rfl ⟨rfl, P.below⟩
set_option maxHeartbeats 4000000 in
set_option maxRecDepth 100000 in
theorem behind_add (f : Bool) (z : Nat) (s : List UInt8) (x : Nat) (w : World) : Calls Try.prog 46 #[.agg #[.bool f, .float .f64 z], .agg #[.int .i64 4, .string (str s), .float .f64 x]] w (RetBelow (cv (true, canon (sumc z x))) w) := by
  have C0 := Lib.hid (three w f z 4 s x false 0).1
  have O0 := Lib.hid (three w f z 4 s x false 0).2
  obtain ⟨a0, a1, a2, a3, a4⟩ := C0.out.facts
  obtain ⟨b0, b1, b2, b3⟩ := O0.out.box.facts
  have CN := Lib.hid (fun W => number_any x W)
  have CA := Lib.hid (fun W => dadd_any z x W)
  have CM := Lib.hid (fun W => number_any (sumc z x) W)
  go_enter Try.func46, Try.ntmps46
  go_wp2_with (first | (go_at_call 52; (with_reducible refine (CA.out _).mono ?_); rintro E w1 ⟨rfl, hb⟩; have O1 := Lib.hid (O0.out.on hb); obtain ⟨o0, o1, o2, o3⟩ := O1.out.box.facts; clear hb) | (go_at_call 51; (with_reducible refine (CM.out _).mono ?_); rintro E w2 ⟨rfl, hb⟩; have O2 := Lib.hid (O1.out.on hb); obtain ⟨q0, q1, q2, q3⟩ := O2.out.box.facts; clear hb))
  have P := O2.out.put true (canon (sumc z x))
  obtain ⟨d0, d1, -, -⟩ := P.box.facts
  exact bodyPost_ret (cell_result rfl _ rfl d0 d1) rfl ⟨rfl, P.below⟩
set_option maxHeartbeats 4000000 in
set_option maxRecDepth 100000 in
theorem behind_none (f : Bool) (z : Nat) (k : Int) (h2 : k ≠ 2) (h3 : k ≠ 3) (h4 : k ≠ 4) (s : List UInt8) (x : Nat) (w : World) : Calls Try.prog 46 #[.agg #[.bool f, .float .f64 z], .agg #[.int .i64 k, .string (str s), .float .f64 x]] w (RetBelow (cv (f, z)) w) := by
  have C0 := Lib.hid (three w f z k s x false 0).1
  have O0 := Lib.hid (three w f z k s x false 0).2
  obtain ⟨a0, a1, a2, a3, a4⟩ := C0.out.facts
  obtain ⟨b0, b1, b2, b3⟩ := O0.out.box.facts
  have CN := Lib.hid (fun W => number_any x W)
  have CA := Lib.hid (fun W => dadd_any z x W)
  have CM := Lib.hid (fun W => number_any (sumc z x) W)
  have k2 : (k == 2) = false := beq_eq_false_iff_ne.2 h2
  have k3 : (k == 3) = false := beq_eq_false_iff_ne.2 h3
  have k4 : (k == 4) = false := beq_eq_false_iff_ne.2 h4
  clear h2 h3 h4
  go_enter Try.func46, Try.ntmps46
  go_wp2_with fail
  have P := (three w f z k s x f z).2
  obtain ⟨d0, d1, -, -⟩ := P.box.facts
  exact bodyPost_ret (cell_result rfl _ rfl d0 d1) rfl ⟨rfl, P.below⟩
theorem behind_any (c : Cell2) (k : Int) (s : List UInt8) (x : Nat) (w : World) : Calls Try.prog 46 #[cv c, .agg #[.int .i64 k, .string (str s), .float .f64 x]] w (RetBelow (cv (bhc c k x)) w) := by
  unfold bhc
  split
  · rename_i h; subst h; exact behind_put c.1 c.2 s x w
  · rename_i h2
    split
    · rename_i h; subst h; exact behind_del c.1 c.2 s x w
    · rename_i h3
      split
      · rename_i h; subst h; exact behind_add c.1 c.2 s x w
      · rename_i h4; exact behind_none c.1 c.2 k h2 h3 h4 s x w

/-! ### Do -/
/-- A command's box, two cells' boxes. -/
structure Hx (c a b : Nat) (k : Int) (s : List UInt8) (x : Nat) (f : Bool) (z : Nat) (g : Bool) (y : Nat) (W : World) : Prop where
  x : W.heap[c]? = some (.cells #[.int .i64 k, .string (str s), .float .f64 x] 48 (0, 0))
  a : Bx a f z W
  b : Bx b g y W
section
variable {c a b : Nat} {k : Int} {s : List UInt8} {x : Nat} {f : Bool} {z : Nat} {g : Bool} {y : Nat} {W : World}
theorem Hx.drewn (h : Hx c a b k s x f z g y W) : Hx c a b k s x f z g y W.drew := ⟨(drew_block W _).trans h.x, h.a.drewn, h.b.drewn⟩
theorem Hx.on (h : Hx c a b k s x f z g y W) {W' : World} (hb : Below W.heap.size W W') : Hx c a b k s x f z g y W' := ⟨(hb.block _ (Array.getElem?_eq_some_iff.1 h.x).1).trans h.x, h.a.on hb, h.b.on hb⟩
theorem Hx.far (h : Hx c a b k s x f z g y W) {p : Nat} (h1 : c ≠ p) (h2 : a ≠ p) (h3 : b ≠ p) (f' : Bool) (z' : Nat) : Hx c a b k s x f z g y ((W.setCell ⟨p, 0, none⟩ (.bool f')).setCell ⟨p, 1, none⟩ (.float .f64 z')) :=
  ⟨(Below.heap_setCell _ ⟨p, 1, none⟩ _ _ h1).trans ((Below.heap_setCell W ⟨p, 0, none⟩ _ _ h1).trans h.x), (h.a.far h2 _ _).far h2 _ _, (h.b.far h3 _ _).far h3 _ _⟩
theorem Hx.facts (h : Hx c a b k s x f z g y W) : W.cell? ⟨c, 0, none⟩ = some (.int .i64 k) ∧ W.cell? ⟨a, 0, none⟩ = some (.bool f) ∧ W.cell? ⟨a, 1, none⟩ = some (.float .f64 z) ∧ W.cell? ⟨b, 0, none⟩ = some (.bool g) ∧ W.cell? ⟨b, 1, none⟩ = some (.float .f64 y) := by
  have hx := h.x
  exact ⟨by simp [World.cell?, hx], h.a.facts.1, h.a.facts.2.1, h.b.facts.1, h.b.facts.2.1⟩
end
set_option maxHeartbeats 4000000 in
set_option maxRecDepth 100000 in
theorem ddo_wrong (f0 : Bool) (z0 : Nat) (f : Bool) (z : Nat) (k : Int) (s : List UInt8) (x : Nat) (w : World) (e : Int) (he : (e == 0) = false)
    (CT : ∀ W, Calls Try.prog 45 #[.agg #[.bool f0, .float .f64 z0]] W (RetBelow (.agg #[.bool f, .float .f64 z]) W))
    (CK : ∀ W, Calls Try.prog 38 #[.agg #[.int .i64 k, .string (str s), .float .f64 x]] W (RetBelow (.int .i64 e) W)) :
    Calls Try.prog 39 #[.agg #[.bool f0, .float .f64 z0], .agg #[.int .i64 k, .string (str s), .float .f64 x]] w (RetBelow (.tuple #[.agg #[.bool f, .float .f64 z], .agg #[.bool false, .float .f64 0]]) w) := by
  have C1 := Lib.hid CT
  have C2 := Lib.hid CK
  have D0 := Lib.hid (Dw.start w f0 z0 k s x)
  unfold four at D0
  obtain ⟨a0, a1, a2, a3, a4, a5, a6, a7, a8, a9, a10, a11, a12, a13, a14⟩ := D0.out.facts
  clear CT CK
  go_enter Try.func39, Try.ntmps39
  go_wp2_with (first
    | (go_at_call 45; (with_reducible refine (C1.out _).mono ?_); rintro E w1 ⟨rfl, hb⟩; have X1 := Lib.hid (Bx.new w1 f z); have D1 := Lib.hid ((D0.out.on hb).alloc (.cells #[.bool f, .float .f64 z] 30)); obtain ⟨x0, x1, x2, x3⟩ := X1.out.facts; obtain ⟨b0, b1, b2, b3, b4, b5, b6, b7, b8, b9, b10, b11, b12, b13, b14⟩ := D1.out.facts; clear hb)
    | (go_at_call 38; (with_reducible refine (C2.out _).mono ?_); rintro E w2 ⟨rfl, hb⟩; have X2 := Lib.hid (X1.out.on hb); have D2 := Lib.hid (D1.out.on hb); obtain ⟨y0, y1, y2, y3⟩ := X2.out.facts; obtain ⟨c0, c1, c2, c3, c4, c5, c6, c7, c8, c9, c10, c11, c12, c13, c14⟩ := D2.out.facts; clear hb))
  obtain ⟨Z1, Z2, Z3⟩ := D2.out.fin1 f false z 0
  obtain ⟨m0, m1, -, -⟩ := Z1.facts
  obtain ⟨n0, n1, -, -⟩ := Z2.facts
  exact bodyPost_ret (do_result rfl _ rfl rfl m0 m1 n0 n1) rfl ⟨rfl, Z3⟩
set_option maxHeartbeats 4000000 in
set_option maxRecDepth 100000 in
theorem ddo_right (f0 : Bool) (z0 : Nat) (f : Bool) (z : Nat) (g : Bool) (y : Nat) (h : Bool) (u : Nat) (k : Int) (s : List UInt8) (x : Nat) (w : World)
    (CT : ∀ W, Calls Try.prog 45 #[.agg #[.bool f0, .float .f64 z0]] W (RetBelow (.agg #[.bool f, .float .f64 z]) W))
    (CK : ∀ W, Calls Try.prog 38 #[.agg #[.int .i64 k, .string (str s), .float .f64 x]] W (RetBelow (.int .i64 0) W))
    (CB : ∀ W, Calls Try.prog 46 #[.agg #[.bool f, .float .f64 z], .agg #[.int .i64 k, .string (str s), .float .f64 x]] W (RetBelow (.agg #[.bool g, .float .f64 y]) W))
    (CL : ∀ W, Calls Try.prog 47 #[.int .i64 k, .agg #[.bool f, .float .f64 z], .agg #[.bool g, .float .f64 y]] W (RetBelow (.agg #[.bool h, .float .f64 u]) W)) :
    Calls Try.prog 39 #[.agg #[.bool f0, .float .f64 z0], .agg #[.int .i64 k, .string (str s), .float .f64 x]] w (RetBelow (.tuple #[.agg #[.bool g, .float .f64 y], .agg #[.bool h, .float .f64 u]]) w) := by
  have C1 := Lib.hid CT
  have C2 := Lib.hid CK
  have C3 := Lib.hid CB
  have C4 := Lib.hid CL
  have D0 := Lib.hid (Dw.start w f0 z0 k s x)
  unfold four at D0
  obtain ⟨a0, a1, a2, a3, a4, a5, a6, a7, a8, a9, a10, a11, a12, a13, a14⟩ := D0.out.facts
  clear CT CK CB CL
  go_enter Try.func39, Try.ntmps39
  go_wp2_with (first
    | (go_at_call 45; (with_reducible refine (C1.out _).mono ?_); rintro E w1 ⟨rfl, hb⟩; have L1 := Lib.hid (D0.out.on hb).lt; have X1 := Lib.hid (Bx.new w1 f z); have D1 := Lib.hid ((D0.out.on hb).alloc (.cells #[.bool f, .float .f64 z] 30)); obtain ⟨x0, x1, x2, x3⟩ := X1.out.facts; obtain ⟨b0, b1, b2, b3, b4, b5, b6, b7, b8, b9, b10, b11, b12, b13, b14⟩ := D1.out.facts; clear hb)
    | (go_at_call 38; (with_reducible refine (C2.out _).mono ?_); rintro E w2 ⟨rfl, hb⟩; have X2 := Lib.hid (X1.out.on hb); have D2 := Lib.hid (D1.out.on hb); obtain ⟨y0, y1, y2, y3⟩ := X2.out.facts; obtain ⟨c0, c1, c2, c3, c4, c5, c6, c7, c8, c9, c10, c11, c12, c13, c14⟩ := D2.out.facts; clear hb)
    | (go_at_call 46; (with_reducible refine (C3.out _).mono ?_); rintro E w3 ⟨rfl, hb⟩; have L3 := Lib.hid (D2.out.on hb).lt; have Y3 := Lib.hid (Bx.new w3 g y); have X3 := Lib.hid ((X2.out.on hb).alloc (.cells #[.bool g, .float .f64 y] 30)); have D3 := Lib.hid ((D2.out.on hb).alloc (.cells #[.bool g, .float .f64 y] 30)); obtain ⟨z0, z1, z2, z3⟩ := Y3.out.facts; obtain ⟨d0, d1, d2, d3, d4, d5, d6, d7, d8, d9, d10, d11, d12, d13, d14⟩ := D3.out.facts; clear hb))
  have H3 := Lib.hid (Hx.mk (s := s) (x := x) D3.out.x X3.out Y3.out)
  have H4 := Lib.hid H3.out.drewn
  have H4f := Lib.hid H4.out.facts
  have L1' := L1.out
  have L3' := L3.out
  have D4 := Lib.hid D3.out.drewn
  refine wp_region_held_drew (S := (fun w' => w'.cell? ⟨w.heap.size + 1, 0, none⟩ = some (.int .i64 k) ∧ w'.cell? ⟨w1.heap.size, 0, none⟩ = some (.bool f) ∧ w'.cell? ⟨w1.heap.size, 1, none⟩ = some (.float .f64 z) ∧ w'.cell? ⟨w3.heap.size, 0, none⟩ = some (.bool g) ∧ w'.cell? ⟨w3.heap.size, 1, none⟩ = some (.float .f64 y))) (by kernel_rfl) H4f.out (fun hHeld => ?_)
  refine wpAnyH_take (i := 0) (v := ?_) rfl (by kernel_rfl) (by kernel_rfl) (by kernel_rfl) (fun _ _ _ h => h) (Or.inl ⟨by rfl, fun w hSw => ?_⟩) (by assumption) ?_
  rotate_left
  · (try dsimp only at hSw); go_simp; (try with_reducible rfl)
  try simp only [List.getElem_toArray, List.getElem_cons_succ, List.getElem_cons_zero, Act.put, List.setIfInBounds_toArray, List.set_cons_zero, List.set_cons_succ]
  refine wpAnyH_take (i := 1) (v := ?_) rfl (by kernel_rfl) (by kernel_rfl) (by kernel_rfl) (fun _ _ _ h => h) (Or.inl ⟨by rfl, fun w hSw => ?_⟩) (by assumption) ?_
  rotate_left
  · (try dsimp only at hSw); go_simp; (try with_reducible rfl)
  try simp only [List.getElem_toArray, List.getElem_cons_succ, List.getElem_cons_zero, Act.put, List.setIfInBounds_toArray, List.set_cons_zero, List.set_cons_succ]
  refine wpAnyH_take (i := 2) (v := ?_) rfl (by kernel_rfl) (by kernel_rfl) (by kernel_rfl) (fun _ _ _ h => h) (Or.inl ⟨by rfl, fun w hSw => ?_⟩) (by assumption) ?_
  rotate_left
  · (try dsimp only at hSw); go_simp; (try with_reducible rfl)
  try simp only [List.getElem_toArray, List.getElem_cons_succ, List.getElem_cons_zero, Act.put, List.setIfInBounds_toArray, List.set_cons_zero, List.set_cons_succ]
  refine wpAnyH_take (i := 3) (v := ?_) rfl (by kernel_rfl) (by kernel_rfl) (by kernel_rfl) (fun _ _ _ h => h) (Or.inl ⟨by rfl, fun w hSw => ?_⟩) (by assumption) ?_
  rotate_left
  · (try dsimp only at hSw); go_simp; (try with_reducible rfl)
  try simp only [List.getElem_toArray, List.getElem_cons_succ, List.getElem_cons_zero, Act.put, List.setIfInBounds_toArray, List.set_cons_zero, List.set_cons_succ]
  refine wpAnyH_take (i := 4) (v := ?_) rfl (by kernel_rfl) (by kernel_rfl) (by kernel_rfl) (fun _ _ _ h => h) (Or.inl ⟨by rfl, fun w hSw => ?_⟩) (by assumption) ?_
  rotate_left
  · (try dsimp only at hSw); go_simp; (try with_reducible rfl)
  try simp only [List.getElem_toArray, List.getElem_cons_succ, List.getElem_cons_zero, Act.put, List.setIfInBounds_toArray, List.set_cons_zero, List.set_cons_succ]
  refine wpAnyH_ready (rs := [5]) (by kernel_rfl) (by simp) ?_
  refine AllReadyH.cons rfl (fun K hK => ?_) ?_
  rotate_left
  · exact AllReadyH.nil
  go_simp
  (go_at_call 47; (with_reducible refine (C4.out _).mono ?_); rintro E w4 ⟨rfl, hb⟩; have D5 := Lib.hid (D4.out.on hb); have H5 := Lib.hid (H4.out.on hb); have H6 := Lib.hid (H5.out.far (p := w.heap.size + 1 + 1) (by omega) (by omega) (by omega) g y); have H7 := Lib.hid (H6.out.far (p := w.heap.size + 1 + 1 + 1) (by omega) (by omega) (by omega) h u); have F5 := Lib.hid (D5.out.fin1 g h y u); obtain ⟨e0, e1, e2, e3, e4, e5, e6, e7, e8, e9, e10, e11, e12, e13, e14⟩ := D5.out.facts; have R6 := Lib.hid (D5.out.q.far (c := w.heap.size + 1 + 1) (by omega) 0 (.bool g)); have R7 := Lib.hid (R6.out.far (c := w.heap.size + 1 + 1) (by omega) 1 (.float .f64 y)); obtain ⟨r0, r1, r2, r3⟩ := R7.out.facts; clear hb)
  refine hK.out _ _ ?_ (fun hHeld => ?_)
  · exact H5.out.facts
  clear hK K
  try simp only [List.getElem_toArray, List.getElem_cons_succ, List.getElem_cons_zero, Act.put, List.setIfInBounds_toArray, List.set_cons_zero, List.set_cons_succ]
  refine wpAnyH_ready (rs := [6]) (by kernel_rfl) (by simp) ?_
  refine AllReadyH.cons rfl (fun K hK => ?_) ?_
  rotate_left
  · exact AllReadyH.nil
  go_simp
  skip
  refine hK.out _ _ ?_ (fun hHeld => ?_)
  · exact H6.out.facts
  clear hK K
  try simp only [List.getElem_toArray, List.getElem_cons_succ, List.getElem_cons_zero, Act.put, List.setIfInBounds_toArray, List.set_cons_zero, List.set_cons_succ]
  refine wpAnyH_ready (rs := [7]) (by kernel_rfl) (by simp) ?_
  refine AllReadyH.cons rfl (fun K hK => ?_) ?_
  rotate_left
  · exact AllReadyH.nil
  go_simp
  skip
  refine hK.out _ _ ?_ (fun hHeld => ?_)
  · exact H7.out.facts
  clear hK K
  try simp only [List.getElem_toArray, List.getElem_cons_succ, List.getElem_cons_zero, Act.put, List.setIfInBounds_toArray, List.set_cons_zero, List.set_cons_succ]
  refine wpAnyH_done (by kernel_rfl) ?_ _
  go_wp2_with fail
  obtain ⟨Z1, Z2, Z3⟩ := F5.out
  obtain ⟨m0, m1, -, -⟩ := Z1.facts
  obtain ⟨n0, n1, -, -⟩ := Z2.facts
  exact bodyPost_ret (do_result rfl _ rfl rfl m0 m1 n0 n1) rfl ⟨rfl, Z3⟩
theorem thc_fit (c : Cell2) (h : c.2 < 18446744073709551616) : Fit (thc c).1 (thc c).2 (fz c) := by
  unfold thc fz
  cases hc : c.1
  · exact ⟨rfl, rfl, fun _ => rfl, (by decide : (0 : Nat) < 18446744073709551616)⟩
  · refine ⟨hc.symm, ?_, fun h => (by cases h), canon_lt h⟩
    show canon (canon c.2) = canon c.2
    exact canon_canon _
theorem sumc_lt (a x : Nat) : sumc a x < 18446744073709551616 := by
  unfold sumc
  cases hs : floatBits .add .f64 a x with
  | some r => exact canon_lt (sum_lt hs)
  | none => exact (by decide : (9221120237041090561 : Nat) < 18446744073709551616)
theorem none_fit : Fit false 0 (false, 0) := ⟨rfl, rfl, fun _ => rfl, by decide⟩
theorem num_fit (x : Nat) (h : x < 18446744073709551616) : Fit true (canon x) (true, x) := ⟨rfl, canon_canon _, fun h => (by cases h), canon_lt h⟩
theorem ddo_any (c : Cell2) (k : Int) (s : List UInt8) (x : Nat) (w : World) (hc : c.2 < 18446744073709551616) (hx : x < 18446744073709551616) (hl : (s.length : Int) ≤ 9223372036854775807) : Calls Try.prog 39 #[.agg #[.bool c.1, .float .f64 c.2], .agg #[.int .i64 k, .string (str s), .float .f64 x]] w (GivesDo (doC c k s x) w) := by
  have hf := thc_fit c hc
  rcases err_cases k s x with ⟨hr, he⟩ | ⟨hr, he⟩
  · have CK : ∀ W, Calls Try.prog 38 #[.agg #[.int .i64 k, .string (str s), .float .f64 x]] W (RetBelow (.int .i64 0) W) := fun W => by have := check_any k s x W hx; rw [he] at this; exact this
    have hs : Fit true (canon (sumc (thc c).2 x)) (true, sumc (fz c).2 x) := by
      rw [sumc_congr hf.val rfl]
      exact num_fit _ (sumc_lt _ _)
    refine (ddo_right c.1 c.2 (thc c).1 (thc c).2 (bhc (thc c) k x).1 (bhc (thc c) k x).2 (tlc k (thc c) (bhc (thc c) k x)).1 (tlc k (thc c) (bhc (thc c) k x)).2 k s x w (fun W => there_any c W) CK (fun W => behind_any (thc c) k s x W) (fun W => tells_any k (thc c) (bhc (thc c) k x) W)).mono ?_
    rintro E w' ⟨h1, h2⟩
    refine ⟨_, _, _, _, h1, ?_, ?_, h2⟩
    all_goals
      unfold doC
      rw [if_neg (by rw [hr]; decide)]
    · unfold bhc
      split
      · exact num_fit x hx
      · split
        · exact none_fit
        · split
          · exact hs
          · exact hf
    · unfold tlc bhc
      by_cases k2 : k = 2
      · subst k2; exact hf
      · by_cases k3 : k = 3
        · subst k3; exact hf
        · by_cases k4 : k = 4
          · subst k4; exact hs
          · by_cases k1 : k = 1
            · subst k1; exact hf
            · rw [if_neg (by omega), if_neg k2, if_neg k3, if_neg k4, if_neg k2, if_neg k3, if_neg k4]; exact hf
  · have CK : ∀ W, Calls Try.prog 38 #[.agg #[.int .i64 k, .string (str s), .float .f64 x]] W (RetBelow (.int .i64 12) W) := fun W => by have := check_any k s x W hx; rw [he] at this; exact this
    refine (ddo_wrong c.1 c.2 (thc c).1 (thc c).2 k s x w 12 rfl (fun W => there_any c W) CK).mono ?_
    rintro E w' ⟨h1, h2⟩
    refine ⟨_, _, _, _, h1, ?_, ?_, h2⟩
    all_goals
      unfold doC
      rw [if_pos hr]
    · exact hf
    · exact none_fit

/-! ### Same, Text, Fold -/
set_option maxHeartbeats 16000000 in
set_option maxRecDepth 100000 in
theorem dfold_any (v : Value) (xs : List Cmdn) (w : World) (h : layC.Row w v xs) (hw : ∀ x ∈ xs, wfC x) : Calls Try.prog 28 #[v] w (GivesFold (foldC xs) w) := by
  obtain ⟨p, cap, rfl, h1, hd⟩ := h.parts
  obtain ⟨n, hn⟩ : ∃ n, n = xs.length := ⟨_, rfl⟩
  rw [← hn] at h1 hd ⊢
  have HW := Lib.hid hw
  have HN := Lib.hid hn
  have HT : Hid (foldC (xs.take n) = foldC xs) := Lib.hid (by rw [hn, List.take_length])
  have X0 := Lib.hid (Bx2.start w false 0 false 0)
  obtain ⟨i0, i1, i2, i3⟩ := X0.out.a.facts
  obtain ⟨j0, j1, j2, j3⟩ := X0.out.b.facts
  clear h hw hn
  go_enter Try.func28, Try.ntmps28
  go_wp2_with fail
  go_loopw [8] (fun i wr => ∃ (k : Nat) (f : Bool) (z : Nat), i = .int .i64 k ∧ k ≤ n ∧ Hid (Bx2 w false 0 f z wr) ∧ Hid (Fit f z (foldC (xs.take k)))) (fun i _ => n - (intOf i).toNat)
  case atStart => exact ⟨0, false, 0, rfl, Nat.zero_le _, X0, Lib.hid none_fit⟩
  case round =>
    obtain ⟨k, f, z, rfl, hk, HX, HF⟩ := hrel
    have k0 : (0 : Int) ≤ k := by omega
    obtain ⟨u0, u1, u2, u3⟩ := HX.out.a.facts
    obtain ⟨x0, x1, x2, x3⟩ := HX.out.b.facts
    by_cases hkn : k < n
    · have kn : (k : Int) < n := by omega
      obtain ⟨B, off, rfl, HC⟩ := hd.resolve_left (by omega)
      have hkx : k < xs.length := by rw [← HN.out]; exact hkn
      obtain ⟨a, s, x, hx⟩ : ∃ a s x, layC.at xs k = (a, s, x) := ⟨_, _, _, rfl⟩
      have hwf := HW.out _ (layC.at_mem hkx)
      rw [hx] at hwf
      obtain ⟨c0, c1, c2⟩ := cellC (HC.out.on HX.out.below) hkx hx
      have hlt := (HC.out.on HX.out.below).lt
      have hne : B ≠ wr.heap.size := by omega
      have CD : Hid (∀ W, Calls Try.prog 39 #[.agg #[.bool f, .float .f64 z], .agg #[.int .i64 a, .string (str s), .float .f64 x]] W (GivesDo (doC (f, z) a s x) W)) := Lib.hid fun W => ddo_any (f, z) a s x W HF.out.lt hwf.1 (by have := hwf.2; simp only [] at this; omega)
      have HFS : Hid (∀ g y, Fit g y (doC (f, z) a s x).1 → Fit g y (foldC (xs.take (k + 1)))) := Lib.hid fun g y hfit => by rw [fold_step hkx hx]; exact HF.out.step hfit
      generalize doC (f, z) a s x = R at CD HFS
      have XB := Lib.hid (Boxed.start wr a s x)
      have X1 := Lib.hid (HX.out.on XB.out.below)
      have e0 := XB.out.c0
      have e1 := XB.out.c1
      have e2 := XB.out.c2
      obtain ⟨y0, y1, y2, y3⟩ := X1.out.b.facts
      unfold Cmd.cells at X1 XB e0 e1 e2 y0 y1 y2 y3
      clear hx hwf hkx hd
      go_wp2_with (go_at_call 39; (with_reducible refine (CD.out _).mono ?_); rintro E w1 ⟨f1, z1, f2, z2, rfl, h1, h2, hb⟩; have F1 := Lib.hid h1; have X2 := Lib.hid (X1.out.on hb); obtain ⟨v0, v1, v2, v3⟩ := X2.out.b.facts; have X3 := Lib.hid (X2.out.put f1 z1); clear hb h1 h2)
      go_roundw
      case rel => exact ⟨k + 1, f1, z1, by go_num, by omega, X3, Lib.hid (HFS.out _ _ F1.out)⟩
      case measure => simp [intOf]; omega
    · obtain rfl : k = n := by omega
      have kn : ¬ (k : Int) < k := by omega
      have HF2 : Hid (Fit f z (foldC xs)) := Lib.hid (by rw [← HT.out]; exact HF.out)
      have P := Lib.hid (Ob.put ⟨HX.out.below, Nat.le_refl _, HX.out.a⟩ f z)
      clear hd
      go_wp2_with fail
      obtain ⟨m0, m1, -, -⟩ := P.out.box.facts
      exact bodyPost_ret (cell_result rfl _ rfl m0 m1) rfl ⟨f, z, rfl, HF2.out, P.out.below⟩
end Go.Proofs.Ytdnabghhjlhjoaa.Cel
