/- Records in memory (layer 8, record): a box of the call's own; what Cost and Less give, and the document's Less. Conditions: those in each statement. -/
import Derived.Test.YtomidcbpnaajeaaGreatBatA
import Derived.Test.YtomidcbpnaajeaaGreatIdA
namespace Go.Proofs.YtomidcbpnaajeaaGreat.Rec
open Go.RowKit Cmd Bat Ids
set_option linter.unusedVariables false

/-! ### Boxes -/
def cellsR (t : TypeId) (a b q : Int) (v u : Value) : Obj := .cells #[.int .i64 a, .int .i64 b, .int .i64 q, v, u] t
/-- A box at block g, and that w's blocks lie as they did. -/
structure BoxR (w : World) (g : Nat) (a b q : Int) (v u : Value) (wr : World) : Prop where
  below : Below w.heap.size w wr
  own : w.heap.size ≤ g
  lt : g < wr.heap.size
  c0 : wr.cell? ⟨g, 0, none⟩ = some (.int .i64 a)
  c1 : wr.cell? ⟨g, 1, none⟩ = some (.int .i64 b)
  c2 : wr.cell? ⟨g, 2, none⟩ = some (.int .i64 q)
  c3 : wr.cell? ⟨g, 3, none⟩ = some v
  c4 : wr.cell? ⟨g, 4, none⟩ = some u
theorem BoxR.start (t : TypeId) (w : World) (a b q : Int) (v u : Value) : BoxR w w.heap.size a b q v u (w.alloc (cellsR t a b q v u)) :=
  ⟨Cmd.below_one _ _, Nat.le_refl _, by simp, by unfold cellsR; rw [World.cell?_alloc_mark]; rfl, by unfold cellsR; rw [World.cell?_alloc_mark]; rfl, by unfold cellsR; rw [World.cell?_alloc_mark]; rfl, by unfold cellsR; rw [World.cell?_alloc_mark]; rfl, by unfold cellsR; rw [World.cell?_alloc_mark]; rfl⟩
theorem BoxR.on {w wr w' : World} {g : Nat} {a b q : Int} {v u : Value} (h : BoxR w g a b q v u wr) (hb : Below wr.heap.size wr w') : BoxR w g a b q v u w' :=
  ⟨h.below.trans (hb.mono h.below.size), h.own, Nat.lt_of_lt_of_le h.lt hb.size, (hb.cell (p := ⟨g, 0, none⟩) h.lt).trans h.c0, (hb.cell (p := ⟨g, 1, none⟩) h.lt).trans h.c1, (hb.cell (p := ⟨g, 2, none⟩) h.lt).trans h.c2, (hb.cell (p := ⟨g, 3, none⟩) h.lt).trans h.c3, (hb.cell (p := ⟨g, 4, none⟩) h.lt).trans h.c4⟩
theorem BoxR.from {x w wr : World} {g : Nat} {a b q : Int} {v u : Value} (h : BoxR w g a b q v u wr) (hb : Below x.heap.size x w) : BoxR x g a b q v u wr :=
  ⟨hb.trans (h.below.mono hb.size), Nat.le_trans hb.size h.own, h.lt, h.c0, h.c1, h.c2, h.c3, h.c4⟩
/-- The cells, at whatever world in which all that lay lies. -/
theorem BoxR.five {w wr : World} {g : Nat} {a b q : Int} {v u : Value} (h : BoxR w g a b q v u wr) :
    wr.cell? ⟨g, 0, none⟩ = some (.int .i64 a) ∧ wr.cell? ⟨g, 1, none⟩ = some (.int .i64 b) ∧ wr.cell? ⟨g, 2, none⟩ = some (.int .i64 q) ∧ wr.cell? ⟨g, 3, none⟩ = some v ∧ wr.cell? ⟨g, 4, none⟩ = some u := ⟨h.c0, h.c1, h.c2, h.c3, h.c4⟩
/-- Two boxes of the call's own. -/
structure Two8 (w : World) (a b q : Int) (v u : Value) (a' b' q' : Int) (v' u' : Value) (W : World) : Prop where
  a : BoxR w w.heap.size a b q v u W
  b : BoxR w (w.heap.size + 1) a' b' q' v' u' W
theorem Two8.start (t : TypeId) (w : World) (a b q : Int) (v u : Value) (a' b' q' : Int) (v' u' : Value) : Two8 w a b q v u a' b' q' v' u' ((w.alloc (cellsR t a b q v u)).alloc (cellsR t a' b' q' v' u')) := by
  have h1 := (BoxR.start t w a b q v u).on (Cmd.below_one _ (cellsR t a' b' q' v' u'))
  have h2 := (BoxR.start t (w.alloc (cellsR t a b q v u)) a' b' q' v' u').from (Cmd.below_one w _)
  have e : (w.alloc (cellsR t a b q v u)).heap.size = w.heap.size + 1 := by simp
  rw [e] at h2
  exact ⟨h1, h2⟩
theorem Two8.on {w W W' : World} {a b q : Int} {v u : Value} {a' b' q' : Int} {v' u' : Value} (h : Two8 w a b q v u a' b' q' v' u' W) (hb : Below W.heap.size W W') : Two8 w a b q v u a' b' q' v' u' W' := ⟨h.a.on hb, h.b.on hb⟩

/-! ### Cost, Less -/
def rLess (a b q a' b' q' : Int) : Bool := if q = q' then idLt (a, b) (a', b') else decide (q < q')
theorem cmp_neg (a b a' b' : Int) : decide (idCmp (a, b) (a', b') < 0) = idLt (a, b) (a', b') := by
  rw [cmp_lt]
  cases idLt (a, b) (a', b')
  · simp only [Bool.false_eq_true, if_false]; split <;> decide
  · simp
/-- Of two records not each stands ahead of the other. -/
theorem less_not (a b q a' b' q' : Int) : (rLess a b q a' b' q' && rLess a' b' q' a b q) = false := by
  rw [Bool.eq_false_iff]
  intro h
  rw [Bool.and_eq_true] at h
  obtain ⟨h1, h2⟩ := h
  unfold rLess at h1 h2
  by_cases e : q = q'
  · subst e
    rw [if_pos rfl] at h1 h2
    unfold idLt at h1 h2
    simp only [] at h1 h2
    split at h1 <;> split at h2 <;> simp at h1 h2 <;> omega
  · rw [if_neg e] at h1
    rw [if_neg (fun h => e h.symm)] at h2
    simp at h1 h2; omega

/-! ### What is wrong with an id -/
theorem refid_any (a b : Int) (w : World) : Calls Tryz.prog 39 #[.agg #[.int .i64 a, .int .i64 b]] w (RetBelow (.int .i64 (idErr (a, b))) w) := by
  have HB := Lib.hid (Boxed.start w a b)
  have HR := Lib.hid (fun w => Ids.right_any a b w)
  have HE : Hid (idErr (a, b) = if a < 0 then 7 else if 7 < a then 7 else if idRight (a, b) = true then 0 else 8) := Lib.hid (by
    unfold idErr idRight
    simp only [decide_eq_true_eq]
    repeat' split
    all_goals omega)
  generalize idRight (a, b) = r at HR HE
  by_cases h1 : a < 0
  · rw [if_pos h1] at HE
    go_enter Tryz.func39, Tryz.ntmps39
    go_wp2
    go_ret
    exact ⟨ret_int HE.out.symm, HB.out.below⟩
  · rw [if_neg h1] at HE
    by_cases h2 : 7 < a
    · rw [if_pos h2] at HE
      go_enter Tryz.func39, Tryz.ntmps39
      go_wp2
      go_ret
      exact ⟨ret_int HE.out.symm, HB.out.below⟩
    · rw [if_neg h2] at HE
      cases r
      all_goals
        go_enter Tryz.func39, Tryz.ntmps39
        go_wp2_with (first
          | (go_at_call 59; (with_reducible refine (HR.out _).mono ?_); rintro e w1 ⟨rfl, rfl⟩))
        go_ret
        exact ⟨ret_int HE.out.symm, HB.out.below.trans ((Ids.below_one _ _).mono HB.out.below.size)⟩
end Go.Proofs.YtomidcbpnaajeaaGreat.Rec

/- What is wrong with a record (layer 8, record): what the program's looks at its parts give, and the document's Check. Conditions: the lists lie in memory as their cells say; numbers' words of 64 bits. -/
namespace Go.Proofs.YtomidcbpnaajeaaGreat.Rec
open Go.RowKit Cmd Bat Ids
set_option linter.unusedVariables false

/-! ### Plain -/
def seqErr (q : Int) : Int := if 1 ≤ q ∧ q ≤ 1073741824 then 0 else 9
def cntErr (n : Nat) : Int := if 16 < n then 10 else 0
/-- What is wrong with the j-th of the Deps. -/
def depErr (x : Idn) (ds : List Idn) (j : Nat) : Int :=
  if idErr (nth ds j) ≠ 0 then idErr (nth ds j) else if nth ds j = x then 6 else if 0 < j ∧ idLt (nth ds (j - 1)) (nth ds j) = false then 11 else 0
def depsErr (x : Idn) (ds : List Idn) : Int := match (List.range ds.length).find? (fun j => decide (depErr x ds j ≠ 0)) with
  | some j => depErr x ds j
  | none => 0
theorem deps_first {x : Idn} {ds : List Idn} {k : Nat} (hk : k < ds.length) (h : depErr x ds k ≠ 0) (hn : ∀ j, j < k → depErr x ds j = 0) : depsErr x ds = depErr x ds k := by
  have : (List.range ds.length).find? (fun j => decide (depErr x ds j ≠ 0)) = some k := by
    rw [List.find?_range_eq_some]
    exact ⟨decide_eq_true h, List.mem_range.2 hk, fun j hj => by rw [hn j hj]; decide⟩
  unfold depsErr
  rw [this]
theorem deps_none {x : Idn} {ds : List Idn} (h : ∀ j, j < ds.length → depErr x ds j = 0) : depsErr x ds = 0 := by
  have : (List.range ds.length).find? (fun j => decide (depErr x ds j ≠ 0)) = none := by
    rw [List.find?_eq_none]
    intro j hj
    rw [h j (List.mem_range.1 hj)]; decide
  unfold depsErr
  rw [this]
def rErr (a b q : Int) (ds : List Idn) (cs : List Cmdn) : Int :=
  if idErr (a, b) ≠ 0 then idErr (a, b) else if seqErr q ≠ 0 then seqErr q else if cntErr ds.length ≠ 0 then cntErr ds.length else if depsErr (a, b) ds ≠ 0 then depsErr (a, b) ds else bErr cs

/-! ### The parts -/
theorem ofid_any (a b q : Int) (v u : Value) (w : World) : Calls Tryz.prog 60 #[.agg #[.int .i64 a, .int .i64 b, .int .i64 q, v, u]] w (RetBelow (.int .i64 (idErr (a, b))) w) := by
  have HB := Lib.hid (BoxR.start 100 w a b q v u)
  have HC := Lib.hid (fun w => Ids.check_any a b w)
  generalize idErr (a, b) = r at HC
  go_enter Tryz.func60, Tryz.ntmps60
  go_wp2_with (first
    | (go_at_call 80; (with_reducible refine (HC.out _).mono ?_); rintro e w1 ⟨rfl, rfl⟩))
  go_ret
  exact ⟨rfl, HB.out.below.trans ((Ids.below_one _ _).mono HB.out.below.size)⟩
theorem ofseq_any (a b q : Int) (v u : Value) (w : World) : Calls Tryz.prog 61 #[.agg #[.int .i64 a, .int .i64 b, .int .i64 q, v, u]] w (RetBelow (.int .i64 (seqErr q)) w) := by
  have HB := Lib.hid (BoxR.start 100 w a b q v u)
  have HE : Hid (seqErr q = if q < 1 then 9 else if 1073741824 < q then 9 else 0) := Lib.hid (by unfold seqErr; repeat' split; all_goals omega)
  by_cases h1 : q < 1
  · rw [if_pos h1] at HE
    go_enter Tryz.func61, Tryz.ntmps61
    go_wp2
    go_ret
    exact ⟨ret_int HE.out.symm, HB.out.below⟩
  · rw [if_neg h1] at HE
    by_cases h2 : 1073741824 < q
    · rw [if_pos h2] at HE
      go_enter Tryz.func61, Tryz.ntmps61
      go_wp2
      go_ret
      exact ⟨ret_int HE.out.symm, HB.out.below⟩
    · rw [if_neg h2] at HE
      go_enter Tryz.func61, Tryz.ntmps61
      go_wp2
      go_ret
      exact ⟨ret_int HE.out.symm, HB.out.below⟩
theorem ofcount_any (a b q : Int) (p : Option Addr) (n cap : Nat) (u : Value) (w : World) : Calls Tryz.prog 62 #[.agg #[.int .i64 a, .int .i64 b, .int .i64 q, .slice p n cap, u]] w (RetBelow (.int .i64 (cntErr n)) w) := by
  have HB := Lib.hid (BoxR.start 100 w a b q (.slice p n cap) u)
  have HE : Hid (cntErr n = if 16 < n then 10 else 0) := Lib.hid rfl
  by_cases h1 : 16 < n
  · have h2 : 16 < (n : Int) := by omega
    rw [if_pos h1] at HE
    clear h1
    go_enter Tryz.func62, Tryz.ntmps62
    go_wp2
    go_ret
    exact ⟨ret_int HE.out.symm, HB.out.below⟩
  · have h2 : ¬ 16 < (n : Int) := by omega
    rw [if_neg h1] at HE
    clear h1
    go_enter Tryz.func62, Tryz.ntmps62
    go_wp2
    go_ret
    exact ⟨ret_int HE.out.symm, HB.out.below⟩
theorem ofbatch_any (a b q : Int) (v u : Value) (cs : List Cmdn) (w : World) (h : layC.Row w u cs) (hw : ∀ x ∈ cs, wfC x) : Calls Tryz.prog 64 #[.agg #[.int .i64 a, .int .i64 b, .int .i64 q, v, u]] w (RetBelow (.int .i64 (bErr cs)) w) := by
  have hb0 := Cmd.below_one w (cellsR 100 a b q v u)
  have hv : ∃ p n cap, u = .slice p n cap := by obtain ⟨p, cap, e, _⟩ := h; exact ⟨p, _, cap, e⟩
  have HC := Lib.hid (bcheck_any u cs _ (h.on hb0) hw)
  unfold cellsR at HC
  obtain ⟨p, n, cap, rfl⟩ := hv
  have HB := Lib.hid hb0
  generalize bErr cs = r at HC
  clear h hw hb0
  go_enter Tryz.func64, Tryz.ntmps64
  go_wp2_with (first
    | (go_at_call 82; (with_reducible refine HC.out.mono ?_); rintro e w1 ⟨rfl, hb⟩; have HD := Lib.hid (HB.out.trans (hb.mono HB.out.size)); clear hb))
  go_ret
  exact ⟨rfl, HD.out⟩
theorem below_three (w : World) (o1 o2 o3 : Obj) : Below w.heap.size w (((w.alloc o1).alloc o2).alloc o3) :=
  ((Cmd.below_one w o1).trans ((Cmd.below_one _ o2).mono (by simp))).trans ((Cmd.below_one _ o3).mono (by simp; omega))
theorem three_cmp (w : World) (o1 o2 o3 : Obj) (x' y' x y : Int) : Below (w.heap.size + 3) (((w.alloc o1).alloc o2).alloc o3) (two (((w.alloc o1).alloc o2).alloc o3).drew x' y' x y) :=
  (Below.refl _ _).drew.trans ((below_two _ _ _ _ _).mono (by simp))
/-- The cells that the comparison with the one ahead reads. -/
theorem dep_cells {w : World} {B off : Nat} {ds : List Idn} (h : Row2 w B off ds) {j : Nat} (hj : j < ds.length) {x' y' : Int} (e : nth ds j = (x', y')) (a b q : Int) (v u : Value) (x y : Int) {W : World} (hb : Below (w.heap.size + 3) ((((w.alloc (cellsR 100 a b q v u)).alloc (Ids.cells x y)).alloc (Ids.cells x y))) W) :
    W.cell? ⟨w.heap.size, 3, none⟩ = some v ∧ W.cell? ⟨B, off + j * 2, none⟩ = some (.int .i64 x') ∧ W.cell? ⟨B, off + j * 2 + 1, none⟩ = some (.int .i64 y') ∧ W.cell? ⟨w.heap.size + 1, 0, none⟩ = some (.int .i64 x) ∧ W.cell? ⟨w.heap.size + 1, 1, none⟩ = some (.int .i64 y) := by
  have b3 := below_three w (cellsR 100 a b q v u) (Ids.cells x y) (Ids.cells x y)
  have h0 := h.on b3
  have hB : B < w.heap.size + 3 := by have := h.lt; omega
  have hx := ((BoxR.start 100 w a b q v u).on (Cmd.below_one _ (Ids.cells x y))).on (Cmd.below_one _ (Ids.cells x y))
  have hy := (Boxed.start (w.alloc (cellsR 100 a b q v u)) x y).on (Cmd.below_one _ (Ids.cells x y))
  have e1 : (w.alloc (cellsR 100 a b q v u)).heap.size = w.heap.size + 1 := by simp
  have f0 := hy.fst
  have f1 := hy.snd
  rw [e1] at f0 f1
  have g0 := h0.fst j hj
  have g1 := h0.snd j hj
  rw [e] at g0 g1
  exact ⟨(hb.cell (p := ⟨w.heap.size, 3, none⟩) (by show w.heap.size < _; omega)).trans hx.c3, (hb.cell (p := ⟨B, off + j * 2, none⟩) hB).trans g0, (hb.cell (p := ⟨B, off + j * 2 + 1, none⟩) hB).trans g1,
    (hb.cell (p := ⟨w.heap.size + 1, 0, none⟩) (by show w.heap.size + 1 < _; omega)).trans f0, (hb.cell (p := ⟨w.heap.size + 1, 1, none⟩) (by show w.heap.size + 1 < _; omega)).trans f1⟩
set_option maxHeartbeats 2000000 in
theorem ofdep_any (a b q : Int) (v u : Value) (ds : List Idn) (k : Nat) (w : World) (h : RowAt w v ds) (hk : k < ds.length) : Calls Tryz.prog 81 #[.agg #[.int .i64 a, .int .i64 b, .int .i64 q, v, u], .int .i64 k] w (RetBelow (.int .i64 (depErr (a, b) ds k)) w) := by
  obtain ⟨p, cap, rfl, h1, h2, -, h3⟩ := h
  obtain ⟨B, off, rfl, hlt, hc⟩ := h3 (by intro e; rw [e] at hk; exact absurd hk (Nat.not_lt_zero _))
  have HR : Hid (Row2 w B off ds) := Lib.hid ⟨hlt, fun j hj => (hc j hj).1, fun j hj => (hc j hj).2⟩
  obtain ⟨x, y, hxy⟩ : ∃ x y, nth ds k = (x, y) := ⟨_, _, rfl⟩
  have c0 := HR.out.fst k hk
  have c1 := HR.out.snd k hk
  rw [hxy] at c0 c1
  have HC := Lib.hid (fun w => Ids.check_any x y w)
  have HE : Hid (depErr (a, b) ds k = if idErr (x, y) ≠ 0 then idErr (x, y) else if (x, y) = (a, b) then 6 else if 0 < k ∧ idLt (nth ds (k - 1)) (x, y) = false then 11 else 0) := Lib.hid (by unfold depErr; rw [hxy])
  have hlen : ds.length ≤ 9223372036854775807 := by omega
  have HK := Lib.hid hk
  obtain ⟨n, hn⟩ : ∃ n, n = ds.length := ⟨_, rfl⟩
  have k0 : (0 : Int) ≤ k := by omega
  have kn : (k : Int) < n := by omega
  have hne : B ≠ w.heap.size := by omega
  have hne1 : B ≠ w.heap.size + 1 := by omega
  have HG := Lib.hid (fun j (hj : j < ds.length) x' y' (e : nth ds j = (x', y')) W hb => dep_cells HR.out hj e a b q (.slice (some ⟨B, off, none⟩) ds.length cap) u x y (W := W) hb)
  rw [← hn] at hlen HG HK ⊢
  clear hn hk h3 hc hxy h1 h2 HR
  by_cases he : idErr (x, y) = 0
  · rw [if_neg (fun h => h he)] at HE
    rw [he] at HC
    clear he
    by_cases hs : (x, y) = (a, b)
    · have hx : x = a := congrArg Prod.fst hs
      have hy : y = b := congrArg Prod.snd hs
      subst hx; subst hy
      rw [if_pos rfl] at HE
      clear hs HG
      go_enter Tryz.func81, Tryz.ntmps81
      go_wp2_with (first
        | (go_at_call 80; (with_reducible refine (HC.out _).mono ?_); rintro e w1 ⟨rfl, rfl⟩))
      go_ret
      exact ⟨ret_int HE.out.symm, below_three _ _ _ _⟩
    · rw [if_neg hs] at HE
      have hq : ∀ w, (binOp .eql 32 (.agg #[.int .i64 x, .int .i64 y]) (.agg #[.int .i64 a, .int .i64 b])).run Tryz.prog w = .ok (.bool false) w := fun w => by
        rw [eql_id]
        have : (x == a && y == b) = false := by
          rw [Bool.eq_false_iff]; intro h; rw [Bool.and_eq_true, beq_iff_eq, beq_iff_eq] at h; exact hs (by rw [h.1, h.2])
        rw [this]
      clear hs
      by_cases hk0 : k = 0
      · subst hk0
        have HZ : Hid (depErr (a, b) ds 0 = 0) := Lib.hid (by rw [HE.out, if_neg (by omega)])
        have hd : decide ((0 : Int) < 0) = false := by decide
        rw [Nat.zero_mul, Nat.add_zero] at c0 c1
        clear HE HG
        go_enter Tryz.func81, Tryz.ntmps81
        go_wp2_with (first
          | (go_at_call 80; (with_reducible refine (HC.out _).mono ?_); rintro e w1 ⟨rfl, rfl⟩))
        go_quiet (fail)
        go_wp2
        go_ret
        exact ⟨ret_int HZ.out.symm, Bat.below_drN (below_three _ _ _ _) _⟩
      · obtain ⟨j, hj⟩ : ∃ j, k = j + 1 := ⟨k - 1, by omega⟩
        obtain ⟨x', y', hxy'⟩ : ∃ x y, nth ds j = (x, y) := ⟨_, _, rfl⟩
        have HC2 := Lib.hid (fun w => Ids.compare_any x' y' x y w)
        have HL := Lib.hid (cmp_neg x' y' x y)
        have HE2 : Hid (depErr (a, b) ds k = if idLt (x', y') (x, y) = false then 11 else 0) := Lib.hid (by
          rw [HE.out, show k - 1 = j by omega, hxy']
          by_cases e : idLt (x', y') (x, y) = false
          · rw [if_pos ⟨by omega, e⟩, if_pos e]
          · rw [if_neg (fun h => e h.2), if_neg e])
        have HS := Lib.hid (HG.out j (by have := HK.out; omega) x' y' hxy')
        have k1 : (0 : Int) < k := by omega
        have kd : decide (0 < k) = true := decide_eq_true (by omega)
        have j0 : (0 : Int) ≤ j := by omega
        have jn : (j : Int) < n := by omega
        have kw : IntKind.i64.wrap ((k : Int) - 1) = j := by rw [show (k : Int) - 1 = j by omega]; exact IntWalk.i64_in _ (by omega)
        have HB3 := Lib.hid (below_three w (cellsR 100 a b q (.slice (some ⟨B, off, none⟩) n cap) u) (Ids.cells x y) (Ids.cells x y))
        generalize idCmp (x', y') (x, y) = c at HC2 HL
        generalize idLt (x', y') (x, y) = z at HE2 HL
        have HD := Lib.hid (three_cmp w (cellsR 100 a b q (.slice (some ⟨B, off, none⟩) n cap) u) (Ids.cells x y) (Ids.cells x y) x' y' x y)
        clear HE HG hxy' hk0 hj
        have hz : (c < 0 ∧ z = true) ∨ (¬ c < 0 ∧ z = false) := by
          have := HL.out
          by_cases h : c < 0
          · left; exact ⟨h, by rw [decide_eq_true h] at this; exact this.symm⟩
          · right; exact ⟨h, by rw [decide_eq_false h] at this; exact this.symm⟩
        rcases hz with ⟨hz, rfl⟩ | ⟨hz, rfl⟩
        all_goals
          have hcz : 0 ≤ c ∨ ¬ 0 ≤ c := by omega
          go_enter Tryz.func81, Tryz.ntmps81
          go_wp2_with (first
            | (go_at_call 80; (with_reducible refine (HC.out _).mono ?_); rintro e w1 ⟨rfl, rfl⟩))
          go_region_held3 (fun w' => w'.cell? ⟨w.heap.size, 3, none⟩ = some (.slice (some ⟨B, off, none⟩) n cap) ∧ w'.cell? ⟨B, off + j * 2, none⟩ = some (.int .i64 x') ∧ w'.cell? ⟨B, off + j * 2 + 1, none⟩ = some (.int .i64 y') ∧ w'.cell? ⟨w.heap.size + 1, 0, none⟩ = some (.int .i64 x) ∧ w'.cell? ⟨w.heap.size + 1, 1, none⟩ = some (.int .i64 y))
            (first
              | exact HS.out _ HD.out
              | exact HS.out _ (Below.refl _ _).drew
              | go_keep)
            (first
              | (go_at_call 56; (with_reducible refine (HC2.out _).mono ?_); rintro e w2 ⟨rfl, rfl⟩))
          go_wp2
          go_ret
          exact ⟨ret_int (by rw [HE2.out]; rfl), HB3.out.trans (HD.out.mono (by omega))⟩
  · rw [if_pos he] at HE
    clear HG
    go_enter Tryz.func81, Tryz.ntmps81
    go_wp2_with (first
      | (go_at_call 80; (with_reducible refine (HC.out _).mono ?_); rintro e w1 ⟨rfl, rfl⟩))
    go_ret
    exact ⟨ret_int HE.out.symm, below_three _ _ _ _⟩
set_option maxHeartbeats 2000000 in
theorem ofdeps_any (a b q : Int) (v u : Value) (ds : List Idn) (w : World) (h : RowAt w v ds) : Calls Tryz.prog 63 #[.agg #[.int .i64 a, .int .i64 b, .int .i64 q, v, u]] w (RetBelow (.int .i64 (depsErr (a, b) ds)) w) := by
  have hv : ∃ p cap, v = .slice p ds.length cap ∧ ds.length ≤ 9223372036854775807 := by obtain ⟨p, cap, e, h1, h2, _⟩ := h; exact ⟨p, cap, e, by omega⟩
  obtain ⟨p, cap, rfl, hlen⟩ := hv
  have HF : Hid (∀ k, k < ds.length → depErr (a, b) ds k ≠ 0 → (∀ j, j < k → depErr (a, b) ds j = 0) → depsErr (a, b) ds = depErr (a, b) ds k) := Lib.hid fun k hk h hn => deps_first hk h hn
  have HN : Hid ((∀ j, j < ds.length → depErr (a, b) ds j = 0) → depsErr (a, b) ds = 0) := Lib.hid deps_none
  have HD : Hid (∀ W k, Below w.heap.size w W → k < ds.length → Calls Tryz.prog 81 #[.agg #[.int .i64 a, .int .i64 b, .int .i64 q, .slice p ds.length cap, u], .int .i64 (k : Nat)] W (RetBelow (.int .i64 (depErr (a, b) ds k)) W)) :=
    Lib.hid fun W k hb hk => ofdep_any a b q _ u ds k W (h.on hb) hk
  have HB := Lib.hid (BoxR.start 100 w a b q (.slice p ds.length cap) u)
  unfold cellsR at HB
  generalize depsErr (a, b) ds = r at HF HN
  generalize ds.length = n at HF HN HD HB hlen
  clear h
  go_enter Tryz.func63, Tryz.ntmps63
  go_wp2
  go_loopw [8] (fun i wr => ∃ k : Nat, k ≤ n ∧ i = .int .i64 k ∧ Hid (BoxR w w.heap.size a b q (.slice p n cap) u wr) ∧ Hid (∀ j, j < k → depErr (a, b) ds j = 0)) (fun i _ => n - (intOf i).toNat)
  case atStart => exact ⟨0, Nat.zero_le _, rfl, HB, Lib.hid fun j hj => absurd hj (Nat.not_lt_zero _)⟩
  case round =>
    obtain ⟨k, hk, rfl, hbx, hno⟩ := hrel
    have c0 := hbx.out.c0
    have c1 := hbx.out.c1
    have c2 := hbx.out.c2
    have c3 := hbx.out.c3
    have c4 := hbx.out.c4
    by_cases hkn : k < n
    · have HC := Lib.hid (HD.out wr k hbx.out.below hkn)
      have HE := Lib.hid (fun h => HF.out k hkn h hno.out)
      have k0 : (0 : Int) ≤ k := by omega
      have kn : (k : Int) < n := by omega
      obtain ⟨e, he⟩ : ∃ e, depErr (a, b) ds k = e := ⟨_, rfl⟩
      rw [he] at HC HE
      have HX := Lib.hid he
      clear he
      by_cases hz : e = 0
      · subst hz
        go_wp2_with (first
          | (go_at_call 81; (with_reducible refine HC.out.mono ?_); rintro e w1 ⟨rfl, hb⟩; have HB1 := Lib.hid (hbx.out.on hb); clear hb))
        go_roundw
        case rel => exact ⟨k + 1, by omega, by go_num, HB1, Lib.hid fun j hj => by
          by_cases e : j = k
          · rw [e]; exact HX.out
          · exact hno.out j (by omega)⟩
        case measure => simp [intOf]; omega
      · have HZ := Lib.hid (HE.out hz)
        go_wp2_with (first
          | (go_at_call 81; (with_reducible refine HC.out.mono ?_); rintro e w1 ⟨rfl, hb⟩; have HB1 := Lib.hid (hbx.out.on hb); clear hb))
        go_ret
        exact ⟨ret_int HZ.out.symm, HB1.out.below⟩
    · have kn : ¬ (k : Int) < n := by omega
      obtain rfl : k = n := by omega
      have HZ := Lib.hid (HN.out hno.out)
      go_wp2
      go_ret
      exact ⟨ret_int HZ.out.symm, hbx.out.below⟩

/-! ### Check -/
def partErr (a b q : Int) (ds : List Idn) (cs : List Cmdn) : Nat → Int
  | 0 => idErr (a, b)
  | 1 => seqErr q
  | 2 => cntErr ds.length
  | 3 => depsErr (a, b) ds
  | _ => bErr cs
theorem rerr_first {a b q : Int} {ds : List Idn} {cs : List Cmdn} {k : Nat} (hk : k < 5) (h : partErr a b q ds cs k ≠ 0) (hn : ∀ j, j < k → partErr a b q ds cs j = 0) : rErr a b q ds cs = partErr a b q ds cs k := by
  have g0 := hn 0
  have g1 := hn 1
  have g2 := hn 2
  have g3 := hn 3
  simp only [partErr] at g0 g1 g2 g3
  unfold rErr
  match k, hk with
  | 0, _ => simp only [partErr] at h ⊢; rw [if_pos h]
  | 1, _ => simp only [partErr] at h ⊢; rw [if_neg (fun e => e (g0 (by omega))), if_pos h]
  | 2, _ => simp only [partErr] at h ⊢; rw [if_neg (fun e => e (g0 (by omega))), if_neg (fun e => e (g1 (by omega))), if_pos h]
  | 3, _ => simp only [partErr] at h ⊢; rw [if_neg (fun e => e (g0 (by omega))), if_neg (fun e => e (g1 (by omega))), if_neg (fun e => e (g2 (by omega))), if_pos h]
  | 4, _ => simp only [partErr] at h ⊢; rw [if_neg (fun e => e (g0 (by omega))), if_neg (fun e => e (g1 (by omega))), if_neg (fun e => e (g2 (by omega))), if_neg (fun e => e (g3 (by omega)))]
theorem rerr_none {a b q : Int} {ds : List Idn} {cs : List Cmdn} (hn : ∀ j, j < 5 → partErr a b q ds cs j = 0) : rErr a b q ds cs = 0 := by
  have g4 := hn 4 (by omega)
  have g0 := hn 0 (by omega)
  have g1 := hn 1 (by omega)
  have g2 := hn 2 (by omega)
  have g3 := hn 3 (by omega)
  simp only [partErr] at g0 g1 g2 g3 g4
  unfold rErr
  rw [g0, g1, g2, g3, g4]
  simp
/-- The list of what is looked at. -/
def looks : Obj := .cells #[.func (.func 60) #[] #[], .func (.func 61) #[] #[], .func (.func 62) #[] #[], .func (.func 63) #[] #[], .func (.func 64) #[] #[]] 98
structure Looks (w : World) (a b q : Int) (v u : Value) (wr : World) : Prop where
  box : BoxR w w.heap.size a b q v u wr
  lt : w.heap.size + 1 < wr.heap.size
  l0 : wr.cell? ⟨w.heap.size + 1, 0, none⟩ = some (.func (.func 60) #[] #[])
  l1 : wr.cell? ⟨w.heap.size + 1, 1, none⟩ = some (.func (.func 61) #[] #[])
  l2 : wr.cell? ⟨w.heap.size + 1, 2, none⟩ = some (.func (.func 62) #[] #[])
  l3 : wr.cell? ⟨w.heap.size + 1, 3, none⟩ = some (.func (.func 63) #[] #[])
  l4 : wr.cell? ⟨w.heap.size + 1, 4, none⟩ = some (.func (.func 64) #[] #[])
theorem Looks.on {w wr w' : World} {a b q : Int} {v u : Value} (h : Looks w a b q v u wr) (hb : Below wr.heap.size wr w') : Looks w a b q v u w' :=
  ⟨h.box.on hb, Nat.lt_of_lt_of_le h.lt hb.size, (hb.cell (p := ⟨w.heap.size + 1, 0, none⟩) h.lt).trans h.l0, (hb.cell (p := ⟨w.heap.size + 1, 1, none⟩) h.lt).trans h.l1, (hb.cell (p := ⟨w.heap.size + 1, 2, none⟩) h.lt).trans h.l2, (hb.cell (p := ⟨w.heap.size + 1, 3, none⟩) h.lt).trans h.l3, (hb.cell (p := ⟨w.heap.size + 1, 4, none⟩) h.lt).trans h.l4⟩
theorem Looks.start (w : World) (a b q : Int) (v u : Value) : Looks w a b q v u ((w.alloc (cellsR 42 a b q v u)).alloc looks) := by
  have e : (w.alloc (cellsR 42 a b q v u)).heap.size = w.heap.size + 1 := by simp
  have h : ∀ j, ((w.alloc (cellsR 42 a b q v u)).alloc looks).cell? ⟨w.heap.size + 1, j, none⟩ = #[Value.func (.func 60) #[] #[], .func (.func 61) #[] #[], .func (.func 62) #[] #[], .func (.func 63) #[] #[], .func (.func 64) #[] #[]][j]? := fun j => by
    rw [← e]; unfold looks; rw [World.cell?_alloc_mark]
  exact ⟨(BoxR.start _ w a b q v u).on (Cmd.below_one _ _), by simp, (h 0).trans rfl, (h 1).trans rfl, (h 2).trans rfl, (h 3).trans rfl, (h 4).trans rfl⟩

set_option maxHeartbeats 4000000 in
theorem check_r (a b q : Int) (v u : Value) (ds : List Idn) (cs : List Cmdn) (w : World) (h : RowAt w v ds) (g : layC.Row w u cs) (hw : ∀ x ∈ cs, wfC x) :
    Calls Tryz.prog 42 #[.agg #[.int .i64 a, .int .i64 b, .int .i64 q, v, u]] w (RetBelow (.int .i64 (rErr a b q ds cs)) w) := by
  have hv : ∃ p cap, v = .slice p ds.length cap := by obtain ⟨p, cap, e, _⟩ := h; exact ⟨p, cap, e⟩
  obtain ⟨p, cap, rfl⟩ := hv
  have hu : ∃ p n cap, u = .slice p n cap := by obtain ⟨p, cap, e, _⟩ := g; exact ⟨p, _, cap, e⟩
  obtain ⟨p', m, cap', rfl⟩ := hu
  have HF : Hid (∀ k, k < 5 → partErr a b q ds cs k ≠ 0 → (∀ j, j < k → partErr a b q ds cs j = 0) → rErr a b q ds cs = partErr a b q ds cs k) := Lib.hid fun k hk h hn => rerr_first hk h hn
  have HN : Hid ((∀ j, j < 5 → partErr a b q ds cs j = 0) → rErr a b q ds cs = 0) := Lib.hid rerr_none
  have C0 := Lib.hid (fun W => ofid_any a b q (.slice p ds.length cap) (.slice p' m cap') W)
  have C1 := Lib.hid (fun W => ofseq_any a b q (.slice p ds.length cap) (.slice p' m cap') W)
  have C2 := Lib.hid (fun W => ofcount_any a b q p ds.length cap (.slice p' m cap') W)
  have C3 := Lib.hid (fun W (hb : Below w.heap.size w W) => ofdeps_any a b q (.slice p ds.length cap) (.slice p' m cap') ds W (h.on hb))
  have C4 := Lib.hid (fun W (hb : Below w.heap.size w W) => ofbatch_any a b q (.slice p ds.length cap) (.slice p' m cap') cs W (g.on hb) hw)
  have E0 : Hid (partErr a b q ds cs 0 = idErr (a, b)) := Lib.hid rfl
  have E1 : Hid (partErr a b q ds cs 1 = seqErr q) := Lib.hid rfl
  have E2 : Hid (partErr a b q ds cs 2 = cntErr ds.length) := Lib.hid rfl
  have E3 : Hid (partErr a b q ds cs 3 = depsErr (a, b) ds) := Lib.hid rfl
  have E4 : Hid (partErr a b q ds cs 4 = bErr cs) := Lib.hid rfl
  have HB := Lib.hid (Looks.start w a b q (.slice p ds.length cap) (.slice p' m cap'))
  unfold cellsR looks at HB
  generalize rErr a b q ds cs = r at HF HN
  generalize partErr a b q ds cs = f at HF HN E0 E1 E2 E3 E4
  generalize idErr (a, b) = x0 at C0 E0
  generalize seqErr q = x1 at C1 E1
  generalize cntErr ds.length = x2 at C2 E2
  generalize depsErr (a, b) ds = x3 at C3 E3
  generalize bErr cs = x4 at C4 E4
  generalize ds.length = n at C0 C1 C2 C3 C4 HB
  clear h g hw
  go_enter Tryz.func42, Tryz.ntmps42
  go_wp2
  go_loopw [10] (fun i wr => ∃ k : Nat, k ≤ 5 ∧ i = .int .i64 k ∧ Hid (Looks w a b q (.slice p n cap) (.slice p' m cap') wr) ∧ Hid (∀ j, j < k → f j = 0)) (fun i _ => 5 - (intOf i).toNat)
  case atStart => exact ⟨0, Nat.zero_le _, rfl, HB, Lib.hid fun j hj => absurd hj (Nat.not_lt_zero _)⟩
  case round =>
    obtain ⟨k, hk, rfl, hbx, hno⟩ := hrel
    have c0 := hbx.out.box.c0
    have c1 := hbx.out.box.c1
    have c2 := hbx.out.box.c2
    have c3 := hbx.out.box.c3
    have c4 := hbx.out.box.c4
    have hk5 : k = 0 ∨ k = 1 ∨ k = 2 ∨ k = 3 ∨ k = 4 ∨ k = 5 := by omega
    rcases hk5 with rfl | rfl | rfl | rfl | rfl | rfl
    · have l := hbx.out.l0
      have HQ := Lib.hid (C0.out wr)
      have HE := Lib.hid (fun h => HF.out 0 (by omega) h hno.out)
      have HX := E0
      by_cases hz : x0 = 0
      · subst hz
        go_wp2_with (first
          | (go_at_call 60; (with_reducible refine HQ.out.mono ?_); rintro e w1 ⟨rfl, hb⟩; have HB1 := Lib.hid (hbx.out.on hb); clear hb))
        go_roundw
        case rel => exact ⟨1, by omega, rfl, HB1, Lib.hid fun j hj => by
          by_cases e : j = 0
          · rw [e]; exact HX.out
          · exact hno.out j (by omega)⟩
        case measure => simp [intOf]
      · have HZ := Lib.hid (HE.out (by rw [HX.out]; exact hz))
        go_wp2_with (first
          | (go_at_call 60; (with_reducible refine HQ.out.mono ?_); rintro e w1 ⟨rfl, hb⟩; have HB1 := Lib.hid (hbx.out.on hb); clear hb))
        go_ret
        exact ⟨ret_int (by rw [HZ.out, HX.out]), HB1.out.box.below⟩
    · have l := hbx.out.l1
      have HQ := Lib.hid (C1.out wr)
      have HE := Lib.hid (fun h => HF.out 1 (by omega) h hno.out)
      have HX := E1
      by_cases hz : x1 = 0
      · subst hz
        go_wp2_with (first
          | (go_at_call 61; (with_reducible refine HQ.out.mono ?_); rintro e w1 ⟨rfl, hb⟩; have HB1 := Lib.hid (hbx.out.on hb); clear hb))
        go_roundw
        case rel => exact ⟨2, by omega, rfl, HB1, Lib.hid fun j hj => by
          by_cases e : j = 1
          · rw [e]; exact HX.out
          · exact hno.out j (by omega)⟩
        case measure => simp [intOf]
      · have HZ := Lib.hid (HE.out (by rw [HX.out]; exact hz))
        go_wp2_with (first
          | (go_at_call 61; (with_reducible refine HQ.out.mono ?_); rintro e w1 ⟨rfl, hb⟩; have HB1 := Lib.hid (hbx.out.on hb); clear hb))
        go_ret
        exact ⟨ret_int (by rw [HZ.out, HX.out]), HB1.out.box.below⟩
    · have l := hbx.out.l2
      have HQ := Lib.hid (C2.out wr)
      have HE := Lib.hid (fun h => HF.out 2 (by omega) h hno.out)
      have HX := E2
      by_cases hz : x2 = 0
      · subst hz
        go_wp2_with (first
          | (go_at_call 62; (with_reducible refine HQ.out.mono ?_); rintro e w1 ⟨rfl, hb⟩; have HB1 := Lib.hid (hbx.out.on hb); clear hb))
        go_roundw
        case rel => exact ⟨3, by omega, rfl, HB1, Lib.hid fun j hj => by
          by_cases e : j = 2
          · rw [e]; exact HX.out
          · exact hno.out j (by omega)⟩
        case measure => simp [intOf]
      · have HZ := Lib.hid (HE.out (by rw [HX.out]; exact hz))
        go_wp2_with (first
          | (go_at_call 62; (with_reducible refine HQ.out.mono ?_); rintro e w1 ⟨rfl, hb⟩; have HB1 := Lib.hid (hbx.out.on hb); clear hb))
        go_ret
        exact ⟨ret_int (by rw [HZ.out, HX.out]), HB1.out.box.below⟩
    · have l := hbx.out.l3
      have HQ := Lib.hid (C3.out wr hbx.out.box.below)
      have HE := Lib.hid (fun h => HF.out 3 (by omega) h hno.out)
      have HX := E3
      by_cases hz : x3 = 0
      · subst hz
        go_wp2_with (first
          | (go_at_call 63; (with_reducible refine HQ.out.mono ?_); rintro e w1 ⟨rfl, hb⟩; have HB1 := Lib.hid (hbx.out.on hb); clear hb))
        go_roundw
        case rel => exact ⟨4, by omega, rfl, HB1, Lib.hid fun j hj => by
          by_cases e : j = 3
          · rw [e]; exact HX.out
          · exact hno.out j (by omega)⟩
        case measure => simp [intOf]
      · have HZ := Lib.hid (HE.out (by rw [HX.out]; exact hz))
        go_wp2_with (first
          | (go_at_call 63; (with_reducible refine HQ.out.mono ?_); rintro e w1 ⟨rfl, hb⟩; have HB1 := Lib.hid (hbx.out.on hb); clear hb))
        go_ret
        exact ⟨ret_int (by rw [HZ.out, HX.out]), HB1.out.box.below⟩
    · have l := hbx.out.l4
      have HQ := Lib.hid (C4.out wr hbx.out.box.below)
      have HE := Lib.hid (fun h => HF.out 4 (by omega) h hno.out)
      have HX := E4
      by_cases hz : x4 = 0
      · subst hz
        go_wp2_with (first
          | (go_at_call 64; (with_reducible refine HQ.out.mono ?_); rintro e w1 ⟨rfl, hb⟩; have HB1 := Lib.hid (hbx.out.on hb); clear hb))
        go_roundw
        case rel => exact ⟨5, by omega, rfl, HB1, Lib.hid fun j hj => by
          by_cases e : j = 4
          · rw [e]; exact HX.out
          · exact hno.out j (by omega)⟩
        case measure => simp [intOf]
      · have HZ := Lib.hid (HE.out (by rw [HX.out]; exact hz))
        go_wp2_with (first
          | (go_at_call 64; (with_reducible refine HQ.out.mono ?_); rintro e w1 ⟨rfl, hb⟩; have HB1 := Lib.hid (hbx.out.on hb); clear hb))
        go_ret
        exact ⟨ret_int (by rw [HZ.out, HX.out]), HB1.out.box.below⟩
    · have HZ := Lib.hid (HN.out hno.out)
      go_wp2
      go_ret
      exact ⟨ret_int HZ.out.symm, hbx.out.box.below⟩
end Go.Proofs.YtomidcbpnaajeaaGreat.Rec

/- What the document's Check of a record gives (layer 8, record). Conditions: the lists lie in memory as their cells say; numbers' words of 64 bits; texts of a length that Go reads. -/
namespace Go.Proofs.YtomidcbpnaajeaaGreat.Rec
open Go.RowKit Cmd Bat Ids
set_option linter.unusedVariables false

/-- What a round of the document's loop reads. -/
theorem pair_cells {w : World} {B off : Nat} {ds : List Idn} (h : Row2 w B off ds) {g : Nat} {a b q : Int} {v u : Value} {wr : World} (hx : BoxR w g a b q v u wr) {j k : Nat} (hj : j < ds.length) (hk : k < ds.length) {x y x' y' : Int} (e : nth ds j = (x', y')) (e' : nth ds k = (x, y)) {W : World} (hb : Below wr.heap.size wr W) :
    W.cell? ⟨g, 3, none⟩ = some v ∧ W.cell? ⟨B, off + j * 2, none⟩ = some (.int .i64 x') ∧ W.cell? ⟨B, off + j * 2 + 1, none⟩ = some (.int .i64 y') ∧ W.cell? ⟨B, off + k * 2, none⟩ = some (.int .i64 x) ∧ W.cell? ⟨B, off + k * 2 + 1, none⟩ = some (.int .i64 y) := by
  obtain ⟨a0, a1, a2, a3⟩ := h.pair (hx.on hb).below hj hk e e'
  exact ⟨(hx.on hb).c3, a0, a1, a2, a3⟩
theorem below_via {B : Nat} {a w2 W w3 : World} (h : Below B a w2) (hW : Below W.heap.size W w3) (e1 : W.os = w2.os) (e2 : W.tape = w2.tape) (e3 : W.output = w2.output) (e4 : W.heap = w2.heap) (hB : B ≤ w2.heap.size) : Below B a w3 :=
  ⟨(hW.os.trans e1).trans h.os, (hW.tape.trans e2).trans h.tape, (hW.output.trans e3).trans h.output, Nat.le_trans h.size (by rw [← e4]; exact hW.size), fun k hk => (hW.block k (by rw [e4]; omega)).trans (by rw [e4]; exact h.block k hk)⟩

set_option maxHeartbeats 8000000 in
theorem refcheck_r (a b q : Int) (v u : Value) (ds : List Idn) (cs : List Cmdn) (w : World) (h : RowAt w v ds) (g : layC.Row w u cs) (hw : ∀ x ∈ cs, wfC x) :
    Calls Tryz.prog 20 #[.agg #[.int .i64 a, .int .i64 b, .int .i64 q, v, u]] w (RetBelow (.int .i64 (rErr a b q ds cs)) w) := by
  have HC : Hid (∀ W, Below w.heap.size w W → Calls Tryz.prog 41 #[u] W (RetBelow (.int .i64 (bErr cs)) W)) := Lib.hid fun W hb => Bat.refcheck_any u cs W (g.on hb) hw
  have hu : ∃ p n cap, u = .slice p n cap := by obtain ⟨p, cap, e, _⟩ := g; exact ⟨p, _, cap, e⟩
  obtain ⟨p', m, cap', rfl⟩ := hu
  obtain ⟨p, cap, rfl, h1, h2, -, h3⟩ := h
  have hd : ds.length = 0 ∨ ∃ B off, p = some ⟨B, off, none⟩ ∧ Hid (Row2 w B off ds) := by
    by_cases hz : ds = []
    · left; rw [hz]; rfl
    · right
      obtain ⟨B, off, rfl, hlt, hc⟩ := h3 hz
      exact ⟨B, off, rfl, Lib.hid ⟨hlt, fun j hj => (hc j hj).1, fun j hj => (hc j hj).2⟩⟩
  have hlen : ds.length ≤ 9223372036854775807 := by omega
  have HB := Lib.hid (BoxR.start 42 w a b q (.slice p ds.length cap) (.slice p' m cap'))
  unfold cellsR at HB
  have C0 := Lib.hid (fun W => refid_any a b W)
  have HE : Hid (rErr a b q ds cs = if idErr (a, b) ≠ 0 then idErr (a, b) else if seqErr q ≠ 0 then seqErr q else if cntErr ds.length ≠ 0 then cntErr ds.length else if depsErr (a, b) ds ≠ 0 then depsErr (a, b) ds else bErr cs) := Lib.hid rfl
  have HF : Hid (∀ k, k < ds.length → depErr (a, b) ds k ≠ 0 → (∀ j, j < k → depErr (a, b) ds j = 0) → depsErr (a, b) ds = depErr (a, b) ds k) := Lib.hid fun k hk h hn => deps_first hk h hn
  have HN : Hid ((∀ j, j < ds.length → depErr (a, b) ds j = 0) → depsErr (a, b) ds = 0) := Lib.hid deps_none
  generalize bErr cs = x4 at HC HE
  generalize idErr (a, b) = x0 at C0 HE
  generalize depsErr (a, b) ds = x3 at HE HF HN
  generalize rErr a b q ds cs = r at HE
  clear h3 g hw h2
  obtain ⟨n, hn⟩ : ∃ n, n = ds.length := ⟨_, rfl⟩
  rw [← hn] at h1 hd hlen HB HE HF HN ⊢
  have HL := Lib.hid hn
  clear hn
  by_cases hz0 : x0 = 0
  · subst hz0
    rw [if_neg (fun h => h rfl)] at HE
    by_cases hq1 : q < 1
    · have HE2 : Hid (r = 9) := Lib.hid (by rw [HE.out]; unfold seqErr; rw [if_neg (by omega : ¬ (1 ≤ q ∧ q ≤ 1073741824))]; rfl)
      clear HE HF HN hd HC HL
      go_enter Tryz.func20, Tryz.ntmps20
      go_wp2_with (first
        | (go_at_call 39; (with_reducible refine (C0.out _).mono ?_); rintro e w1 ⟨rfl, hb⟩; have HB1 := Lib.hid (HB.out.on hb); clear hb; have c2 := HB1.out.c2; have c3 := HB1.out.c3))
      go_ret
      exact ⟨ret_int HE2.out.symm, HB1.out.below⟩
    · by_cases hq2 : 1073741824 < q
      · have HE2 : Hid (r = 9) := Lib.hid (by rw [HE.out]; unfold seqErr; rw [if_neg (by omega : ¬ (1 ≤ q ∧ q ≤ 1073741824))]; rfl)
        clear HE HF HN hd HC HL
        go_enter Tryz.func20, Tryz.ntmps20
        go_wp2_with (first
          | (go_at_call 39; (with_reducible refine (C0.out _).mono ?_); rintro e w1 ⟨rfl, hb⟩; have HB1 := Lib.hid (HB.out.on hb); clear hb; have c2 := HB1.out.c2; have c3 := HB1.out.c3))
        go_ret
        exact ⟨ret_int HE2.out.symm, HB1.out.below⟩
      · have hse : seqErr q = 0 := by unfold seqErr; rw [if_pos ⟨by omega, by omega⟩]
        rw [hse, if_neg (fun h => h rfl)] at HE
        clear hse
        by_cases h16 : 16 < n
        · have h17 : 16 < (n : Int) := by omega
          have HE2 : Hid (r = 10) := Lib.hid (by rw [HE.out]; unfold cntErr; rw [if_pos h16]; rfl)
          clear HE HF HN hd HC HL h16
          go_enter Tryz.func20, Tryz.ntmps20
          go_wp2_with (first
            | (go_at_call 39; (with_reducible refine (C0.out _).mono ?_); rintro e w1 ⟨rfl, hb⟩; have HB1 := Lib.hid (HB.out.on hb); clear hb; have c2 := HB1.out.c2; have c3 := HB1.out.c3))
          go_ret
          exact ⟨ret_int HE2.out.symm, HB1.out.below⟩
        · have h17 : ¬ 16 < (n : Int) := by omega
          have hce : cntErr n = 0 := by unfold cntErr; rw [if_neg h16]
          rw [hce, if_neg (fun h => h rfl)] at HE
          clear hce h16
          go_enter Tryz.func20, Tryz.ntmps20
          go_wp2_with (first
            | (go_at_call 39; (with_reducible refine (C0.out _).mono ?_); rintro e w1 ⟨rfl, hb⟩; have HB1 := Lib.hid (HB.out.on hb); clear hb; have c2 := HB1.out.c2; have c3 := HB1.out.c3))
          go_loopw [3] (fun i wr => ∃ k : Nat, k ≤ n ∧ i = .int .i64 k ∧ Hid (BoxR w w.heap.size a b q (.slice p n cap) (.slice p' m cap') wr) ∧ Hid (∀ j, j < k → depErr (a, b) ds j = 0)) (fun i _ => n - (intOf i).toNat)
          case atStart => exact ⟨0, Nat.zero_le _, rfl, HB1, Lib.hid fun j hj => absurd hj (Nat.not_lt_zero _)⟩
          case round =>
            clear c2 c3
            obtain ⟨k, hk, rfl, hbx, hno⟩ := hrel
            have c0 := hbx.out.c0
            have c1 := hbx.out.c1
            have c3 := hbx.out.c3
            have c4 := hbx.out.c4
            by_cases hkn : k < n
            · have HE2 := Lib.hid (fun h => HF.out k hkn h hno.out)
              obtain ⟨B, off, rfl, HR⟩ := hd.resolve_left (by omega)
              have hkl : k < ds.length := by rw [← HL.out]; exact hkn
              obtain ⟨x, y, hxy⟩ : ∃ x y, nth ds k = (x, y) := ⟨_, _, rfl⟩
              have r0 := (HR.out.on hbx.out.below).fst k hkl
              have r1 := (HR.out.on hbx.out.below).snd k hkl
              rw [hxy] at r0 r1
              have HG := Lib.hid (fun W (hb : Below wr.heap.size wr W) => HR.out.pair (hbx.out.on hb).below hkl hkl hxy hxy)
              have CI := Lib.hid (fun W => refid_any x y W)
              have HD : Hid (depErr (a, b) ds k = if idErr (x, y) ≠ 0 then idErr (x, y) else if (x, y) = (a, b) then 6 else if 0 < k ∧ idLt (nth ds (k - 1)) (x, y) = false then 11 else 0) := Lib.hid (by unfold depErr; rw [hxy])
              have HX := Lib.hid hxy
              have HKL := Lib.hid hkl
              have k0 : (0 : Int) ≤ k := by omega
              have kn : (k : Int) < n := by omega
              clear hd hkl hxy
              by_cases hi : idErr (x, y) = 0
              · rw [if_neg (fun h => h hi)] at HD
                rw [hi] at CI
                clear hi
                by_cases hs : (x, y) = (a, b)
                · have hx : x = a := congrArg Prod.fst hs
                  have hy : y = b := congrArg Prod.snd hs
                  subst hx; subst hy
                  rw [if_pos rfl] at HD
                  have HZ : Hid (r = 6) := Lib.hid (by
                    have h1 : depErr (x, y) ds k ≠ 0 := by rw [HD.out]; decide
                    have h2 := HE2.out h1
                    rw [HE.out, if_pos (by rw [h2]; exact h1), h2, HD.out])
                  clear hs
                  go_wp2_with (first
                    | (go_at_call 39; (with_reducible refine (CI.out _).mono ?_); rintro e w2 ⟨rfl, hb⟩; have HB2 := Lib.hid (hbx.out.on hb); obtain ⟨s0, s1, -, -⟩ := HG.out _ hb; have HY := Lib.hid hb; clear hb; have d0 := HB2.out.c0; have d1 := HB2.out.c1; have d3 := HB2.out.c3))
                  go_quiet (fail)
                  go_wp2
                  go_ret
                  exact ⟨ret_int HZ.out.symm, Bat.below_drN HB2.out.below _⟩
                · rw [if_neg hs] at HD
                  have hq : ∀ w, (binOp .eql 32 (.agg #[.int .i64 x, .int .i64 y]) (.agg #[.int .i64 a, .int .i64 b])).run Tryz.prog w = .ok (.bool false) w := fun w => by
                    rw [eql_id]
                    have : (x == a && y == b) = false := by
                      rw [Bool.eq_false_iff]; intro h; rw [Bool.and_eq_true, beq_iff_eq, beq_iff_eq] at h; exact hs (by rw [h.1, h.2])
                    rw [this]
                  clear hs
                  by_cases hk0 : k = 0
                  · subst hk0
                    have HZ : Hid (depErr (a, b) ds 0 = 0) := Lib.hid (by rw [HD.out, if_neg (by omega)])
                    rw [Nat.zero_mul, Nat.add_zero] at r0 r1 HG
                    clear HD HE2
                    go_wp2_with (first
                      | (go_at_call 39; (with_reducible refine (CI.out _).mono ?_); rintro e w2 ⟨rfl, hb⟩; have HB2 := Lib.hid (hbx.out.on hb); obtain ⟨s0, s1, -, -⟩ := HG.out _ hb; have HY := Lib.hid hb; clear hb; have d0 := HB2.out.c0; have d1 := HB2.out.c1; have d3 := HB2.out.c3))
                    go_quiet (fail)
                    go_wp2
                    go_quiet (fail)
                    go_wp2
                    go_roundw
                    case rel => exact ⟨1, by omega, rfl, Lib.hid (HB2.out.on (Bat.below_draws _ _)), Lib.hid fun j hj => by
                      by_cases e : j = 0
                      · rw [e]; exact HZ.out
                      · exact hno.out j (by omega)⟩
                    case measure => simp [intOf]; omega
                  · obtain ⟨l, hl⟩ : ∃ l, k = l + 1 := ⟨k - 1, by omega⟩
                    obtain ⟨x', y', hxy'⟩ : ∃ x y, nth ds l = (x, y) := ⟨_, _, rfl⟩
                    have hll : l < ds.length := by have := HKL.out; omega
                    have HC2 : Hid (∀ W, Calls Tryz.prog 40 #[.agg #[.int .i64 x', .int .i64 y'], .agg #[.int .i64 x, .int .i64 y]] W (RetBelow (.bool (idLt (x', y') (x, y))) W)) := Lib.hid fun W => (Ids.less_any x' y' x y W).mono fun e w' ⟨h1, h2⟩ => ⟨h1, by rw [h2]; exact below_two _ _ _ _ _⟩
                    have HS := Lib.hid (fun W (hb : Below wr.heap.size wr W) => pair_cells HR.out hbx.out hll HKL.out hxy' HX.out hb)
                    have HE3 : Hid (depErr (a, b) ds k = if idLt (x', y') (x, y) = false then 11 else 0) := Lib.hid (by
                      rw [HD.out, show k - 1 = l by omega, hxy']
                      by_cases e : idLt (x', y') (x, y) = false
                      · rw [if_pos ⟨by omega, e⟩, if_pos e]
                      · rw [if_neg (fun h => e h.2), if_neg e])
                    have k1 : (0 : Int) < k := by omega
                    have kd : decide (0 < k) = true := decide_eq_true (by omega)
                    have l0 : (0 : Int) ≤ l := by omega
                    have ln : (l : Int) < n := by omega
                    have lw : IntKind.i64.wrap ((k : Int) - 1) = l := by rw [show (k : Int) - 1 = l by omega]; exact IntWalk.i64_in _ (by omega)
                    generalize idLt (x', y') (x, y) = z at HC2 HE3
                    clear HD hxy' hll hk0 hl
                    cases z
                    · have HZ : Hid (r = 11) := Lib.hid (by
                        have h1 : depErr (a, b) ds k ≠ 0 := by rw [HE3.out]; decide
                        have h2 := HE2.out h1
                        rw [HE.out, if_pos (by rw [h2]; exact h1), h2, HE3.out]; rfl)
                      go_wp2_with (first
                        | (go_at_call 39; (with_reducible refine (CI.out _).mono ?_); rintro e w2 ⟨rfl, hb⟩; have HB2 := Lib.hid (hbx.out.on hb); obtain ⟨s0, s1, -, -⟩ := HG.out _ hb; have HY := Lib.hid hb; clear hb; have d0 := HB2.out.c0; have d1 := HB2.out.c1; have d3 := HB2.out.c3))
                      go_quiet (fail)
                      go_wp2
                      go_region_held3 (fun w' => w'.cell? ⟨w.heap.size, 3, none⟩ = some (.slice (some ⟨B, off, none⟩) n cap) ∧ w'.cell? ⟨B, off + l * 2, none⟩ = some (.int .i64 x') ∧ w'.cell? ⟨B, off + l * 2 + 1, none⟩ = some (.int .i64 y') ∧ w'.cell? ⟨B, off + k * 2, none⟩ = some (.int .i64 x) ∧ w'.cell? ⟨B, off + k * 2 + 1, none⟩ = some (.int .i64 y))
                        (first
                          | exact HS.out _ HD3.out
                          | exact HS.out _ (Bat.below_drN HY.out _)
                          | exact HS.out _ (Bat.below_drN HY.out _).drew
                          | go_keep)
                        (first
                          | (go_at_call 40; (with_reducible refine (HC2.out _).mono ?_); rintro e w3 ⟨rfl, hb⟩; have HD3 := Lib.hid (below_via HY.out hb rfl rfl rfl rfl HY.out.size); clear hb))
                      go_wp2
                      go_ret
                      exact ⟨ret_int HZ.out.symm, hbx.out.below.trans (HD3.out.mono hbx.out.below.size)⟩
                    · have HZ : Hid (depErr (a, b) ds k = 0) := Lib.hid (by rw [HE3.out]; rfl)
                      go_wp2_with (first
                        | (go_at_call 39; (with_reducible refine (CI.out _).mono ?_); rintro e w2 ⟨rfl, hb⟩; have HB2 := Lib.hid (hbx.out.on hb); obtain ⟨s0, s1, -, -⟩ := HG.out _ hb; have HY := Lib.hid hb; clear hb; have d0 := HB2.out.c0; have d1 := HB2.out.c1; have d3 := HB2.out.c3))
                      go_quiet (fail)
                      go_wp2
                      go_region_held3 (fun w' => w'.cell? ⟨w.heap.size, 3, none⟩ = some (.slice (some ⟨B, off, none⟩) n cap) ∧ w'.cell? ⟨B, off + l * 2, none⟩ = some (.int .i64 x') ∧ w'.cell? ⟨B, off + l * 2 + 1, none⟩ = some (.int .i64 y') ∧ w'.cell? ⟨B, off + k * 2, none⟩ = some (.int .i64 x) ∧ w'.cell? ⟨B, off + k * 2 + 1, none⟩ = some (.int .i64 y))
                        (first
                          | exact HS.out _ HD3.out
                          | exact HS.out _ (Bat.below_drN HY.out _)
                          | exact HS.out _ (Bat.below_drN HY.out _).drew
                          | go_keep)
                        (first
                          | (go_at_call 40; (with_reducible refine (HC2.out _).mono ?_); rintro e w3 ⟨rfl, hb⟩; have HD3 := Lib.hid (below_via HY.out hb rfl rfl rfl rfl HY.out.size); clear hb))
                      go_wp2
                      go_roundw
                      case rel => exact ⟨k + 1, by omega, by go_num, Lib.hid (hbx.out.on HD3.out), Lib.hid fun j hj => by
                        by_cases e : j = k
                        · rw [e]; exact HZ.out
                        · exact hno.out j (by omega)⟩
                      case measure => simp [intOf]; omega
              · rw [if_pos hi] at HD
                have HZ : Hid (r = idErr (x, y)) := Lib.hid (by
                  have h1 : depErr (a, b) ds k ≠ 0 := by rw [HD.out]; exact hi
                  have h2 := HE2.out h1
                  rw [HE.out, if_pos (by rw [h2]; exact h1), h2, HD.out])
                go_wp2_with (first
                  | (go_at_call 39; (with_reducible refine (CI.out _).mono ?_); rintro e w2 ⟨rfl, hb⟩; have HB2 := Lib.hid (hbx.out.on hb); obtain ⟨s0, s1, -, -⟩ := HG.out _ hb; clear hb; have d3 := HB2.out.c3)
                  | (go_at_call 39; (with_reducible refine (CI.out _).mono ?_); rintro e w3 ⟨rfl, hb⟩; have HB3 := Lib.hid (HB2.out.on hb); clear hb))
                go_ret
                exact ⟨ret_int HZ.out.symm, HB3.out.below⟩
            · have kn : ¬ (k : Int) < n := by omega
              obtain rfl : k = n := by omega
              have HZ : Hid (r = x4) := Lib.hid (by rw [HE.out, HN.out hno.out]; rfl)
              have HQ := Lib.hid (HC.out wr hbx.out.below)
              go_wp2_with (first
                | (go_at_call 41; (with_reducible refine HQ.out.mono ?_); rintro e w2 ⟨rfl, hb⟩; have HB2 := Lib.hid (hbx.out.on hb); clear hb))
              go_ret
              exact ⟨ret_int HZ.out.symm, HB2.out.below⟩
  · rw [if_pos hz0] at HE
    clear HF HN hd HC HL
    go_enter Tryz.func20, Tryz.ntmps20
    go_wp2_with (first
      | (go_at_call 39; (with_reducible refine (C0.out _).mono ?_); rintro e w1 ⟨rfl, hb⟩; have HB1 := Lib.hid (HB.out.on hb); clear hb; have c0 := HB1.out.c0; have c1 := HB1.out.c1)
      | (go_at_call 39; (with_reducible refine (C0.out _).mono ?_); rintro e w2 ⟨rfl, hb⟩; have HB2 := Lib.hid (HB1.out.on hb); clear hb))
    go_ret
    exact ⟨ret_int HE.out.symm, HB2.out.below⟩
end Go.Proofs.YtomidcbpnaajeaaGreat.Rec
