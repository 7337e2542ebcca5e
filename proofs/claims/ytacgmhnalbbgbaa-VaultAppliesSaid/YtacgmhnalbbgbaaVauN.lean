/- What the vault's do gives, told at once; the row of results while it is written; the vault's count (layer 13, vault). Conditions: the vault lies in memory as its cells and its maps say; bounds on how much there is. -/
import Derived.Test.YtacgmhnalbbgbaaVauJ
import Derived.Laws.IdiomCopy
import Derived.Laws.MakeOwn
import Derived.Test.YtacgmhnalbbgbaaDigB
import Derived.Test.YtacgmhnalbbgbaaWirF
import Derived.Lib.ConvBytes
import Derived.ArgAppend
import Derived.Test.YtacgmhnalbbgbaaCodA
namespace Go.Proofs.Ytacgmhnalbbgbaa.Vau
open Go.RowKit F64 Cmd Bat Cel Wid Go.Maps Go.WideElems Go.ChangeMaps Go.Sort
set_option linter.unusedVariables false
set_option linter.unusedSimpArgs false

theorem Fit.fz {f : Bool} {z : Nat} {c : Cell2} (h : Fit f z c) : Fit f z (fz c) := by
  unfold Cel.fz
  split
  · exact h
  · rename_i hc
    have hf : f = false := by rw [h.found]; exact Bool.eq_false_iff.2 hc
    have hz := h.plain hf
    subst hz
    exact ⟨hf, rfl, fun _ => rfl, by decide⟩
theorem CellIs.fits {o : Option Value} {c : Cell2} (h : CellIs o c) : ∃ cb cz, o.getD (.agg #[.bool false, .float .f64 0]) = .agg #[.bool cb, .float .f64 cz] ∧ Fit cb cz c ∧ (o = none → cb = false ∧ cz = 0) ∧ (∀ v, o = some v → cb = true) := by
  cases o with
  | none => exact ⟨false, 0, rfl, h, fun _ => ⟨rfl, rfl⟩, fun v hv => (by cases hv)⟩
  | some v => obtain ⟨z, rfl, hz⟩ := h; exact ⟨true, z, rfl, hz, fun e => (by cases e), fun _ _ => rfl⟩
theorem CellIs.of {o : Option Value} {c d : Cell2} (h : CellIs o c) (hcd : ∀ f z, Fit f z c → Fit f z d) : CellIs o d := by
  cases o with
  | none => exact hcd _ _ h
  | some v => obtain ⟨z, rfl, hz⟩ := h; exact ⟨z, rfl, hcd _ _ hz⟩
theorem VP.cells' {w : World} {base : Nat} {F : Nat → Prop} {g : Nat} {C C' : Key → Cell2} {L L' : Key → List Wr} {N : Nat} {cnt : Int} (V : VP w base F g C L N cnt) (hC : ∀ s f z, Fit f z (C s) → Fit f z (C' s)) (hL : ∀ s, L' s = L s) : VP w base F g C' L' N cnt := by
  rw [(funext hL : L' = L)]
  obtain ⟨mc, ml, f, h, V⟩ := V
  exact ⟨mc, ml, f, h, V.blk, V.cm, V.lm, fun s => (V.ci s).of (hC s), V.no, V.yes, V.own, V.apart, V.ne, V.fg, V.fmc, V.fml, V.foot⟩
def nextC (C : Key → Cell2) (x : Cmdn) : Key → Cell2 := fun t => stepK t (C t) x
def nextL (L : Key → List Wr) (id : Int × Int) (p : Int) (x : Cmdn) : Key → List Wr := fun t => L t ++ (if wrote t x then [(id, p)] else [])
def GivesDid (base : Nat) (F : Nat → Prop) (g : Nat) (C : Key → Cell2) (L : Key → List Wr) (N : Nat) (cnt : Int) (id : Int × Int) (p : Int) (x : Cmdn) (w : World) (E : Ending) (w' : World) : Prop :=
  ∃ f z, E = .returned (.agg #[.bool f, .float .f64 z]) ∧ Fit f z (doC (C x.2.1) x.1 x.2.1 x.2.2).2 ∧ VP w' base (More F w.heap.size w'.heap.size) g (nextC C x) (nextL L id p x) (N + 1 + 1) cnt ∧ Only F w w'
theorem vdo_any {w : World} {base : Nat} {F : Nat → Prop} {g : Nat} {C : Key → Cell2} {L : Key → List Wr} {N : Nat} {cnt : Int} (V : VP w base F g C L N cnt) (hbase : base ≤ w.heap.size) (k : Int) (s : Key) (x : Nat) (a b p : Int) (hx : x < 18446744073709551616) (hr : cRight k s x = true) (hN : N ≤ 100000) (hL : (L s).length ≤ 100000) :
    Calls Try.prog 31 #[vptr g, .agg #[.int .i64 k, .string (str s), .float .f64 x], .agg #[.int .i64 a, .int .i64 b, .int .i64 p]] w (GivesDid base F g C L N cnt (a, b) p (k, s, x) w) := by
  obtain ⟨mc, ml, f, h, V⟩ := V
  obtain ⟨cb, cz, hcell, hfit, hno, hyes⟩ := (V.ci s).fits
  have hs : s.length ≤ 1000 := by have := (key_parts (right_parts hr).1).2.1; omega
  have hcz := hfit.lt
  cases hw : cWrites k s x with
  | false =>
    have hk : k = 1 := by
      unfold cWrites at hw; rw [hr] at hw
      simpa using hw
    refine (vdo_get V hbase k s x a b p hx hs hN hL cb cz hcz hcell hw).mono fun E w' ⟨f2, z2, hE, h2, hb⟩ => ⟨f2, z2, hE, Fit.told hfit h2, ?_, Only.of F hb⟩
    have V' : VP w' base (More F w.heap.size w'.heap.size) g C L (N + 1 + 1) cnt := (VP.more ⟨mc, ml, f, h, V.on hb⟩ (fun k hk => .inl hk) (fun j hj => by
      rcases hj with hj | hj
      · exact (V.on hb).foot j hj
      · exact ⟨by omega, hj.2⟩)).mono (by omega)
    refine V'.cells' (fun t f z hf => ?_) (fun t => ?_)
    · show Fit f z (stepK t (C t) (k, s, x))
      unfold stepK
      split
      · show Fit f z (doC (C t) k s x).1
        unfold doC
        rw [if_neg (by rw [hr]; decide), if_neg (by omega), if_neg (by omega), if_neg (by omega)]
        exact Fit.fz hf
      · exact hf
    · show L t ++ _ = L t
      have : wrote t (k, s, x) = false := by unfold wrote; subst hk; simp
      rw [this]; simp
  | true =>
    have hk : k ≠ 1 := by
      unfold cWrites at hw; rw [hr] at hw
      simpa using hw
    have hCC : ∀ t f z, Fit f z (if t = s then (doC (cb, cz) k s x).1 else C t) → Fit f z (nextC C (k, s, x) t) := fun t f z hf => by
      unfold nextC stepK
      by_cases e : t = s
      · rw [if_pos e] at hf
        rw [if_pos e.symm, e]
        exact Fit.step hfit hf
      · rw [if_neg e] at hf
        rw [if_neg (fun e2 => e e2.symm)]; exact hf
    have hLL : ∀ t, nextL L (a, b) p (k, s, x) t = if t = s then L s ++ [((a, b), p)] else L t := fun t => by
      unfold nextL wrote right
      by_cases e : t = s
      · rw [if_pos e, e]; simp [hr, hk]
      · rw [if_neg e]; simp [show ¬ s = t from fun e2 => e e2.symm]
    cases hf : (doC (cb, cz) k s x).1.1 with
    | true => exact (vdo_put V hbase k s x a b p hx hs hN hL cb cz hcz hcell hw hf).mono fun E w' ⟨f2, z2, hE, h2, hv, ho⟩ => ⟨f2, z2, hE, Fit.told hfit h2, hv.cells' hCC hLL, ho⟩
    | false => exact (vdo_del V hbase k s x a b p hx hs hN hL cb cz hcz hcell hw hf).mono fun E w' ⟨f2, z2, hE, h2, hv, ho⟩ => ⟨f2, z2, hE, Fit.told hfit h2, hv.cells' hCC hLL, ho⟩

/-! ### The row of results while it is written -/
structure Tl (tb n : Nat) (ys : List Rs) (W : World) : Prop where
  blk : ∃ cur, W.heap[tb]? = some (.cells cur 61 (0, 0)) ∧ cur.size = n * 5
  le : ys.length ≤ n
  cell : ∀ j, j < ys.length → layR.lies W tb (j * 5) (layR.at ys j)
theorem liesR_block {W W' : World} {b o : Nat} {x : Rs} (h : layR.lies W b o x) (e : W'.heap[b]? = W.heap[b]?) : layR.lies W' b o x := by
  obtain ⟨h0, h1, h2, h3, h4⟩ := h
  have he : ∀ i, W'.cell? ⟨b, i, none⟩ = W.cell? ⟨b, i, none⟩ := fun i => World.cell?_of_block (w := W) (a := ⟨b, i, none⟩) e
  exact ⟨(he _).trans h0, (he _).trans h1, (he _).trans h2, (he _).trans h3, (he _).trans h4⟩
theorem Tl.lt {tb n : Nat} {ys : List Rs} {W : World} (h : Tl tb n ys W) : tb < W.heap.size := by obtain ⟨cur, hb, _⟩ := h.blk; exact (Array.getElem?_eq_some_iff.1 hb).1
theorem Tl.same {tb n : Nat} {ys : List Rs} {W W' : World} (h : Tl tb n ys W) (e : W'.heap[tb]? = W.heap[tb]?) : Tl tb n ys W' :=
  ⟨by obtain ⟨cur, hb, hs⟩ := h.blk; exact ⟨cur, e.trans hb, hs⟩, h.le, fun j hj => liesR_block (h.cell j hj) e⟩
theorem Tl.start (w : World) (n : Nat) (cs : Array Value) (hs : cs.size = n * 5) : Tl w.heap.size n [] (w.alloc (.cells cs 61)) :=
  ⟨⟨cs, heap_alloc_new w _, hs⟩, Nat.zero_le _, fun j hj => absurd hj (Nat.not_lt_zero _)⟩
theorem Tl.facts {tb n : Nat} {ys : List Rs} {W : World} (h : Tl tb n ys W) {k i : Nat} (hk : k < n) (hi : i < 5) : (∃ u, W.cell? ⟨tb, k * 5 + i, none⟩ = some u) ∧ W.frozen? ⟨tb, k * 5 + i, none⟩ = false := by
  obtain ⟨cur, hb, hs⟩ := h.blk
  have hlt : k * 5 + i < cur.size := by rw [hs]; omega
  exact ⟨⟨cur[k * 5 + i], by simp [World.cell?, hb, hlt]⟩, by simp [World.frozen?, hb]⟩
theorem Tl.put {tb n : Nat} {ys : List Rs} {W : World} (h : Tl tb n ys W) (hk : ys.length < n) (y : Rs) : Tl tb n (ys ++ [y]) (W.setCells tb (ys.length * 5) [.int .i64 y.1.1, .int .i64 y.1.2, .int .i64 y.2.1, .bool y.2.2.1, .float .f64 y.2.2.2]) := by
  have hin := World.cell?_setCells_in tb [.int .i64 y.1.1, .int .i64 y.1.2, .int .i64 y.2.1, .bool y.2.2.1, .float .f64 y.2.2.2] (ys.length * 5) W (fun j hj => by
    obtain ⟨⟨u, hu⟩, -⟩ := h.facts hk (i := j) (by simpa using hj)
    rw [hu]; rfl)
  refine ⟨?_, by rw [List.length_append]; simp; omega, fun j hj => ?_⟩
  · obtain ⟨cur, hb, hs⟩ := h.blk
    refine ⟨_, Go.Joins.block_setCell (Go.Joins.block_setCell (Go.Joins.block_setCell (Go.Joins.block_setCell (Go.Joins.block_setCell hb _) _) _) _) _, by simp [hs]⟩
  · by_cases e : j = ys.length
    · subst e
      have ea : layR.at (ys ++ [y]) ys.length = y := by rw [layR.at_get (by simp)]; simp
      rw [ea]
      have g0 := hin 0 (by simp)
      have g1 := hin 1 (by simp)
      have g2 := hin 2 (by simp)
      have g3 := hin 3 (by simp)
      have g4 := hin 4 (by simp)
      exact ⟨g0, g1, g2, g3, g4⟩
    · have hj' : j < ys.length := by rw [List.length_append] at hj; simp at hj; omega
      rw [at_left layR hj']
      have hout : ∀ i, i < 5 → (W.setCells tb (ys.length * 5) [.int .i64 y.1.1, .int .i64 y.1.2, .int .i64 y.2.1, .bool y.2.2.1, .float .f64 y.2.2.2]).cell? ⟨tb, j * 5 + i, none⟩ = W.cell? ⟨tb, j * 5 + i, none⟩ := fun i hi =>
        World.cell?_setCells_out tb _ _ W ⟨tb, j * 5 + i, none⟩ (fun _ _ => .inl (by show j * 5 + i < ys.length * 5; omega))
      obtain ⟨h0, h1, h2, h3, h4⟩ := h.cell j hj'
      exact ⟨(hout 0 (by omega)).trans h0, (hout 1 (by omega)).trans h1, (hout 2 (by omega)).trans h2, (hout 3 (by omega)).trans h3, (hout 4 (by omega)).trans h4⟩
theorem Tl.row {tb n : Nat} {ys : List Rs} {W : World} (h : Tl tb n ys W) (hn : ys.length = n) (hm : n ≤ 1000) : layR.Row W (.slice (some ⟨tb, 0, none⟩) n n) ys := by
  refine ⟨_, n, by rw [hn], by omega, by omega, fun _ => ⟨tb, 0, rfl, h.lt, fun j hj => ?_⟩⟩
  have := h.cell j hj
  show layR.lies W tb (0 + j * 5) _
  rw [Nat.zero_add]; exact this

/-! ### The count -/
theorem VP.count {w : World} {base : Nat} {F : Nat → Prop} {g : Nat} {C : Key → Cell2} {L : Key → List Wr} {N : Nat} {cnt : Int} (V : VP w base F g C L N cnt) (c' : Int) : VP (w.setCell ⟨g, 2, none⟩ (.int .i64 c')) base F g C L N c' ∧ Only F w (w.setCell ⟨g, 2, none⟩ (.int .i64 c')) := by
  obtain ⟨mc, ml, f, h, V⟩ := V
  have hfar : ∀ k, k ≠ g → (w.setCell ⟨g, 2, none⟩ (.int .i64 c')).heap[k]? = w.heap[k]? := fun k hk => Below.heap_setCell _ ⟨g, 2, none⟩ _ k hk
  have hsz : (w.setCell ⟨g, 2, none⟩ (.int .i64 c')).heap.size = w.heap.size := by simp
  have hb : (w.setCell ⟨g, 2, none⟩ (.int .i64 c')).heap[g]? = some (.cells #[.map (some mc), .map (some ml), .int .i64 c'] 67 (0, 0)) := Go.Joins.block_setCell V.blk (.int .i64 c')
  refine ⟨⟨mc, ml, f, h, hb, V.cm.block (hfar mc V.ng.1.symm), V.lm.block (hfar ml V.ng.2.symm), V.ci, V.no, fun s v hv => ⟨ownL_block (V.yes s v hv).1 (fun k hk => by
    obtain ⟨k', h1, h2, h3, _⟩ := V.own s v hv
    rw [h1] at hk; cases hk
    exact hfar k h3), (V.yes s v hv).2⟩, V.own, V.apart, V.ne, V.fg, V.fmc, V.fml, fun b hf => by rw [hsz]; exact V.foot b hf⟩, ?_⟩
  exact ⟨(Below.refl 0 w).setCell (p := ⟨g, 2, none⟩) (Nat.zero_le _) _, fun b hb' hF => hfar b (fun e => hF (by rw [e]; exact V.fg))⟩
end Go.Proofs.Ytacgmhnalbbgbaa.Vau

/- What the vault's Apply gives: a batch, on a vault in memory (layer 13, vault). Conditions: the vault lies in memory as its cells and its maps say, the batch where the vault does not write; bounds on how much there is. (Written by tools/gen_vaul.py.) -/
namespace Go.Proofs.Ytacgmhnalbbgbaa.Vau
open Go.RowKit F64 Cmd Bat Cel Wid Go.Maps Go.WideElems Go.ChangeMaps Go.Sort
set_option linter.unusedVariables false
set_option linter.unusedSimpArgs false

def resA (C : Key → Cell2) (id : Int × Int) (cs : List Cmdn) (k : Nat) : Rs := (id, (k : Int), (doC (cellB (layC.at cs k).2.1 (C (layC.at cs k).2.1) (cs.take k)) (layC.at cs k).1 (layC.at cs k).2.1 (layC.at cs k).2.2).2)
def resQ (C : Key → Cell2) (id : Int × Int) (cs : List Cmdn) (k : Nat) : List Rs := (List.range k).map (resA C id cs)
theorem resQ_succ (C : Key → Cell2) (id : Int × Int) (cs : List Cmdn) (k : Nat) : resQ C id cs (k + 1) = resQ C id cs k ++ [resA C id cs k] := by
  unfold resQ; rw [List.range_succ, List.map_append]; rfl
theorem resQ_len (C : Key → Cell2) (id : Int × Int) (cs : List Cmdn) (k : Nat) : (resQ C id cs k).length = k := by unfold resQ; rw [List.length_map, List.length_range]
theorem resB_eq (xs : List Itm) (id : Int × Int) (cs : List Cmdn) : resB xs id cs = resQ (cellOf xs) id cs cs.length := rfl
def kC (C : Key → Cell2) (cs : List Cmdn) : Key → Cell2 := fun t => cellB t (C t) cs
def kL (L : Key → List Wr) (id : Int × Int) (cs : List Cmdn) : Key → List Wr := fun t => L t ++ logB t id 0 cs
theorem kC_next (C : Key → Cell2) (cs : List Cmdn) {k : Nat} (h : k < cs.length) : nextC (kC C (cs.take k)) (layC.at cs k) = kC C (cs.take (k + 1)) := by
  funext t; unfold nextC kC; rw [cellB_step h]
theorem kL_next (L : Key → List Wr) (id : Int × Int) (cs : List Cmdn) {k : Nat} (h : k < cs.length) : nextL (kL L id (cs.take k)) id (k : Int) (layC.at cs k) = kL L id (cs.take (k + 1)) := by
  funext t; unfold nextL kL; rw [logB_step h, List.append_assoc]
theorem kL_len {L : Key → List Wr} {id : Int × Int} {cs : List Cmdn} {m : Nat} (h : ∀ s, (L s).length ≤ m) (s : Key) : (kL L id cs s).length ≤ m + cs.length := by
  unfold kL; rw [List.length_append]
  have := h s; have := logB_len s id cs 0; omega
theorem bErr_ok {cs : List Cmdn} (h : bErr cs = 0) : cs.length ≤ 8 ∧ ∀ x ∈ cs, right x = true := by
  unfold bErr at h
  split at h
  · omega
  · split at h
    · omega
    · rename_i h1 h2
      refine ⟨by omega, fun x hx => ?_⟩
      cases hr : right x with
      | true => rfl
      | false => exact absurd (List.any_eq_true.2 ⟨x, hx, by rw [hr]; rfl⟩) h2
theorem VP.cnt {w : World} {base : Nat} {F : Nat → Prop} {g : Nat} {C : Key → Cell2} {L : Key → List Wr} {N : Nat} {cnt : Int} (V : VP w base F g C L N cnt) : w.cell? ⟨g, 2, none⟩ = some (.int .i64 cnt) ∧ w.frozen? ⟨g, 2, none⟩ = false ∧ F g := by
  obtain ⟨mc, ml, f, h, V⟩ := V
  have hb := V.blk
  exact ⟨V.cells.2.2.1, by simp [World.frozen?, hb], V.fg⟩
/-- While the batch is done: k commands are. -/
structure Ap (w : World) (base : Nat) (F : Nat → Prop) (g : Nat) (C : Key → Cell2) (L : Key → List Wr) (N : Nat) (cnt a b : Int) (cs : List Cmdn) (n b0 tb : Nat) (k : Nat) (ys : List Rs) (G : Nat → Prop) (W : World) : Prop where
  vp : VP W base G g (kC C (cs.take k)) (kL L (a, b) (cs.take k)) (N + k + k) cnt
  only : Only F w W
  foot : ∀ j, G j → F j ∨ tb < j
  box : W.heap[b0]? = some (.cells #[.int .i64 a, .int .i64 b] 27 (0, 0))
  tl : Tl tb n ys W
  len : ys.length = k
  fits : Fits ys (resQ C (a, b) cs k)
theorem Ap.drew {w : World} {base : Nat} {F : Nat → Prop} {g : Nat} {C : Key → Cell2} {L : Key → List Wr} {N : Nat} {cnt a b : Int} {cs : List Cmdn} {n b0 tb k : Nat} {ys : List Rs} {G : Nat → Prop} {W W' : World} (h : Ap w base F g C L N cnt a b cs n b0 tb k ys G W) (hb : Below W.heap.size W W') : Ap w base F g C L N cnt a b cs n b0 tb k ys G W' :=
  ⟨h.vp.on hb, h.only.trans (Only.of F hb) (fun k hk => .inl hk), h.foot, (hb.block _ (Array.getElem?_eq_some_iff.1 h.box).1).trans h.box, h.tl.same (hb.block _ h.tl.lt), h.len, h.fits⟩
theorem setCells5_far (W : World) (tb o : Nat) (v0 v1 v2 v3 v4 : Value) {j : Nat} (hj : j ≠ tb) : (W.setCells tb o [v0, v1, v2, v3, v4]).heap[j]? = W.heap[j]? := by
  show ((((((W.setCell ⟨tb, o, none⟩ _).setCell ⟨tb, o + 1, none⟩ _).setCell ⟨tb, o + 1 + 1, none⟩ _).setCell ⟨tb, o + 1 + 1 + 1, none⟩ _).setCell ⟨tb, o + 1 + 1 + 1 + 1, none⟩ _)).heap[j]? = _
  exact (Below.heap_setCell _ ⟨tb, _, none⟩ _ j hj).trans ((Below.heap_setCell _ ⟨tb, _, none⟩ _ j hj).trans ((Below.heap_setCell _ ⟨tb, _, none⟩ _ j hj).trans ((Below.heap_setCell _ ⟨tb, _, none⟩ _ j hj).trans (Below.heap_setCell _ ⟨tb, _, none⟩ _ j hj))))
theorem Ap.next {w : World} {base : Nat} {F : Nat → Prop} {g : Nat} {C : Key → Cell2} {L : Key → List Wr} {N : Nat} {cnt a b : Int} {cs : List Cmdn} {n b0 tb k : Nat} {ys : List Rs} {G : Nat → Prop} {W W3 : World} {f : Bool} {z : Nat} (h : Ap w base F g C L N cnt a b cs n b0 tb k ys G W) (hkc : k < cs.length) (hkn : k < n) (h1 : w.heap.size ≤ b0) (h2 : b0 < tb) (hF : ∀ j, F j → j < w.heap.size)
    (hv : VP W3 base (More G W.heap.size W3.heap.size) g (nextC (kC C (cs.take k)) (layC.at cs k)) (nextL (kL L (a, b) (cs.take k)) (a, b) (k : Int) (layC.at cs k)) (N + k + k + 1 + 1) cnt) (ho : Only G W W3)
    (hfit : Fit f z (doC (kC C (cs.take k) (layC.at cs k).2.1) (layC.at cs k).1 (layC.at cs k).2.1 (layC.at cs k).2.2).2) :
    Ap w base F g C L N cnt a b cs n b0 tb (k + 1) (ys ++ [((a, b), (k : Int), (f, z))]) (More G W.heap.size W3.heap.size) (W3.setCells tb (k * 5) [.int .i64 a, .int .i64 b, .int .i64 (k : Int), .bool f, .float .f64 z]) := by
  have hlt := h.tl.lt
  have hGtb : ∀ j, j ≤ tb → w.heap.size ≤ j → ¬ G j := fun j hj hw hg => by
    rcases h.foot j hg with e | e
    · have := hF j e; omega
    · omega
  have htl3 : Tl tb n ys W3 := h.tl.same (ho.block tb hlt (hGtb tb (Nat.le_refl _) (by omega)))
  have hk5 : k * 5 = ys.length * 5 := by rw [h.len]
  have hset : ∀ j, j ≠ tb → (W3.setCells tb (k * 5) [.int .i64 a, .int .i64 b, .int .i64 (k : Int), .bool f, .float .f64 z]).heap[j]? = W3.heap[j]? := fun j hj => by
    show ((((((W3.setCell ⟨tb, k * 5, none⟩ _).setCell ⟨tb, k * 5 + 1, none⟩ _).setCell ⟨tb, k * 5 + 1 + 1, none⟩ _).setCell ⟨tb, k * 5 + 1 + 1 + 1, none⟩ _).setCell ⟨tb, k * 5 + 1 + 1 + 1 + 1, none⟩ _)).heap[j]? = _
    exact (Below.heap_setCell _ ⟨tb, _, none⟩ _ j hj).trans ((Below.heap_setCell _ ⟨tb, _, none⟩ _ j hj).trans ((Below.heap_setCell _ ⟨tb, _, none⟩ _ j hj).trans ((Below.heap_setCell _ ⟨tb, _, none⟩ _ j hj).trans (Below.heap_setCell _ ⟨tb, _, none⟩ _ j hj))))
  have hbs : Below 0 W3 (W3.setCells tb (k * 5) [.int .i64 a, .int .i64 b, .int .i64 (k : Int), .bool f, .float .f64 z]) := ((((((Below.refl 0 W3).setCell (p := ⟨tb, k * 5, none⟩) (Nat.zero_le _) _).setCell (p := ⟨tb, k * 5 + 1, none⟩) (Nat.zero_le _) _).setCell (p := ⟨tb, k * 5 + 1 + 1, none⟩) (Nat.zero_le _) _).setCell (p := ⟨tb, k * 5 + 1 + 1 + 1, none⟩) (Nat.zero_le _) _).setCell (p := ⟨tb, k * 5 + 1 + 1 + 1 + 1, none⟩) (Nat.zero_le _) _)
  have hot : Only (fun j => j = tb) W3 (W3.setCells tb (k * 5) [.int .i64 a, .int .i64 b, .int .i64 (k : Int), .bool f, .float .f64 z]) := ⟨hbs, fun j _ hj => hset j hj⟩
  refine ⟨?_, ?_, fun j hj => ?_, ?_, ?_, by rw [List.length_append, h.len]; rfl, ?_⟩
  · rw [kC_next C cs hkc, kL_next L (a, b) cs hkc] at hv
    refine (hv.mono (by omega)).far hot (fun j hj e => ?_)
    subst e
    rcases hj with hj | hj
    · exact hGtb j (Nat.le_refl _) (by omega) hj
    · omega
  · exact (h.only.trans ho (fun j hj => (h.foot j hj).imp id (fun e => by omega))).trans hot (fun j hj => .inr (by omega))
  · rcases hj with hj | hj
    · exact h.foot j hj
    · exact .inr (by omega)
  · exact (hset b0 (by omega)).trans ((ho.block b0 (by omega) (hGtb b0 (by omega) h1)).trans h.box)
  · have := htl3.put (by rw [h.len]; exact hkn) ((a, b), (k : Int), (f, z))
    rw [← hk5] at this; exact this
  · rw [resQ_succ]
    exact h.fits.snoc ⟨rfl, rfl, hfit⟩

/-! ### Apply -/
def GivesApply (base : Nat) (F : Nat → Prop) (g : Nat) (C : Key → Cell2) (L : Key → List Wr) (N : Nat) (cnt : Int) (id : Int × Int) (cs : List Cmdn) (w : World) (E : Ending) (w' : World) : Prop :=
  ∃ (tb : Nat) (ys : List Rs) (G : Nat → Prop), E = .returned (.tuple #[.slice (some ⟨tb, 0, none⟩) cs.length cs.length, .int .i64 0]) ∧ Tl tb cs.length ys w' ∧ ys.length = cs.length ∧ Fits ys (resQ C id cs cs.length) ∧ VP w' base G g (kC C cs) (kL L id cs) (N + cs.length + cs.length) (cnt + 1) ∧ Only F w w' ∧ (∀ j, G j → F j ∨ tb < j) ∧ w.heap.size ≤ tb
theorem inC_same {w W : World} {F : Nat → Prop} {p : Option Addr} {n cap B off : Nat} {cs : List Cmdn} (h : layC.Row W (.slice p n cap) cs) (hn : 0 < cs.length) (hp : p = some ⟨B, off, none⟩) : layC.In W B off cs := by
  obtain ⟨p', cap', e, _, _, h3⟩ := h
  injection e with e1 _ _
  obtain ⟨B', off', e2, hi⟩ := h3 (by rintro rfl; simp at hn)
  rw [← e1, hp] at e2
  injection e2 with e2
  injection e2 with e3 e4
  subst e3; subst e4; exact hi
theorem make_res (n : Nat) (hn : n ≤ 8) : ∃ Z : Array Value, Z.size = n * 5 ∧ ∀ W : World, (Instr.makeSlice 31 (.int .i64 (n : Int)) (.int .i64 (n : Int))).run Try.prog W = .ok (.slice (some ⟨W.heap.size, 0, none⟩) n n) (W.alloc (.cells Z 61)) := by
  obtain ⟨i0, hi, hz0, hz1, hz2⟩ := info_parts wtR.inf
  refine ⟨madeCells (.agg #[.int .i64 0, .int .i64 0, .int .i64 0, .bool false, .float .f64 0] : Value).cells (n * 5), size_madeCells _ _, fun W => ?_⟩
  · have h := run_makeSlice (P := Try.prog) (w := W) 31 61 i0 _ Try.underlying31 hi hz0 .i64 .i64 (n : Int) (n : Int) (by omega) (by omega) (by rw [hz1]; show (n : Int).toNat * 5 ≤ _; omega) (by rw [hz2]; omega) (by omega)
    rw [hz1, Int.toNat_natCast] at h
    exact h
set_option maxHeartbeats 4000000 in
set_option maxRecDepth 100000 in
theorem vapply_wrong (g : Nat) (a b : Int) (v : Value) (cs : List Cmdn) (w : World) (hrow : layC.Row w v cs) (hw : ∀ x ∈ cs, wfC x) (he : bErr cs ≠ 0) : Calls Try.prog 9 #[vptr g, .agg #[.int .i64 a, .int .i64 b], v] w (RetBelow (.tuple #[.slice none 0 0, .int .i64 (bErr cs)]) w) := by
  have B0 := Lib.hid (Cmd.below_one w (.cells #[.int .i64 a, .int .i64 b] 27))
  have CK := Lib.hid (bcheck_any v cs _ (hrow.on B0.out) hw)
  generalize bErr cs = e at CK he ⊢
  have he2 : (e != 0) = true := by simpa using he
  obtain ⟨p, cap, rfl, -⟩ := hrow
  unfold vptr
  clear hw
  go_enter Try.func9, Try.ntmps9
  go_wp2_with (first
    | (go_at_call 30; (with_reducible refine CK.out.mono ?_); rintro E w1 ⟨rfl, hb⟩; have B1 := Lib.hid (B0.out.trans (hb.mono B0.out.size)); clear hb))
  go_ret2
  exact ⟨rfl, B1.out⟩
set_option maxHeartbeats 4000000 in
set_option maxRecDepth 100000 in
theorem vapply_nil (a b : Int) (v : Value) (cs : List Cmdn) (w : World) (hrow : layC.Row w v cs) : Calls Try.prog 9 #[.pointer none, .agg #[.int .i64 a, .int .i64 b], v] w (RetBelow (.tuple #[.slice none 0 0, .int .i64 2]) w) := by
  have B0 := Lib.hid (Cmd.below_one w (.cells #[.int .i64 a, .int .i64 b] 27))
  obtain ⟨p, cap, rfl, -⟩ := hrow
  go_enter Try.func9, Try.ntmps9
  go_wp2
  go_ret2
  exact ⟨rfl, B0.out⟩
set_option maxHeartbeats 16000000 in
set_option maxRecDepth 100000 in
theorem vapply_any {w : World} {base : Nat} {F : Nat → Prop} {g : Nat} {C : Key → Cell2} {L : Key → List Wr} {N : Nat} {cnt : Int} (V : VP w base F g C L N cnt) (hbase : base ≤ w.heap.size) (a b : Int) (v : Value) (cs : List Cmdn) (hrow : ∀ W, Only F w W → layC.Row W v cs) (hw : ∀ x ∈ cs, wfC x) (he : bErr cs = 0) (hN : N ≤ 50000) (hL : ∀ s, (L s).length ≤ 50000) (hc0 : 0 ≤ cnt) (hc1 : cnt ≤ 100000) :
    Calls Try.prog 9 #[vptr g, .agg #[.int .i64 a, .int .i64 b], v] w (GivesApply base F g C L N cnt (a, b) cs w) := by
  obtain ⟨hn8, hright⟩ := bErr_ok he
  have hrow0 := hrow w (Only.refl F w)
  have B0 := Lib.hid (Cmd.below_one w (.cells #[.int .i64 a, .int .i64 b] 27))
  have X0 : Hid ((w.alloc (.cells #[.int .i64 a, .int .i64 b] 27)).heap[w.heap.size]? = some (.cells #[.int .i64 a, .int .i64 b] 27 (0, 0))) := Lib.hid (heap_alloc_new w _)
  have CK := Lib.hid (bcheck_any v cs _ (hrow0.on B0.out) hw)
  rw [he] at CK
  have HROW := Lib.hid hrow
  obtain ⟨p, cap, rfl, h1, hd⟩ := hrow0.parts
  obtain ⟨n, hn⟩ : ∃ n, n = cs.length := ⟨_, rfl⟩
  have HN := Lib.hid hn
  rw [← hn] at h1 hd hn8 CK HROW
  have HIN : Hid (∀ B off, p = some ⟨B, off, none⟩ → 0 < n → ∀ W, Only F w W → layC.In W B off cs) := Lib.hid fun B off hp h0 W ho => inC_same (w := w) (F := F) (HROW.out W ho) (by omega) hp
  obtain ⟨Z, hZ, hmk⟩ := make_res n hn8
  have HMK := Lib.hid hmk
  clear hmk
  have HZ := Lib.hid hZ
  have HV := Lib.hid V
  have HFL : Hid (∀ j, F j → j < w.heap.size) := Lib.hid fun j hj => (V.foot j hj).2
  have HRT := Lib.hid hright
  have HWF := Lib.hid hw
  have HBA := Lib.hid hbase
  have HNN := Lib.hid hN
  have HLL := Lib.hid hL
  have hwrap : IntKind.i64.wrap (cnt + 1) = cnt + 1 := by rw [IntKind.wrap_i64]; omega
  have HPOST : Hid (∀ E w', (∃ (tb : Nat) (ys : List Rs) (G : Nat → Prop), E = .returned (.tuple #[.slice (some ⟨tb, 0, none⟩) n n, .int .i64 0]) ∧ Tl tb n ys w' ∧ ys.length = n ∧ Fits ys (resQ C (a, b) cs n) ∧ VP w' base G g (kC C (cs.take n)) (kL L (a, b) (cs.take n)) (N + n + n) (cnt + 1) ∧ Only F w w' ∧ (∀ j, G j → F j ∨ tb < j) ∧ w.heap.size ≤ tb) → GivesApply base F g C L N cnt (a, b) cs w E w') := Lib.hid fun E w' h => by
    unfold GivesApply
    rw [hn, List.take_length] at h
    exact h
  generalize hPQ : GivesApply base F g C L N cnt (a, b) cs w = Q at HPOST ⊢
  rw [← hn]
  clear hPQ V hrow hw he hN hL hbase hright hn hrow0 HROW hc0 hc1 hZ
  unfold vptr
  go_enter Try.func9, Try.ntmps9
  go_wp2_with (first
    | (go_at_call 30; go_loud ((with_reducible refine CK.out.mono ?_); rintro E w1 ⟨rfl, hb⟩; have B1 := Lib.hid (B0.out.trans (hb.mono B0.out.size)); have X1 := Lib.hid ((hb.block _ (Array.getElem?_eq_some_iff.1 X0.out).1).trans X0.out); have hmk1 := HMK.out w1; have B2 := Lib.hid (B1.out.alloc B1.out.size (.cells Z 61)); have X2 := Lib.hid (((Cmd.below_one w1 (.cells Z 61)).block _ (Array.getElem?_eq_some_iff.1 X1.out).1).trans X1.out); have T2 := Lib.hid (Tl.start w1 n Z HZ.out); have S1 : Hid (w.heap.size < w1.heap.size) := Lib.hid (Array.getElem?_eq_some_iff.1 X1.out).1; clear hb)))
  clear hmk1
  go_loopw [24] (fun i wr => ∃ (k : Nat) (ys : List Rs) (G : Nat → Prop), k ≤ n ∧ i = .int .i64 k ∧ Hid (Ap w base F g C L N cnt a b cs n w.heap.size w1.heap.size k ys G wr)) (fun i _ => n - (intOf i).toNat)
  case atStart =>
    refine ⟨0, [], F, Nat.zero_le _, rfl, Lib.hid ⟨?_, Only.of F B2.out, fun j hj => .inl hj, X2.out, T2.out, rfl, Fits.nil⟩⟩
    exact (HV.out.on B2.out).like (fun s => rfl) (fun s => by unfold kL; simp [logB])
  case round =>
    obtain ⟨k, ys, G, hk, rfl, HA⟩ := hrel
    have k0 : (0 : Int) ≤ k := by omega
    by_cases hkn : k < n
    · have kn : (k : Int) < n := by omega
      obtain ⟨B, off, rfl, -⟩ := hd.resolve_left (by omega)
      have hkx : k < cs.length := by rw [← HN.out]; exact hkn
      obtain ⟨kk, s, x, hx⟩ : ∃ kk s x, layC.at cs k = (kk, s, x) := ⟨_, _, _, rfl⟩
      obtain ⟨c0, c1, c2⟩ := cellC (HIN.out B off rfl (by omega) wr HA.out.only) hkx hx
      have hwx := HWF.out _ (layC.at_mem hkx)
      have hrx := HRT.out _ (layC.at_mem hkx)
      rw [hx] at hwx hrx
      have HX := Lib.hid hx
      have HKX := Lib.hid hkx
      have hb1 := Cmd.below_one wr (.cells #[.int .i64 kk, .string (str s), .float .f64 x] 37)
      have HA1 := Lib.hid (HA.out.drew (hb1.trans (Below.refl _ _).drew))
      have HQ : Hid ((wr.alloc (.cells #[.int .i64 kk, .string (str s), .float .f64 x] 37)).drew.heap[wr.heap.size]? = some (.cells #[.int .i64 kk, .string (str s), .float .f64 x] 37 (0, 0))) := Lib.hid (heap_alloc_new wr _)
      have HSZ : Hid ((wr.alloc (.cells #[.int .i64 kk, .string (str s), .float .f64 x] 37)).drew.heap.size = wr.heap.size + 1) := Lib.hid (by simp)
      have HS : Hid (∀ W : World, W.heap[w.heap.size]? = some (.cells #[.int .i64 a, .int .i64 b] 27 (0, 0)) → W.heap[wr.heap.size]? = some (.cells #[.int .i64 kk, .string (str s), .float .f64 x] 37 (0, 0)) → W.cell? ⟨w.heap.size, 0, none⟩ = some (.int .i64 a) ∧ W.cell? ⟨w.heap.size, 1, none⟩ = some (.int .i64 b) ∧ W.cell? ⟨wr.heap.size, 0, none⟩ = some (.int .i64 kk) ∧ W.cell? ⟨wr.heap.size, 1, none⟩ = some (.string (str s)) ∧ W.cell? ⟨wr.heap.size, 2, none⟩ = some (.float .f64 x)) := Lib.hid fun W e1 e2 => ⟨by simp [World.cell?, e1], by simp [World.cell?, e1], by simp [World.cell?, e2], by simp [World.cell?, e2], by simp [World.cell?, e2]⟩
      have CDO : Hid (Calls Try.prog 31 #[.pointer (some ⟨g, 0, none⟩), .agg #[.int .i64 kk, .string (str s), .float .f64 x], .agg #[.int .i64 a, .int .i64 b, .int .i64 (k : Int)]] (wr.alloc (.cells #[.int .i64 kk, .string (str s), .float .f64 x] 37)).drew (GivesDid base G g (kC C (cs.take k)) (kL L (a, b) (cs.take k)) (N + k + k) cnt (a, b) (k : Int) (kk, s, x) (wr.alloc (.cells #[.int .i64 kk, .string (str s), .float .f64 x] 37)).drew)) := Lib.hid (vdo_any HA1.out.vp (by have := HBA.out; have := HA1.out.only.below.size; omega) kk s x a b (k : Int) hwx.1 hrx (by have := HNN.out; omega) (by have := kL_len (id := (a, b)) (cs := cs.take k) HLL.out s; rw [List.length_take] at this; omega))
      have HGN : Hid (∀ j, j ≤ w1.heap.size → w.heap.size ≤ j → ¬ G j) := Lib.hid fun j hj hw hg => by
        rcases HA1.out.foot j hg with e | e
        · have := HFL.out j e; omega
        · omega
      have hGQ : Hid (¬ G wr.heap.size) := Lib.hid fun hg => by have := (HA.out.vp.foot _ hg).2; omega
      have HTL1 : Hid (w1.heap.size < wr.heap.size) := Lib.hid HA.out.tl.lt
      clear hx hwx hrx hkx hd hb1
      go_wp2_with fail
      refine wp_region_held_drew (S := (fun w' => w'.cell? ⟨w.heap.size, 0, none⟩ = some (.int .i64 a) ∧ w'.cell? ⟨w.heap.size, 1, none⟩ = some (.int .i64 b) ∧ w'.cell? ⟨wr.heap.size, 0, none⟩ = some (.int .i64 kk) ∧ w'.cell? ⟨wr.heap.size, 1, none⟩ = some (.string (str s)) ∧ w'.cell? ⟨wr.heap.size, 2, none⟩ = some (.float .f64 x))) (by kernel_rfl) (HS.out _ HA1.out.box HQ.out) (fun hHeld => ?_)
      generalize (wr.alloc (.cells #[.int .i64 kk, .string (str s), .float .f64 x] 37)).drew = W0 at HA1 HQ CDO HSZ hHeld ⊢
      refine wpAnyH_take (i := 0) (v := ?_) rfl (by kernel_rfl) (by kernel_rfl) (by kernel_rfl) (fun _ _ _ h => h) (Or.inl ⟨by rfl, fun w hSw => ?_⟩) (by assumption) ?_
      rotate_left
      · (try dsimp only at hSw); go_simp; (try with_reducible rfl)
      try simp only [List.getElem_toArray, List.getElem_cons_succ, List.getElem_cons_zero, Act.put, List.setIfInBounds_toArray, List.set_cons_zero, List.set_cons_succ]
      refine wpAnyH_take (i := 1) (v := ?_) rfl (by kernel_rfl) (by kernel_rfl) (by kernel_rfl) (fun _ _ _ h => h) (Or.inl ⟨by rfl, fun w hSw => ?_⟩) (by assumption) ?_
      rotate_left
      · (try dsimp only at hSw); go_simp; (try with_reducible rfl)
      try simp only [List.getElem_toArray, List.getElem_cons_succ, List.getElem_cons_zero, Act.put, List.setIfInBounds_toArray, List.set_cons_zero, List.set_cons_succ]
      refine wpAnyH_take (i := 2) (v := ?_) rfl (by kernel_rfl) (by kernel_rfl) (by kernel_rfl) (fun _ _ _ h => h) (Or.inl ⟨by rfl, fun w hSw => ?_⟩) (by assumption) ?_
      rotate_left
      · (try dsimp only at hSw); go_simp; (try with_reducible rfl)
      try simp only [List.getElem_toArray, List.getElem_cons_succ, List.getElem_cons_zero, Act.put, List.setIfInBounds_toArray, List.set_cons_zero, List.set_cons_succ]
      refine wpAnyH_take (i := 3) (v := ?_) rfl (by kernel_rfl) (by kernel_rfl) (by kernel_rfl) (fun _ _ _ h => h) (Or.inl ⟨by rfl, fun w hSw => ?_⟩) (by assumption) ?_
      rotate_left
      · (try dsimp only at hSw); go_simp; (try with_reducible rfl)
      try simp only [List.getElem_toArray, List.getElem_cons_succ, List.getElem_cons_zero, Act.put, List.setIfInBounds_toArray, List.set_cons_zero, List.set_cons_succ]
      refine wpAnyH_take (i := 4) (v := ?_) rfl (by kernel_rfl) (by kernel_rfl) (by kernel_rfl) (fun _ _ _ h => h) (Or.inl ⟨by rfl, fun w hSw => ?_⟩) (by assumption) ?_
      rotate_left
      · (try dsimp only at hSw); go_simp; (try with_reducible rfl)
      try simp only [List.getElem_toArray, List.getElem_cons_succ, List.getElem_cons_zero, Act.put, List.setIfInBounds_toArray, List.set_cons_zero, List.set_cons_succ]
      refine wpAnyH_take (i := 5) (v := ?_) rfl (by kernel_rfl) (by kernel_rfl) (by kernel_rfl) (fun _ _ _ h => h) (Or.inl ⟨by rfl, fun w hSw => ?_⟩) (by assumption) ?_
      rotate_left
      · (try dsimp only at hSw); go_simp; (try with_reducible rfl)
      try simp only [List.getElem_toArray, List.getElem_cons_succ, List.getElem_cons_zero, Act.put, List.setIfInBounds_toArray, List.set_cons_zero, List.set_cons_succ]
      refine wpAnyH_take (i := 6) (v := ?_) rfl (by kernel_rfl) (by kernel_rfl) (by kernel_rfl) (fun _ _ _ h => h) (Or.inl ⟨by rfl, fun w hSw => ?_⟩) (by assumption) ?_
      rotate_left
      · (try dsimp only at hSw); go_simp; (try with_reducible rfl)
      try simp only [List.getElem_toArray, List.getElem_cons_succ, List.getElem_cons_zero, Act.put, List.setIfInBounds_toArray, List.set_cons_zero, List.set_cons_succ]
      refine wpAnyH_take (i := 7) (v := ?_) rfl (by kernel_rfl) (by kernel_rfl) (by kernel_rfl) (fun _ _ _ h => h) (Or.inl ⟨by rfl, fun w hSw => ?_⟩) (by assumption) ?_
      rotate_left
      · (try dsimp only at hSw); go_simp; (try with_reducible rfl)
      try simp only [List.getElem_toArray, List.getElem_cons_succ, List.getElem_cons_zero, Act.put, List.setIfInBounds_toArray, List.set_cons_zero, List.set_cons_succ]
      refine wpAnyH_take (i := 8) (v := ?_) rfl (by kernel_rfl) (by kernel_rfl) (by kernel_rfl) (fun _ _ _ h => h) (Or.inl ⟨by rfl, fun w hSw => ?_⟩) (by assumption) ?_
      rotate_left
      · (try dsimp only at hSw); go_simp; (try with_reducible rfl)
      try simp only [List.getElem_toArray, List.getElem_cons_succ, List.getElem_cons_zero, Act.put, List.setIfInBounds_toArray, List.set_cons_zero, List.set_cons_succ]
      have HA2 : Hid (wr.heap.size ≤ W0.heap.size) := Lib.hid (by rw [HSZ.out]; omega)
      have HA3 : Hid (wr.heap.size < W0.heap.size) := Lib.hid (by rw [HSZ.out]; omega)
      refine wpAnyH_ready (rs := [9]) (by kernel_rfl) (by simp) ?_
      refine AllReadyH.cons rfl (fun K hK => ?_) ?_
      rotate_left
      · exact AllReadyH.nil
      go_simp
      (go_at_call 31; (with_reducible refine CDO.out.mono ?_); rintro E w3 ⟨f, z, rfl, hfit, hv, ho⟩; have HFT := Lib.hid hfit; have HVP := Lib.hid hv; have HO := Lib.hid ho; have E1 := Lib.hid ((HO.out.block _ (Nat.lt_trans S1.out (Nat.lt_of_lt_of_le HTL1.out HA2.out)) (HGN.out _ (Nat.le_of_lt S1.out) (Nat.le_refl _))).trans HA1.out.box); have E2 := Lib.hid ((HO.out.block _ HA3.out hGQ.out).trans HQ.out); have T3 := Lib.hid (HA1.out.tl.same (HO.out.block _ HA1.out.tl.lt (HGN.out _ (Nat.le_refl _) (Nat.le_of_lt S1.out)))); clear hfit hv ho)
      refine hK.out _ _ ?_ (fun hHeld => ?_)
      · exact HS.out _ E1.out E2.out
      clear hK K
      try simp only [List.getElem_toArray, List.getElem_cons_succ, List.getElem_cons_zero, Act.put, List.setIfInBounds_toArray, List.set_cons_zero, List.set_cons_succ]
      refine wpAnyH_take (i := 10) (v := ?_) rfl (by kernel_rfl) (by kernel_rfl) (by kernel_rfl) (fun _ _ _ h => h) (Or.inl ⟨by rfl, fun w hSw => ?_⟩) (by assumption) ?_
      rotate_left
      · (try dsimp only at hSw); go_simp; (try with_reducible rfl)
      try simp only [List.getElem_toArray, List.getElem_cons_succ, List.getElem_cons_zero, Act.put, List.setIfInBounds_toArray, List.set_cons_zero, List.set_cons_succ]
      refine wpAnyH_take (i := 11) (v := ?_) rfl (by kernel_rfl) (by kernel_rfl) (by kernel_rfl) (fun _ _ _ h => h) (Or.inl ⟨by rfl, fun w hSw => ?_⟩) (by assumption) ?_
      rotate_left
      · (try dsimp only at hSw); go_simp; (try with_reducible rfl)
      try simp only [List.getElem_toArray, List.getElem_cons_succ, List.getElem_cons_zero, Act.put, List.setIfInBounds_toArray, List.set_cons_zero, List.set_cons_succ]
      obtain ⟨⟨u0, e0⟩, t0⟩ := T3.out.facts hkn (i := 0) (by omega)
      obtain ⟨⟨u1, e1⟩, t1⟩ := T3.out.facts hkn (i := 1) (by omega)
      obtain ⟨⟨u2, e2⟩, t2⟩ := T3.out.facts hkn (i := 2) (by omega)
      obtain ⟨⟨u3, e3⟩, t3⟩ := T3.out.facts hkn (i := 3) (by omega)
      obtain ⟨⟨u4, e4⟩, t4⟩ := T3.out.facts hkn (i := 4) (by omega)
      rw [Nat.add_zero] at e0 t0
      have E3 := Lib.hid ((setCells5_far w3 w1.heap.size (k * 5) (.int .i64 a) (.int .i64 b) (.int .i64 (k : Int)) (.bool f) (.float .f64 z) (Nat.ne_of_lt S1.out)).trans E1.out)
      have E4 := Lib.hid ((setCells5_far w3 w1.heap.size (k * 5) (.int .i64 a) (.int .i64 b) (.int .i64 (k : Int)) (.bool f) (.float .f64 z) (Nat.ne_of_gt HTL1.out)).trans E2.out)
      refine wpAnyH_ready (rs := [12]) (by kernel_rfl) (by simp) ?_
      refine AllReadyH.cons rfl (fun K hK => ?_) ?_
      rotate_left
      · exact AllReadyH.nil
      go_simp
      skip
      refine hK.out _ _ ?_ (fun hHeld => ?_)
      · exact HS.out _ E3.out E4.out
      clear hK K
      try simp only [List.getElem_toArray, List.getElem_cons_succ, List.getElem_cons_zero, Act.put, List.setIfInBounds_toArray, List.set_cons_zero, List.set_cons_succ]
      refine wpAnyH_done (by kernel_rfl) ?_ _

      go_wp2_with fail
      go_roundw
      case rel => exact ⟨k + 1, ys ++ [((a, b), (k : Int), (f, z))], More G W0.heap.size w3.heap.size, by omega, by go_num, Lib.hid (HA1.out.next HKX.out hkn (Nat.le_refl _) S1.out HFL.out (by rw [HX.out]; exact HVP.out) HO.out (by rw [HX.out]; exact HFT.out))⟩
      case measure => simp [intOf]; omega
    · obtain rfl : k = n := by omega
      have kn : ¬ (k : Int) < k := by omega
      obtain ⟨g2, g3, hFg⟩ := HA.out.vp.cnt
      have HP := Lib.hid (VP.count HA.out.vp (cnt + 1))
      have hGg : ∀ j, j ≤ w1.heap.size → w.heap.size ≤ j → ¬ G j := fun j hj hw hg => by
        rcases HA.out.foot j hg with e | e
        · have := HFL.out j e; omega
        · omega
      have HGG := Lib.hid hGg
      clear hd hFg hGg
      go_wp2_with fail
      exact HPOST.out _ _ ⟨w1.heap.size, ys, G, rfl, HA.out.tl.same (HP.out.2.block _ HA.out.tl.lt (HGG.out _ (Nat.le_refl _) (Nat.le_of_lt S1.out))), HA.out.len, HA.out.fits, HP.out.1, HA.out.only.trans HP.out.2 (fun j hj => (HA.out.foot j hj).imp id (fun e => by have := S1.out; omega)), HA.out.foot, Nat.le_of_lt S1.out⟩
end Go.Proofs.Ytacgmhnalbbgbaa.Vau

/- What the vault's Keys and Digest give (layer 13, vault). Conditions: the vault lies in memory as its cells and its maps say; it has at most 100000 keys. -/
namespace Go.Proofs.Ytacgmhnalbbgbaa.Vau
open Go.RowKit F64 Cmd Bat Cel Wid Go.Maps Go.WideElems Go.ChangeMaps Go.Sort
set_option linter.unusedVariables false
set_option linter.unusedSimpArgs false

/-! ### Keys -/
structure CollR (ks : List Key) (f : Key → Option Value) (left : Lit → Bool) (ss : List Key) : Prop where
  nodup : ss.Nodup
  mem : ∀ s, s ∈ ss ↔ ((f s).isSome = true ∧ left (.string s) = false)
  sub : ∀ s ∈ ss, s ∈ ks
theorem CollR.start {D : DataW Value} {ks : List Key} {f : Key → Option Value} (S : Says D ks f) : CollR ks f (Maps.has D) [] :=
  ⟨.nil, fun s => ⟨fun h => (by cases h), fun ⟨h1, h2⟩ => by rw [S.has s, h1] at h2; cases h2⟩, fun s h => (by cases h)⟩
theorem CollR.len {ks : List Key} {f : Key → Option Value} {left : Lit → Bool} {ss : List Key} (h : CollR ks f left ss) : ss.length ≤ ks.length := nodup_len h.nodup h.sub
theorem left_after {left : Lit → Bool} {s t : Key} : (left (.string t) && !(Lit.string t).sameKey (.string s)) = false ↔ (left (.string t) = false ∨ t = s) := by
  rw [Bool.and_eq_false_iff]
  refine or_congr_right ⟨fun h => ?_, fun h => ?_⟩
  · have h2 : (Lit.string t).sameKey (.string s) = true := by simpa using h
    have := WideAt.sameKey_eq h2
    injection this
  · rw [h]
    have := WideAt.sameKey_self (klit s)
    rw [this]; rfl
theorem CollR.step {D : DataW Value} {ks : List Key} {f : Key → Option Value} {left : Lit → Bool} {ss : List Key} (S : Says D ks f) (h : CollR ks f left ss) {s : Key} {v : Value} (hf : f s = some v) (hl : left (.string s) = true) : CollR ks f (fun z => left z && !z.sameKey (.string s)) (ss ++ [s]) := by
  have hns : s ∉ ss := fun hm => by have := ((h.mem s).1 hm).2; rw [hl] at this; cases this
  refine ⟨List.nodup_append.2 ⟨h.nodup, by simp, fun a ha b hb => ?_⟩, fun t => ?_, fun t ht => ?_⟩
  · rw [List.mem_singleton.1 hb]; rintro rfl; exact hns ha
  · rw [List.mem_append, List.mem_singleton, h.mem t, left_after]
    constructor
    · rintro (⟨h1, h2⟩ | rfl)
      · exact ⟨h1, .inl h2⟩
      · exact ⟨by rw [hf]; rfl, .inr rfl⟩
    · rintro ⟨h1, h2 | rfl⟩
      · exact .inl ⟨h1, h2⟩
      · exact .inr rfl
  · rcases List.mem_append.1 ht with ht | ht
    · exact h.sub t ht
    · rw [List.mem_singleton.1 ht, S.mem s, hf]; rfl
theorem VM.isome {w : World} {base : Nat} {F : Nat → Prop} {g mc ml : Nat} {f h : Key → Option Value} {C : Key → Cell2} {L : Key → List Wr} {N : Nat} {cnt : Int} (V : VM w base F g mc ml f h C L N cnt) (s : Key) : (f s).isSome = (C s).1 := by
  have hc := V.ci s
  cases hf : f s with
  | none => rw [hf] at hc; have h : Fit false 0 (C s) := hc; rw [← h.found]; rfl
  | some v => rw [hf] at hc; obtain ⟨z, -, hz⟩ := hc; rw [← hz.found]; rfl
theorem own_snoc {w : World} {base : Nat} {v : Value} {zs : List Key} {x : Key} (h : w.ownsRow base 9 1 v (zs.length + 1) (zs.map encStr ++ [.string (str x)])) : OwnS w base v (zs ++ [x]) := OwnS.snoc h

set_option maxHeartbeats 16000000 in
set_option maxRecDepth 100000 in
theorem vkeys_any {w : World} {base : Nat} {F : Nat → Prop} {g : Nat} {C : Key → Cell2} {L : Key → List Wr} {N : Nat} {cnt : Int} (V : VP w base F g C L N cnt) (hN : N ≤ 100000) (kk : List Key) (hkk : ∀ s, s ∈ kk ↔ (C s).1 = true) : Calls Try.prog 35 #[vptr g] w (layS.Gives (kset kk) w) := by
  obtain ⟨i0, hi, hz0, hz1, hz2⟩ := info_parts info_str
  obtain ⟨mc, ml, f, h, V⟩ := V
  obtain ⟨D, ks, hD, S, hle⟩ := V.cm
  have HD : Hid (∀ W, Below w.heap.size w W → W.ownsMap Try.prog 9 raw mc ks.length D) := Lib.hid fun W hb => by
    obtain ⟨es, c, hb2, r⟩ := hD
    exact ⟨es, c, (hb.block mc (Array.getElem?_eq_some_iff.1 hb2).1).trans hb2, r⟩
  have HS := Lib.hid S
  have HKK : Hid (∀ s, (f s).isSome = true ↔ s ∈ kk) := Lib.hid fun s => by rw [V.isome s, hkk]
  have HLE : Hid (ks.length ≤ 100000) := Lib.hid (by omega)
  have CH := Lib.hid (held_any V)
  have HMC : Hid (mc < w.heap.size) := Lib.hid (V.foot mc V.fmc).2
  unfold vptr at CH ⊢
  clear V hD S hle hkk hN
  go_enter Try.func35, Try.ntmps35
  go_wp2_with (first
    | (go_at_call 38; (with_reducible refine CH.out.mono ?_); rintro E wq ⟨rfl, hb⟩; have HB1 := Lib.hid hb; clear hb; have hown := HD.out wq HB1.out)
    | (at_range; refine wpList_range_own _ rfl _ 64 rfl 9 54 klaw und_mc raw mc ks.length D rfl hown ?_; intro w0 hrg0 hg0 hs0; have HRG := Lib.hid hrg0; have HG0 := Lib.hid hg0; have HS0 := Lib.hid hs0; clear hrg0 hg0 hs0)
    | fail)
  try go_frame
  have HMQ : Hid (mc < wq.heap.size) := Lib.hid (Nat.lt_of_lt_of_le HMC.out HB1.out.size)
  clear hown
  go_loopw [3] (fun o wr => ∃ (left : Lit → Bool) (cnt : Nat) (ss : List Key), Hid (GoingR wr mc wq.heap.size ks.length D left cnt) ∧ Hid (OwnS wr (wq.heap.size + 1) o ss) ∧ Hid (Below wq.heap.size wq wr) ∧ Hid (wq.heap.size + 1 ≤ wr.heap.size) ∧ Hid (CollR ks f left ss)) (fun _ wr => wr.rangeLeft mc wq.heap.size)
  case atStart =>
    exact ⟨_, _, [], HRG, Lib.hid (World.ownsRow_nil _ _ _ _), Lib.hid (Below.grown (Below.refl _ _) HG0.out (Nat.le_refl _) (fun k hk => by cases hk)), Lib.hid (by rw [HS0.out]; exact Nat.le_refl _), Lib.hid (CollR.start HS.out)⟩
  case round =>
    obtain ⟨left, cnt, ss, hrg, hrow, hbw2, hsz, hC⟩ := hrel
    go_wp2_with (first
      | (at_next; refine wp_next_raw rfl _ rfl mc wq.heap.size ks.length D ks f HS.out left cnt rfl hrg.out ?_ ?_)
      | fail)
    · refine Lib.hid fun hl0 => ?_
      have HL : Hid (ss.mergeSort leB = kset kk) := Lib.hid (sorted_kset hC.out.nodup fun s => by rw [hC.out.mem s, hl0]; simp only [and_true]; exact HKK.out s)
      have HSO := Lib.hid (sort_own (wq.heap.size + 1) u3 ss wr hrow.out (Nat.le_trans hC.out.len HLE.out))
      clear hl0
      go_wp2_with (go_at_call 58; ((with_reducible refine HSO.out.mono ?_); rintro e w3 ⟨rfl, ho3, hg3⟩; have HO3 := Lib.hid ho3; have HG3 := Lib.hid hg3; clear ho3 hg3))
      go_ret
      have hb3 : Below wq.heap.size wq w3 := below_grown hbw2.out (by omega) hrow.out hbw2.out.size HG3.out
      exact ⟨_, rfl, rowS (by rw [← HL.out]; exact HO3.out), HB1.out.trans (hb3.mono HB1.out.size)⟩
    · refine Lib.hid ?_
      intro s c w2 cnt2 hf hlen hlk hrg2 hlt hg2 hs2 hen
      have hsz2 : wq.heap.size + 1 ≤ w2.heap.size := by rw [hs2]; exact hsz.out
      have HB2 : Hid (Below wq.heap.size wq w2) := Lib.hid (Below.grown hbw2.out hg2 hbw2.out.size (fun k hk => by cases hk; exact Nat.le_refl _))
      have HO2 : Hid (OwnS w2 (wq.heap.size + 1) u3 ss) := Lib.hid (World.ownsRow.kept hrow.out hg2 (.inr (own_low hrow.out (by omega)).symm))
      have HG2 := Lib.hid hrg2
      have HC2 := Lib.hid (hC.out.step HS.out hf hlk)
      have HCL := Lib.hid (clone_any s w2 (by omega))
      have HSZ := Lib.hid hsz2
      have HLT := Lib.hid hlt
      have hol : ss.length ≤ 100000 := Nat.le_trans hC.out.len HLE.out
      clear hrg2 hlt hg2 hs2 hsz2 hf hlk hlen
      go_wp2_with (first
        | (go_at_call 55; ((with_reducible refine HCL.out.mono ?_); rintro e w3 ⟨rfl, hb⟩; have HB3 := Lib.hid (HB2.out.trans (hb.mono HB2.out.size)); have HO3 := Lib.hid (own_below HO2.out hb); have HG3 := Lib.hid (HG2.out.kept (grown_of hb) (by simp) (by simp)); have hs3 : wq.heap.size + 1 ≤ w3.heap.size := Nat.le_trans HSZ.out hb.size; clear hb))
        | (at_builtin; refine wpList_append_own _ rfl _ _ 43 rfl (wq.heap.size + 1) 9 i0 (.string ⟨#[]⟩) 1 16 Try.underlying43 hi hz0 hz1 hz2 rfl (by decide) _ _ _ rfl (World.ownsRow.alloc HO3.out _) ⟨w3.heap.size, 0, none⟩ 1 1 [.string (str s)] rfl rfl (cell_one_new _ _ _) (fun u hu => by simp at hu; subst hu; rfl) (by unfold maxLen; omega) (by omega) (by simp; omega) ?_; intro v1 w4 hown1 hgrow1 hnil1; have X1 := Lib.hid (own_snoc hown1); have X2 := Lib.hid (below_grown (HB3.out.alloc HB3.out.size _) (Nat.le_succ _) (World.ownsRow.alloc HO3.out _) (by have := HB3.out.size; simp; omega) hgrow1); have X3 := Lib.hid ((HG3.out.alloc _).kept hgrow1 (own_low HO3.out (by have := HMQ.out; omega)) (own_low HO3.out (by omega))); have hs4 : wq.heap.size + 1 ≤ w4.heap.size := (by have := hgrow1.size; simp at this; omega); clear hown1 hgrow1 hnil1))
      go_roundw
      case rel => exact ⟨_, cnt2, ss ++ [s], X3, X1, X2, Lib.hid hs4, HC2⟩
      case measure => rw [X3.out.left_eq, hrg.out.left_eq]; exact HLT.out
end Go.Proofs.Ytacgmhnalbbgbaa.Vau

/- '[]byte(s)', and append to it; what the vault's Digest gives, and the document's (layer 13, vault). Conditions: the vault lies in memory as its cells and its maps say; it has at most 100000 keys; the list lies in memory as its cells say. -/
namespace Go.Proofs.Ytacgmhnalbbgbaa.Vau
open Go.RowKit F64 Cmd Bat Cel Wid Wir Dig Go.Maps Go.WideElems Go.ChangeMaps Go.Sort
set_option linter.unusedVariables false
set_option linter.unusedSimpArgs false

/-! ### '[]byte(s)' -/
/-- A row of bytes, with room behind it. -/
structure Sp (g cap : Nat) (s : Key) (W : World) : Prop where
  cell : ∀ j u, (s.map encB)[j]? = some u → W.cell? ⟨g, j, none⟩ = some u
  room : ∀ j, j < cap → (W.cell? ⟨g, j, none⟩).isSome = true ∧ W.frozen? ⟨g, j, none⟩ = false
  lt : g < W.heap.size
  le : s.length ≤ cap
  max : cap ≤ maxLen
theorem Sp.same {g cap : Nat} {s : Key} {W W' : World} (h : Sp g cap s W) (hs : W.heap.size ≤ W'.heap.size) (e : W'.heap[g]? = W.heap[g]?) : Sp g cap s W' :=
  ⟨fun j u hj => (World.cell?_of_block (w := W) (a := ⟨g, j, none⟩) e).trans (h.cell j u hj), fun j hj => by rw [World.cell?_of_block (w := W) (a := ⟨g, j, none⟩) e, World.frozen?_of_block (w := W) (a := ⟨g, j, none⟩) e]; exact h.room j hj, Nat.lt_of_lt_of_le h.lt hs, h.le, h.max⟩
theorem Sp.on {g cap : Nat} {s : Key} {W W' : World} (h : Sp g cap s W) (hb : Below W.heap.size W W') : Sp g cap s W' := h.same hb.size (hb.block g h.lt)
theorem Sp.row {g cap : Nat} {s : Key} {W : World} (h : Sp g cap s W) : layB.Row W (.slice (some ⟨g, 0, none⟩) s.length cap) s := by
  have hm := h.max
  unfold maxLen at hm
  refine ⟨_, cap, rfl, h.le, by omega, fun _ => ⟨g, 0, rfl, h.lt, fun j hj => ?_⟩⟩
  have := h.cell j (encB s[j]) (by rw [List.getElem?_map, List.getElem?_eq_getElem hj]; rfl)
  rw [layB.at_get hj]
  show W.cell? ⟨g, 0 + j, none⟩ = _
  rw [Nat.zero_add]; exact this
theorem run_bytes (s : Key) (hs : s.length ≤ 1000) (w : World) : ∃ (cap : Nat) (W : World), (convert 9 88 (.string (str s))).run Try.prog w = .ok (.slice (some ⟨w.heap.size, 0, none⟩) s.length cap) W ∧ Sp w.heap.size cap s W ∧ Below w.heap.size w W := by
  have h := Lib.run_convert_string_bytes (P := Try.prog) w 9 88 5 (str s) Try.underlying9 Try.underlying88 Try.underlying5
  have hsz : (str s).size = s.length := str_size s
  have hge := grownCap_ge w (str s).size 0 5
  have hcm : grownCap w (str s).size 0 5 ≤ maxLen := grownCap_le_maxLen w (str s).size 0 5 (by rw [hsz]; unfold maxLen; omega)
  have hcs : (Lib.bytesCells w 5 (str s)).size = grownCap w (str s).size 0 5 := by
    unfold Lib.bytesCells
    rw [Array.size_append, Array.size_map, Array.size_replicate]
    have : (str s).data.size = (str s).size := rfl
    omega
  refine ⟨_, Lib.bytesWorld w 5 (str s), by rw [← hsz]; exact h, ⟨fun j u hj => ?_, fun j hj => ?_, by rw [Lib.bytesWorld_size]; omega, by omega, hcm⟩, ⟨rfl, rfl, rfl, by rw [Lib.bytesWorld_size]; omega, fun k hk => Lib.bytesWorld_at_old w _ _ k hk⟩⟩
  · have hj' : j < s.length := by have := (List.getElem?_eq_some_iff.1 hj).1; simpa using this
    have hc := Lib.bytesWorld_cell w 5 (str s) j (by omega)
    rw [hc]
    rw [List.getElem?_map, List.getElem?_eq_getElem hj'] at hj
    have e : (str s).data.toList = s := rfl
    rw [e, List.getD_eq_getElem?_getD, List.getElem?_eq_getElem hj']
    exact hj
  · have hn := Lib.bytesWorld_at_new w 5 (str s)
    have hlt : j < (Lib.bytesCells w 5 (str s)).size := by rw [hcs]; exact hj
    refine ⟨?_, ?_⟩
    · unfold World.cell?
      rw [hn]
      simp [hlt]
    · unfold World.frozen?
      rw [hn]
      simp; omega
theorem setCells_far (g : Nat) : ∀ (vs : List Value) (o : Nat) (w : World), (w.setCells g o vs).heap.size = w.heap.size ∧ (∀ k, k ≠ g → (w.setCells g o vs).heap[k]? = w.heap[k]?) ∧ (w.setCells g o vs).os = w.os ∧ (w.setCells g o vs).tape = w.tape ∧ (w.setCells g o vs).output = w.output
  | [], _, _ => ⟨rfl, fun _ _ => rfl, rfl, rfl, rfl⟩
  | v :: r, o, w => by
    rw [World.setCells]
    obtain ⟨h1, h2, h3, h4, h5⟩ := setCells_far g r (o + 1) (w.setCell ⟨g, o, none⟩ v)
    have hb := (Below.refl 0 w).setCell (p := ⟨g, o, none⟩) (Nat.zero_le _) v
    exact ⟨h1.trans (by simp), fun k hk => (h2 k hk).trans (Below.heap_setCell _ ⟨g, o, none⟩ v k hk), h3.trans hb.os, h4.trans hb.tape, h5.trans hb.output⟩
/-- append of a row to it. -/
theorem run_spapp {g cap : Nat} {s : Key} {w : World} (h : Sp g cap s w) (hs : s.length ≤ 1000) (ty : TypeId) (ad : Addr) (c : Nat) (ys : List UInt8) (hu : layB.Row w (.slice (some ad) ys.length c) ys) (hl : ys.length ≤ 1000) {M : Nat} (hM : M ≤ g) :
    ∃ v' w', (Builtin.append_ #[88, 88] ty #[.slice (some ⟨g, 0, none⟩) s.length cap, .slice (some ad) ys.length c]).run Try.prog w = .ok v' w' ∧ layB.Row w' v' (s ++ ys) ∧ Below M w w' := by
  obtain ⟨i0, hi, hz0, hz1, hz2⟩ := info_parts info_byte
  have hnews : ∀ j u, (ys.map encB)[j]? = some u → w.cell? (ad.add j) = some u := row_olds hu ad rfl
  by_cases hr : s.length + ys.length ≤ cap
  · have hrun := run_append_room_cells (P := Try.prog) w 88 ty 5 i0 Try.underlying88 hi g 0 s.length cap ad ys.length c (ys.map encB) (by rw [hz1]; simp) hnews (fun u hu => by obtain ⟨y, _, rfl⟩ := List.mem_map.1 hu; rfl) hr
      (fun j hj => by rw [hz1, Nat.mul_one, Nat.zero_add]; rw [List.length_map] at hj; exact (h.room _ (by omega)).1) (fun j hj => by rw [hz1, Nat.mul_one, Nat.zero_add]; rw [List.length_map] at hj; exact (h.room _ (by omega)).2)
    rw [hz1, Nat.mul_one, Nat.zero_add] at hrun
    have hin := World.cell?_setCells_in g (ys.map encB) s.length w (fun j hj => by rw [List.length_map] at hj; exact (h.room _ (by omega)).1)
    obtain ⟨hsz1, hsz2, hos1, hos2, hos3⟩ := setCells_far g (ys.map encB) s.length w
    have hm := h.max
    unfold maxLen at hm
    refine ⟨_, _, hrun, ⟨_, cap, by rw [List.length_append], by rw [List.length_append]; exact hr, by omega, fun _ => ⟨g, 0, rfl, by rw [hsz1]; exact h.lt, fun j hj => ?_⟩⟩, ⟨hos1, hos2, hos3, by rw [hsz1]; exact Nat.le_refl _, fun k hk => hsz2 k (by omega)⟩⟩
    rw [List.length_append] at hj
    rw [layB.at_get (by rw [List.length_append]; exact hj)]
    show World.cell? _ ⟨g, 0 + j, none⟩ = _
    rw [Nat.zero_add]
    by_cases hjs : j < s.length
    · rw [List.getElem_append_left hjs]
      have hout := World.cell?_setCells_out g (ys.map encB) s.length w ⟨g, j, none⟩ (fun _ _ => .inl hjs)
      exact hout.trans (h.cell j _ (by rw [List.getElem?_map, List.getElem?_eq_getElem hjs]; rfl))
    · rw [List.getElem_append_right (by omega)]
      have := hin (j - s.length) (by rw [List.length_map]; omega)
      rw [show s.length + (j - s.length) = j by omega] at this
      rw [this, List.getElem_map]; rfl
  · obtain ⟨v', w', hrun, r1, r2⟩ := run_append_arg_grows (P := Try.prog) w 88 ty 5 i0 _ 1 1 Try.underlying88 hi hz0 hz1 hz2 rfl (by decide) ⟨g, 0, none⟩ s.length cap (s.map encB) (by simp) (fun j u hj => by rw [Bat.add_lit]; exact h.cell j u hj) ad ys.length c (ys.map encB) (by simp) hnews (by omega) (by unfold maxLen; omega) (by omega)
    refine ⟨v', w', hrun, ?_, ⟨r2.os, r2.tape, r2.output, r2.size, fun k hk => r2.block k (by have := h.lt; omega) (by simp)⟩⟩
    have hOwn : OwnB w' w.heap.size v' (s ++ ys) := by unfold OwnB; rw [List.length_append, List.map_append]; exact r1
    exact rowB hOwn

/-! ### The vault's Digest -/
theorem bits_fit {f : Bool} {z : Nat} {c : Cell2} (h : Fit f z c) (W : World) : Calls Try.prog 48 #[.float .f64 z] W fun e w' => e = .returned (.int .u64 (canon c.2 : Nat)) ∧ W = w' := by
  have := bits_any z W
  rw [h.val] at this; exact this
theorem canon_fit {f : Bool} {z : Nat} {c : Cell2} (h : Fit f z c) : canon c.2 < 18446744073709551616 := h.val ▸ canon_lt h.lt
def digS (C : Key → Cell2) (h : Nat) (s : Key) : Nat := dg (big h ++ big (dg (s ++ big (canon (C s).2))))
def digV (C : Key → Cell2) (kk : List Key) : Nat := kk.foldl (digS C) 0
theorem digV_step (C : Key → Cell2) {kk : List Key} {k : Nat} (h : k < kk.length) : digV C (kk.take (k + 1)) = digS C (digV C (kk.take k)) (layS.at kk k) := by
  unfold digV; rw [layS.take h, List.foldl_append, List.foldl_cons, List.foldl_nil]
theorem digS_lt (C : Key → Cell2) (h : Nat) (s : Key) : digS C h s < 18446744073709551616 := by unfold digS; exact dg_lt _
theorem digV_lt (C : Key → Cell2) (kk : List Key) : digV C kk < 18446744073709551616 := by
  unfold digV
  rcases List.eq_nil_or_concat kk with rfl | ⟨l, a, rfl⟩
  · exact Nat.zero_lt_of_lt (dg_lt [])
  · rw [List.concat_eq_append, List.foldl_append, List.foldl_cons, List.foldl_nil]; exact digS_lt _ _ _
set_option maxHeartbeats 16000000 in
set_option maxRecDepth 100000 in
theorem vdigest_any {w : World} {base : Nat} {F : Nat → Prop} {g : Nat} {C : Key → Cell2} {L : Key → List Wr} {N : Nat} {cnt : Int} (V : VP w base F g C L N cnt) (hN : N ≤ 100000) (kk : List Key) (hkk : ∀ s, s ∈ kk ↔ (C s).1 = true) (hlen : ∀ s ∈ kset kk, s.length ≤ 1000) : Calls Try.prog 19 #[vptr g] w (RetBelowN (digV C (kset kk)) w) := by
  have CK := Lib.hid (vkeys_any V hN kk hkk)
  generalize kset kk = zs at CK hlen ⊢
  obtain ⟨n, hn⟩ : ∃ n, n = zs.length := ⟨_, rfl⟩
  have HN := Lib.hid hn
  have HT : Hid (digV C (zs.take n) = digV C zs) := Lib.hid (by rw [hn, List.take_length])
  have HLEN := Lib.hid hlen
  have HV := Lib.hid V
  generalize hr : digV C zs = r at HT ⊢
  clear hkk hN V hlen hn hr
  unfold vptr at CK ⊢
  go_enter Try.func19, Try.ntmps19
  go_wp2_with (first
    | (go_at_call 35; (with_reducible refine CK.out.mono ?_); rintro E wq ⟨v, rfl, hrow, hb⟩; have HB1 := Lib.hid hb; have HR1 := Lib.hid hrow; clear hb; obtain ⟨p, cap, rfl, h1, hd⟩ := hrow.parts; rw [← HN.out] at h1 hd ⊢; clear hrow))
  go_loopw [3, 9] (fun h i wr => ∃ k : Nat, k ≤ n ∧ i = .int .i64 k ∧ h = .int .u64 (digV C (zs.take k) : Nat) ∧ Hid (Below wq.heap.size wq wr)) (fun _ i _ => n - (intOf i).toNat)
  case atStart => exact ⟨0, Nat.zero_le _, rfl, rfl, Lib.hid (Below.refl _ _)⟩
  case round =>
    obtain ⟨k, hk, rfl, rfl, HB⟩ := hrel
    have k0 : (0 : Int) ≤ k := by omega
    by_cases hkn : k < n
    · have kn : (k : Int) < n := by omega
      obtain ⟨B, off, rfl, HI⟩ := hd.resolve_left (by omega)
      have hkx : k < zs.length := by rw [← HN.out]; exact hkn
      obtain ⟨s, hs⟩ : ∃ s, layS.at zs k = s := ⟨_, rfl⟩
      have c0 := cellS (HI.out.on HB.out) hkx hs
      have HSL : Hid (s.length ≤ 1000) := Lib.hid (HLEN.out s (by rw [← hs]; exact layS.at_mem hkx))
      have HSM : Hid (s.length ≤ 100000) := Lib.hid (by have := HSL.out; omega)
      have HST := Lib.hid (digV_step C hkx)
      rw [hs] at HST
      obtain ⟨d, hdv⟩ : ∃ d, digV C (zs.take k) = d := ⟨_, rfl⟩
      have HD : Hid (d < 18446744073709551616) := Lib.hid (by rw [← hdv]; exact digV_lt _ _)
      rw [hdv] at HST ⊢
      obtain ⟨cap1, w1, hcv, hsp, hb1⟩ := run_bytes s HSL.out wr
      have HSP := Lib.hid hsp
      have HB1' := Lib.hid hb1
      have CG : Hid (∀ W, Below wr.heap.size wr W → Calls Try.prog 24 #[.pointer (some ⟨g, 0, none⟩), .string (str s)] W (GivesFold (C s) W)) := Lib.hid fun W hb => vget_any (HV.out.on (HB1.out.trans ((HB.out.trans (hb.mono HB.out.size)).mono HB1.out.size))) s (by have := HSL.out; omega)
      clear hsp hb1 hd hkx hs hdv
      go_wp2_with (first
        | (go_at_call 24; (with_reducible refine (CG.out _ HB1'.out).mono ?_); rintro E w2 ⟨f, z, rfl, hf, hb⟩; have CB := Lib.hid (bits_fit hf w2); have HCL := Lib.hid (canon_fit hf); have HB2 := Lib.hid (HB1'.out.trans (hb.mono HB1'.out.size)); have HSP2 := Lib.hid (HSP.out.on hb); clear hf hb)
        | (go_at_call 48; (with_reducible refine CB.out.mono ?_); rintro E w3 ⟨rfl, rfl⟩; have CE := Lib.hid (eight_any _ s (canon (C s).2) w2 HSP2.out.row HSM.out HCL.out))
        | (go_at_call 47; (with_reducible refine CE.out.mono ?_); rintro E w4 ⟨v4, rfl, ho, hb⟩; have HB4 := Lib.hid (HB2.out.trans (hb.mono HB2.out.size)); have CO := Lib.hid (of_any v4 _ w4 (rowB ho)); clear ho hb)
        | (go_at_call 46; (with_reducible refine CO.out.mono ?_); rintro E w5 ⟨rfl, rfl⟩; have CM := Lib.hid (mix_any d (dg (s ++ big (canon (C s).2))) w4 HD.out (dg_lt _)))
        | (go_at_call 45; (with_reducible refine CM.out.mono ?_); rintro E w6 ⟨rfl, hb⟩; have HB6 := Lib.hid (HB4.out.trans (hb.mono HB4.out.size)); clear hb))
      go_roundw
      case rel => exact ⟨k + 1, by omega, by go_num, by rw [HST.out]; rfl, Lib.hid (HB.out.trans (HB6.out.mono HB.out.size))⟩
      case measure => simp [intOf]; omega
    · obtain rfl : k = n := by omega
      have kn : ¬ (k : Int) < k := by omega
      clear hd
      rw [HT.out]
      go_wp2
      go_ret
      exact ⟨rfl, HB1.out.trans (HB.out.mono HB1.out.size)⟩
end Go.Proofs.Ytacgmhnalbbgbaa.Vau
