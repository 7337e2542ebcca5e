/- What the vault's do gives, told at once; the row of results while it is written; the vault's count (layer 13, vault). Conditions: the vault lies in memory as its cells and its maps say; bounds on how much there is. -/
import Derived.Test.YtdnabghhjlhjoaaVauJ
import Derived.Laws.IdiomCopy
import Derived.Laws.MakeOwn
import Derived.ArgAppend
namespace Go.Proofs.Ytdnabghhjlhjoaa.Vau
open Go.RowKit F64 Cmd Bat Cel Wid Go.Maps Go.WideElems Go.ChangeMaps Go.Sort
set_option linter.unusedVariables false
set_option linter.unusedSimpArgs false

theorem Fit.fz {f : Bool} {z : Nat} {c : Cell2} (h : Fit f z c) : Fit f z (fz c) := by
  unfold Cel.fz
  split
  · exact h
  · rename_i hc
    have hf : f = false := by rw [h.found]; exact Bool.eq_false_iff.2 hc
    have hz := h.plain hf
    subst hz
    exact ⟨hf, rfl, fun _ => rfl, by decide⟩
theorem CellIs.fits {o : Option Value} {c : Cell2} (h : CellIs o c) : ∃ cb cz, o.getD (.agg #[.bool false, .float .f64 0]) = .agg #[.bool cb, .float .f64 cz] ∧ Fit cb cz c ∧ (o = none → cb = false ∧ cz = 0) ∧ (∀ v, o = some v → cb = true) := by
  cases o with
  | none => exact ⟨false, 0, rfl, h, fun _ => ⟨rfl, rfl⟩, fun v hv => (by cases hv)⟩
  | some v => obtain ⟨z, rfl, hz⟩ := h; exact ⟨true, z, rfl, hz, fun e => (by cases e), fun _ _ => rfl⟩
theorem CellIs.of {o : Option Value} {c d : Cell2} (h : CellIs o c) (hcd : ∀ f z, Fit f z c → Fit f z d) : CellIs o d := by
  cases o with
  | none => exact hcd _ _ h
  | some v => obtain ⟨z, rfl, hz⟩ := h; exact ⟨z, rfl, hcd _ _ hz⟩
theorem VP.cells' {w : World} {base : Nat} {F : Nat → Prop} {g : Nat} {C C' : Key → Cell2} {L L' : Key → List Wr} {N : Nat} {cnt : Int} (V : VP w base F g C L N cnt) (hC : ∀ s f z, Fit f z (C s) → Fit f z (C' s)) (hL : ∀ s, L' s = L s) : VP w base F g C' L' N cnt := by
  rw [(funext hL : L' = L)]
  obtain ⟨mc, ml, f, h, V⟩ := V
  exact ⟨mc, ml, f, h, V.blk, V.cm, V.lm, fun s => (V.ci s).of (hC s), V.no, V.yes, V.own, V.apart, V.ne, V.fg, V.fmc, V.fml, V.foot⟩
def nextC (C : Key → Cell2) (x : Cmdn) : Key → Cell2 := fun t => stepK t (C t) x
def nextL (L : Key → List Wr) (id : Int × Int) (p : Int) (x : Cmdn) : Key → List Wr := fun t => L t ++ (if wrote t x then [(id, p)] else [])
def GivesDid (base : Nat) (F : Nat → Prop) (g : Nat) (C : Key → Cell2) (L : Key → List Wr) (N : Nat) (cnt : Int) (id : Int × Int) (p : Int) (x : Cmdn) (w : World) (E : Ending) (w' : World) : Prop :=
  ∃ f z, E = .returned (.agg #[.bool f, .float .f64 z]) ∧ Fit f z (doC (C x.2.1) x.1 x.2.1 x.2.2).2 ∧ VP w' base (More F w.heap.size w'.heap.size) g (nextC C x) (nextL L id p x) (N + 1 + 1) cnt ∧ Only F w w'
theorem vdo_any {w : World} {base : Nat} {F : Nat → Prop} {g : Nat} {C : Key → Cell2} {L : Key → List Wr} {N : Nat} {cnt : Int} (V : VP w base F g C L N cnt) (hbase : base ≤ w.heap.size) (k : Int) (s : Key) (x : Nat) (a b p : Int) (hx : x < 18446744073709551616) (hr : cRight k s x = true) (hN : N ≤ 100000) (hL : (L s).length ≤ 100000) :
    Calls Try.prog 40 #[vptr g, .agg #[.int .i64 k, .string (str s), .float .f64 x], .agg #[.int .i64 a, .int .i64 b, .int .i64 p]] w (GivesDid base F g C L N cnt (a, b) p (k, s, x) w) := by
  obtain ⟨mc, ml, f, h, V⟩ := V
  obtain ⟨cb, cz, hcell, hfit, hno, hyes⟩ := (V.ci s).fits
  have hs : s.length ≤ 1000 := by have := (key_parts (right_parts hr).1).2.1; omega
  have hcz := hfit.lt
  cases hw : cWrites k s x with
  | false =>
    have hk : k = 1 := by
      unfold cWrites at hw; rw [hr] at hw
      simpa using hw
    refine (vdo_get V hbase k s x a b p hx hs hN hL cb cz hcz hcell hw).mono fun E w' ⟨f2, z2, hE, h2, hb⟩ => ⟨f2, z2, hE, Fit.told hfit h2, ?_, Only.of F hb⟩
    have V' : VP w' base (More F w.heap.size w'.heap.size) g C L (N + 1 + 1) cnt := (VP.more ⟨mc, ml, f, h, V.on hb⟩ (fun k hk => .inl hk) (fun j hj => by
      rcases hj with hj | hj
      · exact (V.on hb).foot j hj
      · exact ⟨by omega, hj.2⟩)).mono (by omega)
    refine V'.cells' (fun t f z hf => ?_) (fun t => ?_)
    · show Fit f z (stepK t (C t) (k, s, x))
      unfold stepK
      split
      · show Fit f z (doC (C t) k s x).1
        unfold doC
        rw [if_neg (by rw [hr]; decide), if_neg (by omega), if_neg (by omega), if_neg (by omega)]
        exact Fit.fz hf
      · exact hf
    · show L t ++ _ = L t
      have : wrote t (k, s, x) = false := by unfold wrote; subst hk; simp
      rw [this]; simp
  | true =>
    have hk : k ≠ 1 := by
      unfold cWrites at hw; rw [hr] at hw
      simpa using hw
    have hCC : ∀ t f z, Fit f z (if t = s then (doC (cb, cz) k s x).1 else C t) → Fit f z (nextC C (k, s, x) t) := fun t f z hf => by
      unfold nextC stepK
      by_cases e : t = s
      · rw [if_pos e] at hf
        rw [if_pos e.symm, e]
        exact Fit.step hfit hf
      · rw [if_neg e] at hf
        rw [if_neg (fun e2 => e e2.symm)]; exact hf
    have hLL : ∀ t, nextL L (a, b) p (k, s, x) t = if t = s then L s ++ [((a, b), p)] else L t := fun t => by
      unfold nextL wrote right
      by_cases e : t = s
      · rw [if_pos e, e]; simp [hr, hk]
      · rw [if_neg e]; simp [show ¬ s = t from fun e2 => e e2.symm]
    cases hf : (doC (cb, cz) k s x).1.1 with
    | true => exact (vdo_put V hbase k s x a b p hx hs hN hL cb cz hcz hcell hw hf).mono fun E w' ⟨f2, z2, hE, h2, hv, ho⟩ => ⟨f2, z2, hE, Fit.told hfit h2, hv.cells' hCC hLL, ho⟩
    | false => exact (vdo_del V hbase k s x a b p hx hs hN hL cb cz hcz hcell hw hf).mono fun E w' ⟨f2, z2, hE, h2, hv, ho⟩ => ⟨f2, z2, hE, Fit.told hfit h2, hv.cells' hCC hLL, ho⟩

/-! ### The row of results while it is written -/
structure Tl (tb n : Nat) (ys : List Rs) (W : World) : Prop where
  blk : ∃ cur, W.heap[tb]? = some (.cells cur 67 (0, 0)) ∧ cur.size = n * 5
  le : ys.length ≤ n
  cell : ∀ j, j < ys.length → layR.lies W tb (j * 5) (layR.at ys j)
theorem liesR_block {W W' : World} {b o : Nat} {x : Rs} (h : layR.lies W b o x) (e : W'.heap[b]? = W.heap[b]?) : layR.lies W' b o x := by
  obtain ⟨h0, h1, h2, h3, h4⟩ := h
  have he : ∀ i, W'.cell? ⟨b, i, none⟩ = W.cell? ⟨b, i, none⟩ := fun i => World.cell?_of_block (w := W) (a := ⟨b, i, none⟩) e
  exact ⟨(he _).trans h0, (he _).trans h1, (he _).trans h2, (he _).trans h3, (he _).trans h4⟩
theorem Tl.lt {tb n : Nat} {ys : List Rs} {W : World} (h : Tl tb n ys W) : tb < W.heap.size := by obtain ⟨cur, hb, _⟩ := h.blk; exact (Array.getElem?_eq_some_iff.1 hb).1
theorem Tl.same {tb n : Nat} {ys : List Rs} {W W' : World} (h : Tl tb n ys W) (e : W'.heap[tb]? = W.heap[tb]?) : Tl tb n ys W' :=
  ⟨by obtain ⟨cur, hb, hs⟩ := h.blk; exact ⟨cur, e.trans hb, hs⟩, h.le, fun j hj => liesR_block (h.cell j hj) e⟩
theorem Tl.start (w : World) (n : Nat) (cs : Array Value) (hs : cs.size = n * 5) : Tl w.heap.size n [] (w.alloc (.cells cs 67)) :=
  ⟨⟨cs, heap_alloc_new w _, hs⟩, Nat.zero_le _, fun j hj => absurd hj (Nat.not_lt_zero _)⟩
theorem Tl.facts {tb n : Nat} {ys : List Rs} {W : World} (h : Tl tb n ys W) {k i : Nat} (hk : k < n) (hi : i < 5) : (∃ u, W.cell? ⟨tb, k * 5 + i, none⟩ = some u) ∧ W.frozen? ⟨tb, k * 5 + i, none⟩ = false := by
  obtain ⟨cur, hb, hs⟩ := h.blk
  have hlt : k * 5 + i < cur.size := by rw [hs]; omega
  exact ⟨⟨cur[k * 5 + i], by simp [World.cell?, hb, hlt]⟩, by simp [World.frozen?, hb]⟩
theorem Tl.put {tb n : Nat} {ys : List Rs} {W : World} (h : Tl tb n ys W) (hk : ys.length < n) (y : Rs) : Tl tb n (ys ++ [y]) (W.setCells tb (ys.length * 5) [.int .i64 y.1.1, .int .i64 y.1.2, .int .i64 y.2.1, .bool y.2.2.1, .float .f64 y.2.2.2]) := by
  have hin := World.cell?_setCells_in tb [.int .i64 y.1.1, .int .i64 y.1.2, .int .i64 y.2.1, .bool y.2.2.1, .float .f64 y.2.2.2] (ys.length * 5) W (fun j hj => by
    obtain ⟨⟨u, hu⟩, -⟩ := h.facts hk (i := j) (by simpa using hj)
    rw [hu]; rfl)
  refine ⟨?_, by rw [List.length_append]; simp; omega, fun j hj => ?_⟩
  · obtain ⟨cur, hb, hs⟩ := h.blk
    refine ⟨_, Go.Joins.block_setCell (Go.Joins.block_setCell (Go.Joins.block_setCell (Go.Joins.block_setCell (Go.Joins.block_setCell hb _) _) _) _) _, by simp [hs]⟩
  · by_cases e : j = ys.length
    · subst e
      have ea : layR.at (ys ++ [y]) ys.length = y := by rw [layR.at_get (by simp)]; simp
      rw [ea]
      have g0 := hin 0 (by simp)
      have g1 := hin 1 (by simp)
      have g2 := hin 2 (by simp)
      have g3 := hin 3 (by simp)
      have g4 := hin 4 (by simp)
      exact ⟨g0, g1, g2, g3, g4⟩
    · have hj' : j < ys.length := by rw [List.length_append] at hj; simp at hj; omega
      rw [at_left layR hj']
      have hout : ∀ i, i < 5 → (W.setCells tb (ys.length * 5) [.int .i64 y.1.1, .int .i64 y.1.2, .int .i64 y.2.1, .bool y.2.2.1, .float .f64 y.2.2.2]).cell? ⟨tb, j * 5 + i, none⟩ = W.cell? ⟨tb, j * 5 + i, none⟩ := fun i hi =>
        World.cell?_setCells_out tb _ _ W ⟨tb, j * 5 + i, none⟩ (fun _ _ => .inl (by show j * 5 + i < ys.length * 5; omega))
      obtain ⟨h0, h1, h2, h3, h4⟩ := h.cell j hj'
      exact ⟨(hout 0 (by omega)).trans h0, (hout 1 (by omega)).trans h1, (hout 2 (by omega)).trans h2, (hout 3 (by omega)).trans h3, (hout 4 (by omega)).trans h4⟩
theorem Tl.row {tb n : Nat} {ys : List Rs} {W : World} (h : Tl tb n ys W) (hn : ys.length = n) (hm : n ≤ 1000) : layR.Row W (.slice (some ⟨tb, 0, none⟩) n n) ys := by
  refine ⟨_, n, by rw [hn], by omega, by omega, fun _ => ⟨tb, 0, rfl, h.lt, fun j hj => ?_⟩⟩
  have := h.cell j hj
  show layR.lies W tb (0 + j * 5) _
  rw [Nat.zero_add]; exact this

/-! ### The count -/
theorem VP.count {w : World} {base : Nat} {F : Nat → Prop} {g : Nat} {C : Key → Cell2} {L : Key → List Wr} {N : Nat} {cnt : Int} (V : VP w base F g C L N cnt) (c' : Int) : VP (w.setCell ⟨g, 2, none⟩ (.int .i64 c')) base F g C L N c' ∧ Only F w (w.setCell ⟨g, 2, none⟩ (.int .i64 c')) := by
  obtain ⟨mc, ml, f, h, V⟩ := V
  have hfar : ∀ k, k ≠ g → (w.setCell ⟨g, 2, none⟩ (.int .i64 c')).heap[k]? = w.heap[k]? := fun k hk => Below.heap_setCell _ ⟨g, 2, none⟩ _ k hk
  have hsz : (w.setCell ⟨g, 2, none⟩ (.int .i64 c')).heap.size = w.heap.size := by simp
  have hb : (w.setCell ⟨g, 2, none⟩ (.int .i64 c')).heap[g]? = some (.cells #[.map (some mc), .map (some ml), .int .i64 c'] 77 (0, 0)) := Go.Joins.block_setCell V.blk (.int .i64 c')
  refine ⟨⟨mc, ml, f, h, hb, V.cm.block (hfar mc V.ng.1.symm), V.lm.block (hfar ml V.ng.2.symm), V.ci, V.no, fun s v hv => ⟨ownL_block (V.yes s v hv).1 (fun k hk => by
    obtain ⟨k', h1, h2, h3, _⟩ := V.own s v hv
    rw [h1] at hk; cases hk
    exact hfar k h3), (V.yes s v hv).2⟩, V.own, V.apart, V.ne, V.fg, V.fmc, V.fml, fun b hf => by rw [hsz]; exact V.foot b hf⟩, ?_⟩
  exact ⟨(Below.refl 0 w).setCell (p := ⟨g, 2, none⟩) (Nat.zero_le _) _, fun b hb' hF => hfar b (fun e => hF (by rw [e]; exact V.fg))⟩
end Go.Proofs.Ytdnabghhjlhjoaa.Vau

/- What the vault's Apply gives: a batch, on a vault in memory (layer 13, vault). Conditions: the vault lies in memory as its cells and its maps say, the batch where the vault does not write; bounds on how much there is. (Written by tools/gen_vaul.py.) -/
namespace Go.Proofs.Ytdnabghhjlhjoaa.Vau
open Go.RowKit F64 Cmd Bat Cel Wid Go.Maps Go.WideElems Go.ChangeMaps Go.Sort
set_option linter.unusedVariables false
set_option linter.unusedSimpArgs false

def resA (C : Key → Cell2) (id : Int × Int) (cs : List Cmdn) (k : Nat) : Rs := (id, (k : Int), (doC (cellB (layC.at cs k).2.1 (C (layC.at cs k).2.1) (cs.take k)) (layC.at cs k).1 (layC.at cs k).2.1 (layC.at cs k).2.2).2)
def resQ (C : Key → Cell2) (id : Int × Int) (cs : List Cmdn) (k : Nat) : List Rs := (List.range k).map (resA C id cs)
theorem resQ_succ (C : Key → Cell2) (id : Int × Int) (cs : List Cmdn) (k : Nat) : resQ C id cs (k + 1) = resQ C id cs k ++ [resA C id cs k] := by
  unfold resQ; rw [List.range_succ, List.map_append]; rfl
theorem resQ_len (C : Key → Cell2) (id : Int × Int) (cs : List Cmdn) (k : Nat) : (resQ C id cs k).length = k := by unfold resQ; rw [List.length_map, List.length_range]
theorem resB_eq (xs : List Itm) (id : Int × Int) (cs : List Cmdn) : resB xs id cs = resQ (cellOf xs) id cs cs.length := rfl
def kC (C : Key → Cell2) (cs : List Cmdn) : Key → Cell2 := fun t => cellB t (C t) cs
def kL (L : Key → List Wr) (id : Int × Int) (cs : List Cmdn) : Key → List Wr := fun t => L t ++ logB t id 0 cs
theorem kC_next (C : Key → Cell2) (cs : List Cmdn) {k : Nat} (h : k < cs.length) : nextC (kC C (cs.take k)) (layC.at cs k) = kC C (cs.take (k + 1)) := by
  funext t; unfold nextC kC; rw [cellB_step h]
theorem kL_next (L : Key → List Wr) (id : Int × Int) (cs : List Cmdn) {k : Nat} (h : k < cs.length) : nextL (kL L id (cs.take k)) id (k : Int) (layC.at cs k) = kL L id (cs.take (k + 1)) := by
  funext t; unfold nextL kL; rw [logB_step h, List.append_assoc]
theorem kL_len {L : Key → List Wr} {id : Int × Int} {cs : List Cmdn} {m : Nat} (h : ∀ s, (L s).length ≤ m) (s : Key) : (kL L id cs s).length ≤ m + cs.length := by
  unfold kL; rw [List.length_append]
  have := h s; have := logB_len s id cs 0; omega
theorem bErr_ok {cs : List Cmdn} (h : bErr cs = 0) : cs.length ≤ 8 ∧ ∀ x ∈ cs, right x = true := by
  unfold bErr at h
  split at h
  · omega
  · split at h
    · omega
    · rename_i h1 h2
      refine ⟨by omega, fun x hx => ?_⟩
      cases hr : right x with
      | true => rfl
      | false => exact absurd (List.any_eq_true.2 ⟨x, hx, by rw [hr]; rfl⟩) h2
theorem VP.cnt {w : World} {base : Nat} {F : Nat → Prop} {g : Nat} {C : Key → Cell2} {L : Key → List Wr} {N : Nat} {cnt : Int} (V : VP w base F g C L N cnt) : w.cell? ⟨g, 2, none⟩ = some (.int .i64 cnt) ∧ w.frozen? ⟨g, 2, none⟩ = false ∧ F g := by
  obtain ⟨mc, ml, f, h, V⟩ := V
  have hb := V.blk
  exact ⟨V.cells.2.2.1, by simp [World.frozen?, hb], V.fg⟩
/-- While the batch is done: k commands are. -/
structure Ap (w : World) (base : Nat) (F : Nat → Prop) (g : Nat) (C : Key → Cell2) (L : Key → List Wr) (N : Nat) (cnt a b : Int) (cs : List Cmdn) (n b0 tb : Nat) (k : Nat) (ys : List Rs) (G : Nat → Prop) (W : World) : Prop where
  vp : VP W base G g (kC C (cs.take k)) (kL L (a, b) (cs.take k)) (N + k + k) cnt
  only : Only F w W
  foot : ∀ j, G j → F j ∨ tb < j
  box : W.heap[b0]? = some (.cells #[.int .i64 a, .int .i64 b] 46 (0, 0))
  tl : Tl tb n ys W
  len : ys.length = k
  fits : Fits ys (resQ C (a, b) cs k)
theorem Ap.drew {w : World} {base : Nat} {F : Nat → Prop} {g : Nat} {C : Key → Cell2} {L : Key → List Wr} {N : Nat} {cnt a b : Int} {cs : List Cmdn} {n b0 tb k : Nat} {ys : List Rs} {G : Nat → Prop} {W W' : World} (h : Ap w base F g C L N cnt a b cs n b0 tb k ys G W) (hb : Below W.heap.size W W') : Ap w base F g C L N cnt a b cs n b0 tb k ys G W' :=
  ⟨h.vp.on hb, h.only.trans (Only.of F hb) (fun k hk => .inl hk), h.foot, (hb.block _ (Array.getElem?_eq_some_iff.1 h.box).1).trans h.box, h.tl.same (hb.block _ h.tl.lt), h.len, h.fits⟩
theorem setCells5_far (W : World) (tb o : Nat) (v0 v1 v2 v3 v4 : Value) {j : Nat} (hj : j ≠ tb) : (W.setCells tb o [v0, v1, v2, v3, v4]).heap[j]? = W.heap[j]? := by
  show ((((((W.setCell ⟨tb, o, none⟩ _).setCell ⟨tb, o + 1, none⟩ _).setCell ⟨tb, o + 1 + 1, none⟩ _).setCell ⟨tb, o + 1 + 1 + 1, none⟩ _).setCell ⟨tb, o + 1 + 1 + 1 + 1, none⟩ _)).heap[j]? = _
  exact (Below.heap_setCell _ ⟨tb, _, none⟩ _ j hj).trans ((Below.heap_setCell _ ⟨tb, _, none⟩ _ j hj).trans ((Below.heap_setCell _ ⟨tb, _, none⟩ _ j hj).trans ((Below.heap_setCell _ ⟨tb, _, none⟩ _ j hj).trans (Below.heap_setCell _ ⟨tb, _, none⟩ _ j hj))))
theorem Ap.next {w : World} {base : Nat} {F : Nat → Prop} {g : Nat} {C : Key → Cell2} {L : Key → List Wr} {N : Nat} {cnt a b : Int} {cs : List Cmdn} {n b0 tb k : Nat} {ys : List Rs} {G : Nat → Prop} {W W3 : World} {f : Bool} {z : Nat} (h : Ap w base F g C L N cnt a b cs n b0 tb k ys G W) (hkc : k < cs.length) (hkn : k < n) (h1 : w.heap.size ≤ b0) (h2 : b0 < tb) (hF : ∀ j, F j → j < w.heap.size)
    (hv : VP W3 base (More G W.heap.size W3.heap.size) g (nextC (kC C (cs.take k)) (layC.at cs k)) (nextL (kL L (a, b) (cs.take k)) (a, b) (k : Int) (layC.at cs k)) (N + k + k + 1 + 1) cnt) (ho : Only G W W3)
    (hfit : Fit f z (doC (kC C (cs.take k) (layC.at cs k).2.1) (layC.at cs k).1 (layC.at cs k).2.1 (layC.at cs k).2.2).2) :
    Ap w base F g C L N cnt a b cs n b0 tb (k + 1) (ys ++ [((a, b), (k : Int), (f, z))]) (More G W.heap.size W3.heap.size) (W3.setCells tb (k * 5) [.int .i64 a, .int .i64 b, .int .i64 (k : Int), .bool f, .float .f64 z]) := by
  have hlt := h.tl.lt
  have hGtb : ∀ j, j ≤ tb → w.heap.size ≤ j → ¬ G j := fun j hj hw hg => by
    rcases h.foot j hg with e | e
    · have := hF j e; omega
    · omega
  have htl3 : Tl tb n ys W3 := h.tl.same (ho.block tb hlt (hGtb tb (Nat.le_refl _) (by omega)))
  have hk5 : k * 5 = ys.length * 5 := by rw [h.len]
  have hset : ∀ j, j ≠ tb → (W3.setCells tb (k * 5) [.int .i64 a, .int .i64 b, .int .i64 (k : Int), .bool f, .float .f64 z]).heap[j]? = W3.heap[j]? := fun j hj => by
    show ((((((W3.setCell ⟨tb, k * 5, none⟩ _).setCell ⟨tb, k * 5 + 1, none⟩ _).setCell ⟨tb, k * 5 + 1 + 1, none⟩ _).setCell ⟨tb, k * 5 + 1 + 1 + 1, none⟩ _).setCell ⟨tb, k * 5 + 1 + 1 + 1 + 1, none⟩ _)).heap[j]? = _
    exact (Below.heap_setCell _ ⟨tb, _, none⟩ _ j hj).trans ((Below.heap_setCell _ ⟨tb, _, none⟩ _ j hj).trans ((Below.heap_setCell _ ⟨tb, _, none⟩ _ j hj).trans ((Below.heap_setCell _ ⟨tb, _, none⟩ _ j hj).trans (Below.heap_setCell _ ⟨tb, _, none⟩ _ j hj))))
  have hbs : Below 0 W3 (W3.setCells tb (k * 5) [.int .i64 a, .int .i64 b, .int .i64 (k : Int), .bool f, .float .f64 z]) := ((((((Below.refl 0 W3).setCell (p := ⟨tb, k * 5, none⟩) (Nat.zero_le _) _).setCell (p := ⟨tb, k * 5 + 1, none⟩) (Nat.zero_le _) _).setCell (p := ⟨tb, k * 5 + 1 + 1, none⟩) (Nat.zero_le _) _).setCell (p := ⟨tb, k * 5 + 1 + 1 + 1, none⟩) (Nat.zero_le _) _).setCell (p := ⟨tb, k * 5 + 1 + 1 + 1 + 1, none⟩) (Nat.zero_le _) _)
  have hot : Only (fun j => j = tb) W3 (W3.setCells tb (k * 5) [.int .i64 a, .int .i64 b, .int .i64 (k : Int), .bool f, .float .f64 z]) := ⟨hbs, fun j _ hj => hset j hj⟩
  refine ⟨?_, ?_, fun j hj => ?_, ?_, ?_, by rw [List.length_append, h.len]; rfl, ?_⟩
  · rw [kC_next C cs hkc, kL_next L (a, b) cs hkc] at hv
    refine (hv.mono (by omega)).far hot (fun j hj e => ?_)
    subst e
    rcases hj with hj | hj
    · exact hGtb j (Nat.le_refl _) (by omega) hj
    · omega
  · exact (h.only.trans ho (fun j hj => (h.foot j hj).imp id (fun e => by omega))).trans hot (fun j hj => .inr (by omega))
  · rcases hj with hj | hj
    · exact h.foot j hj
    · exact .inr (by omega)
  · exact (hset b0 (by omega)).trans ((ho.block b0 (by omega) (hGtb b0 (by omega) h1)).trans h.box)
  · have := htl3.put (by rw [h.len]; exact hkn) ((a, b), (k : Int), (f, z))
    rw [← hk5] at this; exact this
  · rw [resQ_succ]
    exact h.fits.snoc ⟨rfl, rfl, hfit⟩

/-! ### Apply -/
def GivesApply (base : Nat) (F : Nat → Prop) (g : Nat) (C : Key → Cell2) (L : Key → List Wr) (N : Nat) (cnt : Int) (id : Int × Int) (cs : List Cmdn) (w : World) (E : Ending) (w' : World) : Prop :=
  ∃ (tb : Nat) (ys : List Rs) (G : Nat → Prop), E = .returned (.tuple #[.slice (some ⟨tb, 0, none⟩) cs.length cs.length, .int .i64 0]) ∧ Tl tb cs.length ys w' ∧ ys.length = cs.length ∧ Fits ys (resQ C id cs cs.length) ∧ VP w' base G g (kC C cs) (kL L id cs) (N + cs.length + cs.length) (cnt + 1) ∧ Only F w w' ∧ (∀ j, G j → F j ∨ tb < j) ∧ w.heap.size ≤ tb
theorem inC_same {w W : World} {F : Nat → Prop} {p : Option Addr} {n cap B off : Nat} {cs : List Cmdn} (h : layC.Row W (.slice p n cap) cs) (hn : 0 < cs.length) (hp : p = some ⟨B, off, none⟩) : layC.In W B off cs := by
  obtain ⟨p', cap', e, _, _, h3⟩ := h
  injection e with e1 _ _
  obtain ⟨B', off', e2, hi⟩ := h3 (by rintro rfl; simp at hn)
  rw [← e1, hp] at e2
  injection e2 with e2
  injection e2 with e3 e4
  subst e3; subst e4; exact hi
theorem make_res (n : Nat) (hn : n ≤ 8) : ∃ Z : Array Value, Z.size = n * 5 ∧ ∀ W : World, (Instr.makeSlice 38 (.int .i64 (n : Int)) (.int .i64 (n : Int))).run Try.prog W = .ok (.slice (some ⟨W.heap.size, 0, none⟩) n n) (W.alloc (.cells Z 67)) := by
  obtain ⟨i0, hi, hz0, hz1, hz2⟩ := info_parts wtR.inf
  refine ⟨madeCells (.agg #[.int .i64 0, .int .i64 0, .int .i64 0, .bool false, .float .f64 0] : Value).cells (n * 5), size_madeCells _ _, fun W => ?_⟩
  · have h := run_makeSlice (P := Try.prog) (w := W) 38 67 i0 _ Try.underlying38 hi hz0 .i64 .i64 (n : Int) (n : Int) (by omega) (by omega) (by rw [hz1]; show (n : Int).toNat * 5 ≤ _; omega) (by rw [hz2]; omega) (by omega)
    rw [hz1, Int.toNat_natCast] at h
    exact h
set_option maxHeartbeats 4000000 in
set_option maxRecDepth 100000 in
theorem vapply_wrong (g : Nat) (a b : Int) (v : Value) (cs : List Cmdn) (w : World) (hrow : layC.Row w v cs) (hw : ∀ x ∈ cs, wfC x) (he : bErr cs ≠ 0) : Calls Try.prog 31 #[vptr g, .agg #[.int .i64 a, .int .i64 b], v] w (RetBelow (.tuple #[.slice none 0 0, .int .i64 (bErr cs)]) w) := by
  have B0 := Lib.hid (Cmd.below_one w (.cells #[.int .i64 a, .int .i64 b] 46))
  have CK := Lib.hid (bcheck_any v cs _ (hrow.on B0.out) hw)
  generalize bErr cs = e at CK he ⊢
  have he2 : (e != 0) = true := by simpa using he
  obtain ⟨p, cap, rfl, -⟩ := hrow
  unfold vptr
  clear hw
  go_enter Try.func31, Try.ntmps31
  go_wp2_with (first
    | (go_at_call 27; (with_reducible refine CK.out.mono ?_); rintro E w1 ⟨rfl, hb⟩; have B1 := Lib.hid (B0.out.trans (hb.mono B0.out.size)); clear hb))
  go_ret2
  exact ⟨rfl, B1.out⟩
set_option maxHeartbeats 4000000 in
set_option maxRecDepth 100000 in
theorem vapply_nil (a b : Int) (v : Value) (cs : List Cmdn) (w : World) (hrow : layC.Row w v cs) : Calls Try.prog 31 #[.pointer none, .agg #[.int .i64 a, .int .i64 b], v] w (RetBelow (.tuple #[.slice none 0 0, .int .i64 2]) w) := by
  have B0 := Lib.hid (Cmd.below_one w (.cells #[.int .i64 a, .int .i64 b] 46))
  obtain ⟨p, cap, rfl, -⟩ := hrow
  go_enter Try.func31, Try.ntmps31
  go_wp2
  go_ret2
  exact ⟨rfl, B0.out⟩
set_option maxHeartbeats 16000000 in
set_option maxRecDepth 100000 in
theorem vapply_any {w : World} {base : Nat} {F : Nat → Prop} {g : Nat} {C : Key → Cell2} {L : Key → List Wr} {N : Nat} {cnt : Int} (V : VP w base F g C L N cnt) (hbase : base ≤ w.heap.size) (a b : Int) (v : Value) (cs : List Cmdn) (hrow : ∀ W, Only F w W → layC.Row W v cs) (hw : ∀ x ∈ cs, wfC x) (he : bErr cs = 0) (hN : N ≤ 50000) (hL : ∀ s, (L s).length ≤ 50000) (hc0 : 0 ≤ cnt) (hc1 : cnt ≤ 100000) :
    Calls Try.prog 31 #[vptr g, .agg #[.int .i64 a, .int .i64 b], v] w (GivesApply base F g C L N cnt (a, b) cs w) := by
  obtain ⟨hn8, hright⟩ := bErr_ok he
  have hrow0 := hrow w (Only.refl F w)
  have B0 := Lib.hid (Cmd.below_one w (.cells #[.int .i64 a, .int .i64 b] 46))
  have X0 : Hid ((w.alloc (.cells #[.int .i64 a, .int .i64 b] 46)).heap[w.heap.size]? = some (.cells #[.int .i64 a, .int .i64 b] 46 (0, 0))) := Lib.hid (heap_alloc_new w _)
  have CK := Lib.hid (bcheck_any v cs _ (hrow0.on B0.out) hw)
  rw [he] at CK
  have HROW := Lib.hid hrow
  obtain ⟨p, cap, rfl, h1, hd⟩ := hrow0.parts
  obtain ⟨n, hn⟩ : ∃ n, n = cs.length := ⟨_, rfl⟩
  have HN := Lib.hid hn
  rw [← hn] at h1 hd hn8 CK HROW
  have HIN : Hid (∀ B off, p = some ⟨B, off, none⟩ → 0 < n → ∀ W, Only F w W → layC.In W B off cs) := Lib.hid fun B off hp h0 W ho => inC_same (w := w) (F := F) (HROW.out W ho) (by omega) hp
  obtain ⟨Z, hZ, hmk⟩ := make_res n hn8
  have HMK := Lib.hid hmk
  clear hmk
  have HZ := Lib.hid hZ
  have HV := Lib.hid V
  have HFL : Hid (∀ j, F j → j < w.heap.size) := Lib.hid fun j hj => (V.foot j hj).2
  have HRT := Lib.hid hright
  have HWF := Lib.hid hw
  have HBA := Lib.hid hbase
  have HNN := Lib.hid hN
  have HLL := Lib.hid hL
  have hwrap : IntKind.i64.wrap (cnt + 1) = cnt + 1 := by rw [IntKind.wrap_i64]; omega
  have HPOST : Hid (∀ E w', (∃ (tb : Nat) (ys : List Rs) (G : Nat → Prop), E = .returned (.tuple #[.slice (some ⟨tb, 0, none⟩) n n, .int .i64 0]) ∧ Tl tb n ys w' ∧ ys.length = n ∧ Fits ys (resQ C (a, b) cs n) ∧ VP w' base G g (kC C (cs.take n)) (kL L (a, b) (cs.take n)) (N + n + n) (cnt + 1) ∧ Only F w w' ∧ (∀ j, G j → F j ∨ tb < j) ∧ w.heap.size ≤ tb) → GivesApply base F g C L N cnt (a, b) cs w E w') := Lib.hid fun E w' h => by
    unfold GivesApply
    rw [hn, List.take_length] at h
    exact h
  generalize hPQ : GivesApply base F g C L N cnt (a, b) cs w = Q at HPOST ⊢
  rw [← hn]
  clear hPQ V hrow hw he hN hL hbase hright hn hrow0 HROW hc0 hc1 hZ
  unfold vptr
  go_enter Try.func31, Try.ntmps31
  go_wp2_with (first
    | (go_at_call 27; go_loud ((with_reducible refine CK.out.mono ?_); rintro E w1 ⟨rfl, hb⟩; have B1 := Lib.hid (B0.out.trans (hb.mono B0.out.size)); have X1 := Lib.hid ((hb.block _ (Array.getElem?_eq_some_iff.1 X0.out).1).trans X0.out); have hmk1 := HMK.out w1; have B2 := Lib.hid (B1.out.alloc B1.out.size (.cells Z 67)); have X2 := Lib.hid (((Cmd.below_one w1 (.cells Z 67)).block _ (Array.getElem?_eq_some_iff.1 X1.out).1).trans X1.out); have T2 := Lib.hid (Tl.start w1 n Z HZ.out); have S1 : Hid (w.heap.size < w1.heap.size) := Lib.hid (Array.getElem?_eq_some_iff.1 X1.out).1; clear hb)))
  clear hmk1
  go_loopw [24] (fun i wr => ∃ (k : Nat) (ys : List Rs) (G : Nat → Prop), k ≤ n ∧ i = .int .i64 k ∧ Hid (Ap w base F g C L N cnt a b cs n w.heap.size w1.heap.size k ys G wr)) (fun i _ => n - (intOf i).toNat)
  case atStart =>
    refine ⟨0, [], F, Nat.zero_le _, rfl, Lib.hid ⟨?_, Only.of F B2.out, fun j hj => .inl hj, X2.out, T2.out, rfl, Fits.nil⟩⟩
    exact (HV.out.on B2.out).like (fun s => rfl) (fun s => by unfold kL; simp [logB])
  case round =>
    obtain ⟨k, ys, G, hk, rfl, HA⟩ := hrel
    have k0 : (0 : Int) ≤ k := by omega
    by_cases hkn : k < n
    · have kn : (k : Int) < n := by omega
      obtain ⟨B, off, rfl, -⟩ := hd.resolve_left (by omega)
      have hkx : k < cs.length := by rw [← HN.out]; exact hkn
      obtain ⟨kk, s, x, hx⟩ : ∃ kk s x, layC.at cs k = (kk, s, x) := ⟨_, _, _, rfl⟩
      obtain ⟨c0, c1, c2⟩ := cellC (HIN.out B off rfl (by omega) wr HA.out.only) hkx hx
      have hwx := HWF.out _ (layC.at_mem hkx)
      have hrx := HRT.out _ (layC.at_mem hkx)
      rw [hx] at hwx hrx
      have HX := Lib.hid hx
      have HKX := Lib.hid hkx
      have hb1 := Cmd.below_one wr (.cells #[.int .i64 kk, .string (str s), .float .f64 x] 48)
      have HA1 := Lib.hid (HA.out.drew (hb1.trans (Below.refl _ _).drew))
      have HQ : Hid ((wr.alloc (.cells #[.int .i64 kk, .string (str s), .float .f64 x] 48)).drew.heap[wr.heap.size]? = some (.cells #[.int .i64 kk, .string (str s), .float .f64 x] 48 (0, 0))) := Lib.hid (heap_alloc_new wr _)
      have HSZ : Hid ((wr.alloc (.cells #[.int .i64 kk, .string (str s), .float .f64 x] 48)).drew.heap.size = wr.heap.size + 1) := Lib.hid (by simp)
      have HS : Hid (∀ W : World, W.heap[w.heap.size]? = some (.cells #[.int .i64 a, .int .i64 b] 46 (0, 0)) → W.heap[wr.heap.size]? = some (.cells #[.int .i64 kk, .string (str s), .float .f64 x] 48 (0, 0)) → W.cell? ⟨w.heap.size, 0, none⟩ = some (.int .i64 a) ∧ W.cell? ⟨w.heap.size, 1, none⟩ = some (.int .i64 b) ∧ W.cell? ⟨wr.heap.size, 0, none⟩ = some (.int .i64 kk) ∧ W.cell? ⟨wr.heap.size, 1, none⟩ = some (.string (str s)) ∧ W.cell? ⟨wr.heap.size, 2, none⟩ = some (.float .f64 x)) := Lib.hid fun W e1 e2 => ⟨by simp [World.cell?, e1], by simp [World.cell?, e1], by simp [World.cell?, e2], by simp [World.cell?, e2], by simp [World.cell?, e2]⟩
      have CDO : Hid (Calls Try.prog 40 #[.pointer (some ⟨g, 0, none⟩), .agg #[.int .i64 kk, .string (str s), .float .f64 x], .agg #[.int .i64 a, .int .i64 b, .int .i64 (k : Int)]] (wr.alloc (.cells #[.int .i64 kk, .string (str s), .float .f64 x] 48)).drew (GivesDid base G g (kC C (cs.take k)) (kL L (a, b) (cs.take k)) (N + k + k) cnt (a, b) (k : Int) (kk, s, x) (wr.alloc (.cells #[.int .i64 kk, .string (str s), .float .f64 x] 48)).drew)) := Lib.hid (vdo_any HA1.out.vp (by have := HBA.out; have := HA1.out.only.below.size; omega) kk s x a b (k : Int) hwx.1 hrx (by have := HNN.out; omega) (by have := kL_len (id := (a, b)) (cs := cs.take k) HLL.out s; rw [List.length_take] at this; omega))
      have HGN : Hid (∀ j, j ≤ w1.heap.size → w.heap.size ≤ j → ¬ G j) := Lib.hid fun j hj hw hg => by
        rcases HA1.out.foot j hg with e | e
        · have := HFL.out j e; omega
        · omega
      have hGQ : Hid (¬ G wr.heap.size) := Lib.hid fun hg => by have := (HA.out.vp.foot _ hg).2; omega
      have HTL1 : Hid (w1.heap.size < wr.heap.size) := Lib.hid HA.out.tl.lt
      clear hx hwx hrx hkx hd hb1
      go_wp2_with fail
      refine wp_region_held_drew (S := (fun w' => w'.cell? ⟨w.heap.size, 0, none⟩ = some (.int .i64 a) ∧ w'.cell? ⟨w.heap.size, 1, none⟩ = some (.int .i64 b) ∧ w'.cell? ⟨wr.heap.size, 0, none⟩ = some (.int .i64 kk) ∧ w'.cell? ⟨wr.heap.size, 1, none⟩ = some (.string (str s)) ∧ w'.cell? ⟨wr.heap.size, 2, none⟩ = some (.float .f64 x))) (by kernel_rfl) (HS.out _ HA1.out.box HQ.out) (fun hHeld => ?_)
      generalize (wr.alloc (.cells #[.int .i64 kk, .string (str s), .float .f64 x] 48)).drew = W0 at HA1 HQ CDO HSZ hHeld ⊢
      refine wpAnyH_take (i := 0) (v := ?_) rfl (by kernel_rfl) (by kernel_rfl) (by kernel_rfl) (fun _ _ _ h => h) (Or.inl ⟨by rfl, fun w hSw => ?_⟩) (by assumption) ?_
      rotate_left
      · (try dsimp only at hSw); go_simp; (try with_reducible rfl)
      try simp only [List.getElem_toArray, List.getElem_cons_succ, List.getElem_cons_zero, Act.put, List.setIfInBounds_toArray, List.set_cons_zero, List.set_cons_succ]
      refine wpAnyH_take (i := 1) (v := ?_) rfl (by kernel_rfl) (by kernel_rfl) (by kernel_rfl) (fun _ _ _ h => h) (Or.inl ⟨by rfl, fun w hSw => ?_⟩) (by assumption) ?_
      rotate_left
      · (try dsimp only at hSw); go_simp; (try with_reducible rfl)
      try simp only [List.getElem_toArray, List.getElem_cons_succ, List.getElem_cons_zero, Act.put, List.setIfInBounds_toArray, List.set_cons_zero, List.set_cons_succ]
      refine wpAnyH_take (i := 2) (v := ?_) rfl (by kernel_rfl) (by kernel_rfl) (by kernel_rfl) (fun _ _ _ h => h) (Or.inl ⟨by rfl, fun w hSw => ?_⟩) (by assumption) ?_
      rotate_left
      · (try dsimp only at hSw); go_simp; (try with_reducible rfl)
      try simp only [List.getElem_toArray, List.getElem_cons_succ, List.getElem_cons_zero, Act.put, List.setIfInBounds_toArray, List.set_cons_zero, List.set_cons_succ]
      refine wpAnyH_take (i := 3) (v := ?_) rfl (by kernel_rfl) (by kernel_rfl) (by kernel_rfl) (fun _ _ _ h => h) (Or.inl ⟨by rfl, fun w hSw => ?_⟩) (by assumption) ?_
      rotate_left
      · (try dsimp only at hSw); go_simp; (try with_reducible rfl)
      try simp only [List.getElem_toArray, List.getElem_cons_succ, List.getElem_cons_zero, Act.put, List.setIfInBounds_toArray, List.set_cons_zero, List.set_cons_succ]
      refine wpAnyH_take (i := 4) (v := ?_) rfl (by kernel_rfl) (by kernel_rfl) (by kernel_rfl) (fun _ _ _ h => h) (Or.inl ⟨by rfl, fun w hSw => ?_⟩) (by assumption) ?_
      rotate_left
      · (try dsimp only at hSw); go_simp; (try with_reducible rfl)
      try simp only [List.getElem_toArray, List.getElem_cons_succ, List.getElem_cons_zero, Act.put, List.setIfInBounds_toArray, List.set_cons_zero, List.set_cons_succ]
      refine wpAnyH_take (i := 5) (v := ?_) rfl (by kernel_rfl) (by kernel_rfl) (by kernel_rfl) (fun _ _ _ h => h) (Or.inl ⟨by rfl, fun w hSw => ?_⟩) (by assumption) ?_
      rotate_left
      · (try dsimp only at hSw); go_simp; (try with_reducible rfl)
      try simp only [List.getElem_toArray, List.getElem_cons_succ, List.getElem_cons_zero, Act.put, List.setIfInBounds_toArray, List.set_cons_zero, List.set_cons_succ]
      refine wpAnyH_take (i := 6) (v := ?_) rfl (by kernel_rfl) (by kernel_rfl) (by kernel_rfl) (fun _ _ _ h => h) (Or.inl ⟨by rfl, fun w hSw => ?_⟩) (by assumption) ?_
      rotate_left
      · (try dsimp only at hSw); go_simp; (try with_reducible rfl)
      try simp only [List.getElem_toArray, List.getElem_cons_succ, List.getElem_cons_zero, Act.put, List.setIfInBounds_toArray, List.set_cons_zero, List.set_cons_succ]
      refine wpAnyH_take (i := 7) (v := ?_) rfl (by kernel_rfl) (by kernel_rfl) (by kernel_rfl) (fun _ _ _ h => h) (Or.inl ⟨by rfl, fun w hSw => ?_⟩) (by assumption) ?_
      rotate_left
      · (try dsimp only at hSw); go_simp; (try with_reducible rfl)
      try simp only [List.getElem_toArray, List.getElem_cons_succ, List.getElem_cons_zero, Act.put, List.setIfInBounds_toArray, List.set_cons_zero, List.set_cons_succ]
      refine wpAnyH_take (i := 8) (v := ?_) rfl (by kernel_rfl) (by kernel_rfl) (by kernel_rfl) (fun _ _ _ h => h) (Or.inl ⟨by rfl, fun w hSw => ?_⟩) (by assumption) ?_
      rotate_left
      · (try dsimp only at hSw); go_simp; (try with_reducible rfl)
      try simp only [List.getElem_toArray, List.getElem_cons_succ, List.getElem_cons_zero, Act.put, List.setIfInBounds_toArray, List.set_cons_zero, List.set_cons_succ]
      have HA2 : Hid (wr.heap.size ≤ W0.heap.size) := Lib.hid (by rw [HSZ.out]; omega)
      have HA3 : Hid (wr.heap.size < W0.heap.size) := Lib.hid (by rw [HSZ.out]; omega)
      refine wpAnyH_ready (rs := [9]) (by kernel_rfl) (by simp) ?_
      refine AllReadyH.cons rfl (fun K hK => ?_) ?_
      rotate_left
      · exact AllReadyH.nil
      go_simp
      (go_at_call 40; (with_reducible refine CDO.out.mono ?_); rintro E w3 ⟨f, z, rfl, hfit, hv, ho⟩; have HFT := Lib.hid hfit; have HVP := Lib.hid hv; have HO := Lib.hid ho; have E1 := Lib.hid ((HO.out.block _ (Nat.lt_trans S1.out (Nat.lt_of_lt_of_le HTL1.out HA2.out)) (HGN.out _ (Nat.le_of_lt S1.out) (Nat.le_refl _))).trans HA1.out.box); have E2 := Lib.hid ((HO.out.block _ HA3.out hGQ.out).trans HQ.out); have T3 := Lib.hid (HA1.out.tl.same (HO.out.block _ HA1.out.tl.lt (HGN.out _ (Nat.le_refl _) (Nat.le_of_lt S1.out)))); clear hfit hv ho)
      refine hK.out _ _ ?_ (fun hHeld => ?_)
      · exact HS.out _ E1.out E2.out
      clear hK K
      try simp only [List.getElem_toArray, List.getElem_cons_succ, List.getElem_cons_zero, Act.put, List.setIfInBounds_toArray, List.set_cons_zero, List.set_cons_succ]
      refine wpAnyH_take (i := 10) (v := ?_) rfl (by kernel_rfl) (by kernel_rfl) (by kernel_rfl) (fun _ _ _ h => h) (Or.inl ⟨by rfl, fun w hSw => ?_⟩) (by assumption) ?_
      rotate_left
      · (try dsimp only at hSw); go_simp; (try with_reducible rfl)
      try simp only [List.getElem_toArray, List.getElem_cons_succ, List.getElem_cons_zero, Act.put, List.setIfInBounds_toArray, List.set_cons_zero, List.set_cons_succ]
      refine wpAnyH_take (i := 11) (v := ?_) rfl (by kernel_rfl) (by kernel_rfl) (by kernel_rfl) (fun _ _ _ h => h) (Or.inl ⟨by rfl, fun w hSw => ?_⟩) (by assumption) ?_
      rotate_left
      · (try dsimp only at hSw); go_simp; (try with_reducible rfl)
      try simp only [List.getElem_toArray, List.getElem_cons_succ, List.getElem_cons_zero, Act.put, List.setIfInBounds_toArray, List.set_cons_zero, List.set_cons_succ]
      obtain ⟨⟨u0, e0⟩, t0⟩ := T3.out.facts hkn (i := 0) (by omega)
      obtain ⟨⟨u1, e1⟩, t1⟩ := T3.out.facts hkn (i := 1) (by omega)
      obtain ⟨⟨u2, e2⟩, t2⟩ := T3.out.facts hkn (i := 2) (by omega)
      obtain ⟨⟨u3, e3⟩, t3⟩ := T3.out.facts hkn (i := 3) (by omega)
      obtain ⟨⟨u4, e4⟩, t4⟩ := T3.out.facts hkn (i := 4) (by omega)
      rw [Nat.add_zero] at e0 t0
      have E3 := Lib.hid ((setCells5_far w3 w1.heap.size (k * 5) (.int .i64 a) (.int .i64 b) (.int .i64 (k : Int)) (.bool f) (.float .f64 z) (Nat.ne_of_lt S1.out)).trans E1.out)
      have E4 := Lib.hid ((setCells5_far w3 w1.heap.size (k * 5) (.int .i64 a) (.int .i64 b) (.int .i64 (k : Int)) (.bool f) (.float .f64 z) (Nat.ne_of_gt HTL1.out)).trans E2.out)
      refine wpAnyH_ready (rs := [12]) (by kernel_rfl) (by simp) ?_
      refine AllReadyH.cons rfl (fun K hK => ?_) ?_
      rotate_left
      · exact AllReadyH.nil
      go_simp
      skip
      refine hK.out _ _ ?_ (fun hHeld => ?_)
      · exact HS.out _ E3.out E4.out
      clear hK K
      try simp only [List.getElem_toArray, List.getElem_cons_succ, List.getElem_cons_zero, Act.put, List.setIfInBounds_toArray, List.set_cons_zero, List.set_cons_succ]
      refine wpAnyH_done (by kernel_rfl) ?_ _

      go_wp2_with fail
      go_roundw
      case rel => exact ⟨k + 1, ys ++ [((a, b), (k : Int), (f, z))], More G W0.heap.size w3.heap.size, by omega, by go_num, Lib.hid (HA1.out.next HKX.out hkn (Nat.le_refl _) S1.out HFL.out (by rw [HX.out]; exact HVP.out) HO.out (by rw [HX.out]; exact HFT.out))⟩
      case measure => simp [intOf]; omega
    · obtain rfl : k = n := by omega
      have kn : ¬ (k : Int) < k := by omega
      obtain ⟨g2, g3, hFg⟩ := HA.out.vp.cnt
      have HP := Lib.hid (VP.count HA.out.vp (cnt + 1))
      have hGg : ∀ j, j ≤ w1.heap.size → w.heap.size ≤ j → ¬ G j := fun j hj hw hg => by
        rcases HA.out.foot j hg with e | e
        · have := HFL.out j e; omega
        · omega
      have HGG := Lib.hid hGg
      clear hd hFg hGg
      go_wp2_with fail
      exact HPOST.out _ _ ⟨w1.heap.size, ys, G, rfl, HA.out.tl.same (HP.out.2.block _ HA.out.tl.lt (HGG.out _ (Nat.le_refl _) (Nat.le_of_lt S1.out))), HA.out.len, HA.out.fits, HP.out.1, HA.out.only.trans HP.out.2 (fun j hj => (HA.out.foot j hj).imp id (fun e => by have := S1.out; omega)), HA.out.foot, Nat.le_of_lt S1.out⟩
end Go.Proofs.Ytdnabghhjlhjoaa.Vau

