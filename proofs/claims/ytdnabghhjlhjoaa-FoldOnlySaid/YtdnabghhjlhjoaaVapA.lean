/- Apply of a vault told at once, whether the batch may be or not (layer 13, vault). Conditions: those in each statement. -/
import Derived.Test.YtdnabghhjlhjoaaVauN
namespace Go.Proofs.Ytdnabghhjlhjoaa.Vau
open Go.RowKit F64 Cmd Bat Cel Wid Go.Maps Go.WideElems Go.ChangeMaps Go.Sort
set_option linter.unusedVariables false
set_option linter.unusedSimpArgs false
theorem kC_cellOf (xs : List Itm) (x : Itm) : kC (cellOf xs) x.2 = cellOf (xs ++ [x]) := by funext t; unfold kC; rw [cellOf_snoc]
theorem kL_logOf (xs : List Itm) (x : Itm) : kL (logOf xs) x.1 x.2 = logOf (xs ++ [x]) := by funext t; unfold kL; rw [logOf_snoc]

/-! ### What is told, in memory -/
def TR (v : Value) (ys : List Rs) (W : World) : Prop := (v = .slice none 0 0 ∧ ys = []) ∨ ∃ tb n, v = .slice (some ⟨tb, 0, none⟩) n n ∧ Tl tb n ys W ∧ ys.length = n ∧ n ≤ 8
theorem TR.row {v : Value} {ys : List Rs} {W : World} (h : TR v ys W) : layR.Row W v ys := by
  rcases h with ⟨rfl, rfl⟩ | ⟨tb, n, rfl, h1, h2, h3⟩
  · exact ⟨none, 0, rfl, Nat.le_refl _, by omega, fun h => absurd rfl h⟩
  · exact h1.row h2 (by omega)
theorem TR.shape {v : Value} {ys : List Rs} {W : World} (h : TR v ys W) : ∃ p c, v = .slice p ys.length c := by
  obtain ⟨p, c, e, _⟩ := h.row
  exact ⟨p, c, e⟩
theorem TR.same {v : Value} {ys : List Rs} {W W' : World} (h : TR v ys W) (hb : ∀ k, v.ownBlock = some k → W'.heap[k]? = W.heap[k]?) : TR v ys W' := by
  rcases h with h | ⟨tb, n, rfl, h1, h2, h3⟩
  · exact .inl h
  · exact .inr ⟨tb, n, rfl, h1.same (hb tb rfl), h2, h3⟩
theorem TR.lt {v : Value} {ys : List Rs} {W : World} (h : TR v ys W) : ∀ k, v.ownBlock = some k → k < W.heap.size := fun k hk => by
  rcases h with ⟨rfl, _⟩ | ⟨tb, n, rfl, h1, _⟩
  · cases hk
  · cases hk; exact h1.lt
theorem TR.on {v : Value} {ys : List Rs} {W W' : World} (h : TR v ys W) (hb : Below W.heap.size W W') : TR v ys W' := h.same fun k hk => hb.block k (h.lt k hk)
theorem TR.far {v : Value} {ys : List Rs} {W W' : World} {G : Nat → Prop} (h : TR v ys W) (ho : Only G W W') (hG : ∀ k, v.ownBlock = some k → ¬ G k) : TR v ys W' := h.same fun k hk => ho.block k (h.lt k hk) (hG k hk)

/-! ### Apply -/
def stC (C : Key → Cell2) (cs : List Cmdn) : Key → Cell2 := if bErr cs = 0 then kC C cs else C
def stL (L : Key → List Wr) (id : Int × Int) (cs : List Cmdn) : Key → List Wr := if bErr cs = 0 then kL L id cs else L
def stR (C : Key → Cell2) (id : Int × Int) (cs : List Cmdn) : List Rs := if bErr cs = 0 then resQ C id cs cs.length else []
def GivesAp (base : Nat) (F : Nat → Prop) (g : Nat) (C : Key → Cell2) (L : Key → List Wr) (N : Nat) (cnt : Int) (id : Int × Int) (cs : List Cmdn) (w : World) (E : Ending) (w' : World) : Prop :=
  ∃ (t : Value) (ys : List Rs) (G : Nat → Prop) (c' : Int), E = .returned (.tuple #[t, .int .i64 (bErr cs)]) ∧ TR t ys w' ∧ Fits ys (stR C id cs) ∧ VP w' base G g (stC C cs) (stL L id cs) (N + 16) c' ∧ Only F w w' ∧ (∀ j, G j → F j ∨ w.heap.size ≤ j) ∧ (∀ k, t.ownBlock = some k → ¬ G k ∧ w.heap.size ≤ k) ∧ (c' = if bErr cs = 0 then cnt + 1 else cnt)
theorem vap_any {w : World} {base : Nat} {F : Nat → Prop} {g : Nat} {C : Key → Cell2} {L : Key → List Wr} {N : Nat} {cnt : Int} (V : VP w base F g C L N cnt) (hbase : base ≤ w.heap.size) (a b : Int) (v : Value) (cs : List Cmdn) (hrow : ∀ W, Only F w W → layC.Row W v cs) (hw : ∀ x ∈ cs, wfC x) (hN : N ≤ 50000) (hL : ∀ s, (L s).length ≤ 50000) (hc0 : 0 ≤ cnt) (hc1 : cnt ≤ 100000) :
    Calls Try.prog 31 #[.pointer (some ⟨g, 0, none⟩), .agg #[.int .i64 a, .int .i64 b], v] w (GivesAp base F g C L N cnt (a, b) cs w) := by
  by_cases he : bErr cs = 0
  · refine (vapply_any V hbase a b v cs hrow hw he hN hL hc0 hc1).mono ?_
    rintro E w' ⟨tb, ys, G, hE, ht, hlen, hfit, hv, ho, hG, htb⟩
    have h8 := (bErr_ok he).1
    have hfoot := V.foot
    refine ⟨_, ys, G, cnt + 1, by rw [he]; exact hE, .inr ⟨tb, cs.length, rfl, ht, hlen, h8⟩, by unfold stR; rw [if_pos he]; exact hfit, ?_, ho, fun j hj => (hG j hj).imp id (fun e => by omega), fun k hk => ?_, by rw [if_pos he]⟩
    · unfold stC stL
      rw [if_pos he, if_pos he]
      exact hv.mono (by omega)
    · have hk' : tb = k := Option.some.inj hk
      subst hk'
      refine ⟨fun hg => ?_, htb⟩
      rcases hG _ hg with e | e
      · have := (hfoot _ e).2; omega
      · omega
  · refine (vapply_wrong g a b v cs w (hrow w (Only.refl F w)) hw he).mono ?_
    rintro E w' ⟨hE, hb⟩
    refine ⟨_, [], F, cnt, hE, .inl ⟨rfl, rfl⟩, by unfold stR; rw [if_neg he]; exact Fits.nil, ?_, Only.of F hb, fun j hj => .inl hj, fun k hk => (by cases hk), by rw [if_neg he]⟩
    unfold stC stL
    rw [if_neg he, if_neg he]
    exact (V.on hb).mono (by omega)
theorem stL_len {L : Key → List Wr} {id : Int × Int} {cs : List Cmdn} {m : Nat} (h : ∀ s, (L s).length ≤ m) (s : Key) : (stL L id cs s).length ≤ m + 8 := by
  unfold stL
  split
  · rename_i he
    have := kL_len (id := id) (cs := cs) h s
    have := (bErr_ok he).1
    omega
  · have := h s; omega
end Go.Proofs.Ytdnabghhjlhjoaa.Vau
