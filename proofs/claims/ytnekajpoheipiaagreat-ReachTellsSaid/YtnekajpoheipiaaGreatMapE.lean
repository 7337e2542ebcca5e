/- 'm[k] = f(m[k])' at a map of any elements: the entry is read (and made), and stored into later (layer 15, edges). Conditions: those in each statement. -/
import Derived.Test.YtnekajpoheipiaaGreatKeyI
import Derived.WideKeyEntry
namespace Go.Proofs.YtnekajpoheipiaaGreat.Mpg
open Go.RowKit Cmd Bat Go.Maps Go.WideElems Go.ChangeMaps
set_option linter.unusedVariables false
set_option linter.unusedSimpArgs false
section
variable {K : Type} [DecidableEq K] {kt : TypeId} {Y : Ky K kt} {w : World} {b N : Nat} {f : K → Option Value} {t e : TypeId} {z : Value}
theorem MapG.entry (h : MapG Y w b N f) (KL : Go.WideMaps.KeyLaw Tryz.prog kt) (ht : Tryz.prog.underlying t = some (.map kt e)) (hz : ∀ w, (zeroValue e).run Tryz.prog w = .ok z w) (hN : N ≤ 1000000) {x : K} (hx : Y.ok x) :
    ∃ (st : Int) (w1 : World), (Instr.mapEntry t (.map (some b)) (Y.val x)).run Tryz.prog w = .ok (.tuple #[(f x).getD z, .int .i64 st]) w1 ∧ w.mapTurned w1 b ∧
      ∀ (w2 : World) (v : Value), w2.heap[b]? = w1.heap[b]? → ∃ w3, (Instr.entryStore t (.map (some b)) (.int .i64 st) v).run Tryz.prog w2 = .ok () w3 ∧ MapG Y w3 b (N + 1) (setF f x (some v)) ∧ w2.mapTurned w3 b := by
  have h' := h
  obtain ⟨D, ks, ⟨es, clock, hb, F, hs, hD⟩, S, hk⟩ := h
  obtain ⟨v0, st, es1, clock1, hrun, hv0, hst⟩ := entry_then_store KL ht hz hb F (Y.key hx)
  have hv : v0 = (f x).getD z := by
    have h0 := S.has x hx
    rcases hv0 with ⟨e0, hm, hke, rfl⟩ | ⟨hno, rfl⟩
    · have hat := atKey_some KL F (Y.key hx) hm hke (z := (.held e0.val, [])) rfl
      cases hf : f x with
      | none =>
        rw [hf] at h0
        have := has_true_of_atKey (D := D) (k := Y.lit x) (fun zd => by rw [hD]; exact hat zd)
        rw [h0] at this; cases this
      | some u =>
        have h1 := S.val x hx u hf (.held u)
        have h2 : D.atKey (Y.lit x) (.held u) = .held e0.val := by rw [hD]; exact hat _
        rw [h1] at h2
        cases h2; rfl
    · have hat := atKey_none KL F (Y.key hx) hno
      cases hf : f x with
      | none => rfl
      | some u =>
        have h1 := S.val x hx u hf (.lit (.bool true))
        have h2 : D.atKey (Y.lit x) (.lit (.bool true)) = .lit (.bool true) := by rw [hD]; exact hat _
        rw [h1] at h2; cases h2
  refine ⟨(st : Int), setBlock w b (.map es1 clock1), by rw [hrun, hv]; rfl, ⟨es, clock, es1, clock1, hb, rfl⟩, fun w2 v e2 => ?_⟩
  have hw2 : w2.heap[b]? = some (.map es1 clock1) := e2.trans (heap_setBlock_same hb _)
  obtain ⟨es', clock', r1, r2⟩ := hst w2 v hw2
  obtain ⟨w', r3, m3, -⟩ := MapG.store h' ht hN hx v
  rw [r2] at r3
  have e4 : setBlock w b (.map es' clock') = w' := by injection r3
  exact ⟨_, r1, m3.block ((heap_setBlock_same hw2 _).trans (by rw [← e4]; exact (heap_setBlock_same hb _).symm)), ⟨es1, clock1, es', clock', hw2, rfl⟩⟩
end
set_option maxRecDepth 100000 in
theorem klaw_id : Go.WideMaps.KeyLaw Tryz.prog 25 := deep_law_laid (by kernel_rfl) (m := 3) (by omega) (of_decide_eq_true (by kernel_rfl)) (by kernel_rfl) Ids.wide_id
end Go.Proofs.YtnekajpoheipiaaGreat.Mpg
