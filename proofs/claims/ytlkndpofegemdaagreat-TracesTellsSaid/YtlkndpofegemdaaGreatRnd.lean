/- A drawn region in the body of a range over a function: at the fence that asks nothing it is walked as one outside it. Conditions: none of its operations is a defer statement; those in each statement. -/
import Derived.RangeFuncNested
import Derived.RangeFuncBound
import Derived.RangeFuncLeaves
import Derived.OrdersIn
import Derived.TacticsIn
import Derived.Deep.RegionHeld
namespace Go.Proofs.YtlkndpofegemdaaGreat.Rnd
open Go Go.RowKit
set_option linter.unusedVariables false
set_option linter.unusedSimpArgs false

variable {P : Program} {ops : Array Oper} {Q : Exit → Act → World → Prop}
theorem upon_round {l n : Nat} {o : Oper} {a : Act} {K K' : Act → World → Prop} (hK : ∀ a w, K a w → K' a w) : ∀ {r : Result Next}, o.upon P a K Q r → o.uponIn (Fence.wide.inRound l) n P a K' Q r
  | .ok (.value v) w, h => hK _ _ h
  | .ok .skip w, h => hK _ _ h
  | .ok (.defer d) w, h => hK _ _ h
  | .ok (.enter f args) w, h => ⟨fun e => (by cases e), CallsIn.inRound l (callsIn_wide.2 (Calls.mono h fun e w'' he => by
      cases e with
      | returned v => exact hK _ _ he
      | panicked c => exact he
      | outgrown => exact he))⟩
  | .ok (.row row args) w, h => ⟨fun e => (by cases e), fun c cs _ => by
      obtain ⟨v, w', r, s⟩ := h c cs
      exact ⟨v, w', hK _ _ r, stepsIn_wide.2 s⟩⟩
  | .ok (.round _ _ _ _ _) w, h => h.elim
  | .halt x w, h => by
    cases x <;> first | exact h | exact h.elim
theorem op_round {l n i : Nat} {a : Act} {w : World} {K K' : Act → World → Prop} (hd : ∀ o, ops[i]? = some o → ∀ c, o.op ≠ .defer c) (hQ : ¬ LetsOut Q) (hK : ∀ a w, K a w → K' a w) (h : wpOp P ops Q i K a w) : wpOpIn (Fence.wide.inRound l) n P ops Q i K' a w := by
  unfold wpOp at h
  unfold wpOpIn
  cases e : ops[i]? with
  | none => rw [e] at h; exact hK _ _ h
  | some o =>
    rw [e] at h
    dsimp only at h ⊢
    by_cases hw : Region.wanted o (yielded ops a.tmps) = true
    · rw [if_pos hw] at h ⊢
      rcases h with h | ⟨-, h⟩
      · unfold Oper.wp at h
        refine ⟨fun _ _ => trivial, ?_⟩
        rw [show (Fence.wide.inRound l).round = some l from rfl, Oper.semAt_some l a.eval o (hd o e)]
        exact upon_round hK h
      · exact absurd h hQ
    · rw [if_neg hw] at h ⊢
      exact ⟨fun _ _ => trivial, hK _ _ h⟩
theorem any_round {l n : Nat} {md : Region.Mode} {S : World → Prop} (hd : ∀ (i : Nat) (o : Oper), ops[i]? = some o → ∀ c, o.op ≠ .defer c) (hQ : ¬ LetsOut Q) : ∀ (f : Nat) (L : Array Bool) (a : Act) (w : World), wpAnyH P md ops Q S f L a w → wpAnyIn (Fence.wide.inRound l) n P md ops Q f L a w
  | 0, L, a, w, h => h
  | f + 1, L, a, w, h => ⟨h.1, fun i hi => op_round (hd i) hQ (fun a' w' h' => any_round hd hQ f _ a' w' h'.2) (h.2 i hi)⟩
/-- Such a region in a round. -/
theorem region_round {F : Fence} (hF : F = Fence.wide) {l n id : Nat} {a : Act} {w : World} (S : World → Prop) (hm : P.follows .mixedOrders = true) (hd : (ops.toList.all fun (o : Oper) => match o.op with | .defer _ => false | _ => true) = true) (hQ : ¬ LetsOut Q) (hS : S w.drew)
    (h : S w.drew → wpAnyH P .any ops Q S ops.size (Array.replicate ops.size false) a w.drew) : (Code.region id ops true).wpIn (F.inRound l) n P Q a w := by
  subst hF
  refine wpIn_region_any hm ?_
  exact any_round (fun i o hi c hc => by
    have := List.all_eq_true.1 hd o (by rw [← Array.getElem?_toList] at hi; exact List.mem_of_getElem? hi)
    rw [hc] at this
    cases this) hQ _ _ _ _ (h hS)
/-- Whatever way leads to one goal. -/
theorem join0 {A B : Prop} (h1 : A → B) (h2 : A) : B := h1 h2
theorem to_listedIn {F : Fence} {n : Nat} {md : Region.Mode} {f f' : Nat} {L L' : Array Bool} {a : Act} {w : World} (hf : f = f') (hL : L = L') (h : wpAnyIn F n P md ops Q f' L' a w) : wpAnyIn F n P md ops Q f L a w := by subst hf; subst hL; exact h
end Go.Proofs.YtlkndpofegemdaaGreat.Rnd
