/- What the developers' canon gives (layer 18): Order, Flat, Leads, Right over the graphs as edges keeps them. -/
import Derived.Test.YtjokejcokgeeiaaGreatOdr
import Derived.Test.YtjokejcokgeeiaaGreatReaN
namespace Go.Proofs.YtjokejcokgeeiaaGreat.Can
open Go.RowKit Cmd Bat Ids Rec Wid Gra Rea Cps
set_option linter.unusedVariables false

theorem rec_is {g : Nat} {rs : List Rcd} {N : Nat} {W : World} (h : GrP N g rs W) : RecIs (some ⟨g, 0, none⟩) rs W := fun X x y hX hw => recd_graph graphs (graphs.on h (hX.mono (graphs.le h))) x y hw
theorem of_none18 : ofG [] = [] := by
  have h : allR [] = [] := rfl
  unfold ofG
  rw [h]; rfl
theorem canons : Canon GrP where
  order := fun h => order_go _ _ _ (of_run _ _ _ (Asks.graph graphs h) (Tells.graph graphs h)) (rec_is h) (graphs.lot h).1
  flat := fun W v l h hl hf hw => flat_run v l W h hf (by omega)
  leads := fun h v u a b ha hb hla hlb hwa hwb => leads_run _ v u _ a b _ (rec_is h) (graphs.lot h).1 ha hb hla hlb hwa hwb
  right := fun h v l hr hl hf hw => right_run _ v _ l _ (of_run _ _ _ (Asks.graph graphs h) (Tells.graph graphs h)) (rec_is h) (graphs.lot h).1 hr hl hf hw
  norder := fun W => by
    have hA := Asks.nil graphs W
    have := order_go none [] W (of_run none [] W hA (Tells.nil W)) (fun X x y hX hw => hA.recd X x y hX hw) hA.lot.1
    have e : orderG [] = [] := by unfold orderG; rw [of_none18]; rfl
    rwa [e] at this
end Go.Proofs.YtjokejcokgeeiaaGreat.Can
