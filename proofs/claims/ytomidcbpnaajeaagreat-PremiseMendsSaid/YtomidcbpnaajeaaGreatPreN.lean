/- The developers' calls of layer 20 (premise) over the developers' graphs. Conditions: a graph as layer 15 has it; those in each statement. -/
import Derived.Test.YtomidcbpnaajeaaGreatPreK
import Derived.Test.YtomidcbpnaajeaaGreatPreH
import Derived.Test.YtomidcbpnaajeaaGreatPreO
import Derived.Test.YtomidcbpnaajeaaGreatGraN
namespace Go.Proofs.YtomidcbpnaajeaaGreat.Pre
open Go.RowKit Cmd Bat Ids Rec Wid Gra Cps Vau
theorem premises : Premise GrP where
  holds h := pholds_any graphs h
  edge h a b c d hx hy := pedge_any graphs h a b c d hx hy
  writers h v xs s hr hl hw := pwriters_any graphs h v xs s hr hl hw
  mend v rs W h hlot := pmend_any v rs W h hlot
end Go.Proofs.YtomidcbpnaajeaaGreat.Pre
