/- What the program's Has gives (layer 3, ident), by the library's search with a predicate. Condition: the list lies in memory as its cells say. -/
import Derived.Test.YtimkkelnakamkaaIdD
import Derived.Test.YtimkkelnakamkaaShelfG
namespace Go.Proofs.Ytimkkelnakamkaa.Ids
open Go.RowKit Go.Lib
set_option linter.unusedVariables false



end Go.Proofs.Ytimkkelnakamkaa.Ids
