/- What the program's Has gives (layer 3, ident), by the library's search with a predicate. Condition: the list lies in memory as its cells say. -/
import Derived.Test.YtnekajpoheipiaaGreatIdA
import Derived.Test.YtnekajpoheipiaaGreatShelfG
namespace Go.Proofs.YtnekajpoheipiaaGreat.Ids
open Go.RowKit Go.Lib
set_option linter.unusedVariables false



end Go.Proofs.YtnekajpoheipiaaGreat.Ids
