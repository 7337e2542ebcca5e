/- What the document's In, SameTexts and SameInts give (layer 7, batch). Conditions: the lists lie in memory as their cells say. -/
import Derived.Test.YtimkkelnakamkaaBatA
namespace Go.Proofs.Ytimkkelnakamkaa.Bat
open Go.RowKit Cmd
set_option linter.unusedVariables false



end Go.Proofs.Ytimkkelnakamkaa.Bat
