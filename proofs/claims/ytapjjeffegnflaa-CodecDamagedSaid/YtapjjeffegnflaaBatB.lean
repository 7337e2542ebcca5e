/- What the document's In, SameTexts and SameInts give (layer 7, batch). Conditions: the lists lie in memory as their cells say. -/
import Derived.Test.YtapjjeffegnflaaBatA
namespace Go.Proofs.Ytapjjeffegnflaa.Bat
open Go.RowKit Cmd
set_option linter.unusedVariables false



end Go.Proofs.Ytapjjeffegnflaa.Bat
