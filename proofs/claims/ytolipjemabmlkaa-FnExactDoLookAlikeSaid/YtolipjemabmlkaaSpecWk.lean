/- Walks of the model: is a list a walk; the codes. -/
import Derived.Test.YtolipjemabmlkaaNext
import Derived.Test.YtolipjemabmlkaaSpecWalkL
import Derived.Deep.RegionHeld3
set_option linter.unusedSimpArgs false
set_option linter.unusedVariables false
namespace Go.Proofs.Ytolipjemabmlkaa
open Go.RowKit

end Go.Proofs.Ytolipjemabmlkaa
