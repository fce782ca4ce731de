/- Walks of the model: is a list a walk; the codes. -/
import Derived.Test.YtbfgehgjecgfmaaNext
import Derived.Test.YtbfgehgjecgfmaaSpecWalkL
import Derived.Deep.RegionHeld3
set_option linter.unusedSimpArgs false
set_option linter.unusedVariables false
namespace Go.Proofs.Ytbfgehgjecgfmaa
open Go.RowKit

end Go.Proofs.Ytbfgehgjecgfmaa
