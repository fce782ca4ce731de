/- Walks of the model: is a list a walk; the codes. -/
import Derived.Test.YtkhfhdmhhkfehaaNext
import Derived.Test.YtkhfhdmhhkfehaaSpecWalkL
import Derived.Deep.RegionHeld3
set_option linter.unusedSimpArgs false
set_option linter.unusedVariables false
namespace Go.Proofs.Ytkhfhdmhhkfehaa
open Go.RowKit

end Go.Proofs.Ytkhfhdmhhkfehaa
