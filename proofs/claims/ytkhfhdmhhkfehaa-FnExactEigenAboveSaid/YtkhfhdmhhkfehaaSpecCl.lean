/- Closed numbers of the model. -/
import Derived.Test.YtkhfhdmhhkfehaaSpecRows
import Derived.Test.YtkhfhdmhhkfehaaSpecLen
import Derived.Test.YtkhfhdmhhkfehaaProd
set_option linter.unusedSimpArgs false
set_option linter.unusedVariables false
namespace Go.Proofs.Ytkhfhdmhhkfehaa
open Go.RowKit

end Go.Proofs.Ytkhfhdmhhkfehaa
