/- Codes of a graph and a length, by the model. -/
import Derived.Test.YtkhfhdmhhkfehaaSpecStc
set_option linter.unusedSimpArgs false
set_option linter.unusedVariables false
namespace Go.Proofs.Ytkhfhdmhhkfehaa
open Go.RowKit

end Go.Proofs.Ytkhfhdmhhkfehaa
