/- DegreesOf of the model. -/
import Derived.Test.YtebgbplhcaocoaaCoreB
set_option linter.unusedSimpArgs false
set_option linter.unusedVariables false
namespace Go.Proofs.Ytebgbplhcaocoaa
open Go.RowKit

end Go.Proofs.Ytebgbplhcaocoaa
