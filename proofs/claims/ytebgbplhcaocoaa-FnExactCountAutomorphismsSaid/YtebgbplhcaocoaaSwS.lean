/- Sets that switch, by the model. -/
import Derived.Test.YtebgbplhcaocoaaSwJ
set_option linter.unusedSimpArgs false
set_option linter.unusedVariables false
set_option maxRecDepth 100000
namespace Go.Proofs.Ytebgbplhcaocoaa
open Go.RowKit

end Go.Proofs.Ytebgbplhcaocoaa
