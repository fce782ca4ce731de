/- DerivativeOfWhole of the model, for every list. -/
import Derived.Test.YtebgbplhcaocoaaSpecDeriv
set_option linter.unusedSimpArgs false
set_option linter.unusedVariables false
set_option maxRecDepth 100000
namespace Go.Proofs.Ytebgbplhcaocoaa
open Go.RowKit

end Go.Proofs.Ytebgbplhcaocoaa
