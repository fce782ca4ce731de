/- DegreesOf of the program, for every graph value. -/
import Derived.Test.YtgcidkcedfliiaaImplDegrees2
set_option linter.unusedSimpArgs false
set_option linter.unusedVariables false
namespace Go.Proofs.Ytgcidkcedfliiaa
open Go.RowKit

end Go.Proofs.Ytgcidkcedfliiaa
