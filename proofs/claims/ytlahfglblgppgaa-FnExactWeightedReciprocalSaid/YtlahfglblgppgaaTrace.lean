/- Sums on diagonals, by the program; EdgeMatrix's rows, by the program. -/
import Derived.Test.YtlahfglblgppgaaProd
import Derived.Test.YtlahfglblgppgaaCoreB
import Derived.Maps.RangeWalk
set_option linter.unusedSimpArgs false
set_option linter.unusedVariables false
namespace Go.Proofs.Ytlahfglblgppgaa
open Go.RowKit Go.Maps

end Go.Proofs.Ytlahfglblgppgaa
