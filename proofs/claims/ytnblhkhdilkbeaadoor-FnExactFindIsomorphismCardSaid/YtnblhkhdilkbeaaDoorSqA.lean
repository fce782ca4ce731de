/- slices.AppendSeq, slices.Collect and slices.Values of a list of numbers. -/
import Derived.Test.YtnblhkhdilkbeaaDoorSq
import Derived.RangeFuncBound
import Derived.Maps.AppendAt
set_option linter.unusedSimpArgs false
set_option linter.unusedVariables false
namespace Go.Proofs.YtnblhkhdilkbeaaDoor
open Go.RowKit Go.Shelf
attribute [local go_sem] Oper.semAt_some

end Go.Proofs.YtnblhkhdilkbeaaDoor
