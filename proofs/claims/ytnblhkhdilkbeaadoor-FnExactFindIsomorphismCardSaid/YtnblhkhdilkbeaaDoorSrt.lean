/- slices.Sorted at slices.Values: a new list, sorted; isMap. -/
import Derived.Test.YtnblhkhdilkbeaaDoorSqA
import Derived.Test.YtnblhkhdilkbeaaDoorSortO
import Derived.Test.YtnblhkhdilkbeaaDoorRnI
set_option linter.unusedSimpArgs false
set_option linter.unusedVariables false
set_option maxRecDepth 100000
namespace Go.Proofs.YtnblhkhdilkbeaaDoor
open Go.RowKit

end Go.Proofs.YtnblhkhdilkbeaaDoor
