/- slices.Grow of the nil slice. -/
import Derived.Test.YtnblhkhdilkbeaaDoorCoreA
import Derived.Lib.Walk
import Derived.Lib.SliceRun
import Derived.Lib.AppendZerosOnto
set_option linter.unusedSimpArgs false
set_option linter.unusedVariables false
namespace Go.Proofs.YtnblhkhdilkbeaaDoor
open Go.RowKit Go.Lib

theorem zc_size (n : Nat) : (Builtin.zeroCells (Value.cells (.int .i64 0)) n).size = n := by simp [Builtin.zeroCells, Value.cells]
end Go.Proofs.YtnblhkhdilkbeaaDoor
