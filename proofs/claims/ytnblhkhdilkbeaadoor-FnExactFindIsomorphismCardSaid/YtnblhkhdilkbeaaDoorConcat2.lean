/- slices.Concat of a list and itself. -/
import Derived.Test.YtnblhkhdilkbeaaDoorConcat
set_option linter.unusedSimpArgs false
set_option linter.unusedVariables false
namespace Go.Proofs.YtnblhkhdilkbeaaDoor
open Go.RowKit

def szD (n q : Nat) : Nat := if q = 0 then 0 else if q = 1 then n else n + n
def catD (ws : List Int) (q : Nat) : List Value := if q = 0 then [] else if q = 1 then ws.map (Value.int .i64) else ws.map (Value.int .i64) ++ ws.map (Value.int .i64)

end Go.Proofs.YtnblhkhdilkbeaaDoor
