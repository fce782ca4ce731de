/- Graphs of rows of 0 and 1, by the model. -/
import Derived.Test.YtnblhkhdilkbeaaDoorSmg
import Derived.Test.YtnblhkhdilkbeaaDoorCoreB
set_option linter.unusedSimpArgs false
set_option linter.unusedVariables false
set_option maxRecDepth 100000
namespace Go.Proofs.YtnblhkhdilkbeaaDoor
open Go.RowKit

/-- what the model's loops keep -/
structure SoI (y x S : Nat) (w : World) (g m cc : Nat) (W : World) : Prop where
  base : SmI y w W
  x0 : W.cell? ⟨x, 0, none⟩ = some (.int .i64 (S : Int))
  x1 : W.cell? ⟨x, 1, none⟩ = some (.slice (some ⟨g, 0, none⟩) m cc)
  xf : W.frozen? ⟨x, 1, none⟩ = false
  xlt : x < W.heap.size
theorem unp_snoc (es : List (Int × Int)) (e : Int × Int) : unp (es ++ [e]) = unp es ++ [[e.1, e.2]] := by simp [unp]

end Go.Proofs.YtnblhkhdilkbeaaDoor
