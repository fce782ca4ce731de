/- EdgeMatrix, both sides. -/
import Derived.Test.YtnblhkhdilkbeaaCoreC
import Derived.Test.YtnblhkhdilkbeaaEdgeRows
set_option linter.unusedSimpArgs false
set_option linter.unusedVariables false
namespace Go.Proofs.Ytnblhkhdilkbeaa
open Go.RowKit

def edgeMatOf (s : Int) (xss : List (List Int)) : List (List Int) × Int := if grB s xss = true then (tab (2 * xss.length) (edgeM (dirE (pairs xss))), 0) else ([], 1)
theorem edgeMatOf_lens (s : Int) (xss : List (List Int)) : lens (edgeMatOf s xss).1 ≤ 1000 := by
  unfold edgeMatOf
  split
  · rename_i hg
    have h1 := grB_iff hg
    simp only [tab_lens]
    have h2 : 2 * xss.length ≤ 20 := by omega
    exact Nat.le_trans (Nat.mul_le_mul h2 h2) (by decide)
  · simp [lens]

end Go.Proofs.Ytnblhkhdilkbeaa
