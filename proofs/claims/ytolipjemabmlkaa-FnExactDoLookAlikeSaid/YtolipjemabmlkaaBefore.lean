/- Lexicographic order of lists of one length, by the model. -/
import Derived.Test.YtolipjemabmlkaaSpecWk2
set_option linter.unusedSimpArgs false
set_option linter.unusedVariables false
namespace Go.Proofs.Ytolipjemabmlkaa
open Go.RowKit

/-- of the m places from k on, the first where they differ says it -/
def bef (xs ys : List Int) : Nat → Nat → Bool
  | 0, _ => false
  | m + 1, k => if xs.getD k 0 = ys.getD k 0 then bef xs ys m (k + 1) else decide (xs.getD k 0 < ys.getD k 0)
/-- turned by so many -/
def turnL (ws : List Int) (k : Nat) : List Int := ws.drop k ++ ws.take k
theorem turnL_len (ws : List Int) (k : Nat) : (turnL ws k).length = ws.length := by simp [turnL]; omega

end Go.Proofs.Ytolipjemabmlkaa
