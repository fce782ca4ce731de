/- IsStraight of the model. -/
import Derived.Test.YtlahfglblgppgaaClosed
import Derived.Test.YtlahfglblgppgaaCoreB
import Derived.Test.YtlahfglblgppgaaCoreA
set_option linter.unusedSimpArgs false
set_option linter.unusedVariables false
namespace Go.Proofs.Ytlahfglblgppgaa
open Go.RowKit

def backB (ws : List Int) (i : Nat) : Bool := nextW ws i == rv (ws.getD i 0)
def noBackB (ws : List Int) : Bool := (List.range ws.length).all (fun i => !backB ws i)
theorem noBack_bad {ws : List Int} {i : Nat} (hi : i < ws.length) (h : backB ws i = true) : noBackB ws = false := by
  unfold noBackB
  rw [List.all_eq_false]
  exact ⟨i, List.mem_range.2 hi, by simp [h]⟩
theorem noBack_end {ws : List Int} (h : ∀ i, i < ws.length → backB ws i = false) : noBackB ws = true := by
  unfold noBackB
  rw [List.all_eq_true]
  exact fun i hi => by rw [h i (List.mem_range.1 hi)]; rfl
def straightOf (s : Int) (xss : List (List Int)) (ws : List Int) : Bool × Int :=
  if grB s xss = true then (if walkB xss.length ws = true then (closedB (dirE (pairs xss)) ws && noBackB ws, 0) else (false, 2)) else (false, 1)

end Go.Proofs.Ytlahfglblgppgaa
