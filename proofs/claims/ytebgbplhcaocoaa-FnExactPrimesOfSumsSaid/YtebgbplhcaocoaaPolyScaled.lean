/- The program's polynomials times a number. -/
import Derived.Test.YtebgbplhcaocoaaPolyPlus2
import Derived.Deep.RegionHeld3
set_option linter.unusedSimpArgs false
set_option linter.unusedVariables false
set_option maxRecDepth 100000
namespace Go.Proofs.Ytebgbplhcaocoaa
open Go.RowKit

def scaledL (f : List (Option Int)) (x : Int) : List (Option Int) := f.map (fun o => timesO o (some x))
theorem scaledL_len (f : List (Option Int)) (x : Int) : (scaledL f x).length = f.length := by simp [scaledL]
theorem scaledL_succ (f : List (Option Int)) (x : Int) (k : Nat) (h : k < f.length) : (scaledL f x).take (k+1) = (scaledL f x).take k ++ [timesO (f.getD k (some 0)) (some x)] := by
  rw [List.take_add_one, List.getElem?_eq_getElem (by rw [scaledL_len]; exact h)]
  simp [scaledL, List.getD, List.getElem?_eq_getElem h]

end Go.Proofs.Ytebgbplhcaocoaa
