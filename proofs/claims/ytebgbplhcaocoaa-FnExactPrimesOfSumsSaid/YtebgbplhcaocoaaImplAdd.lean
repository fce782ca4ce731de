/- AddWhole of the program. -/
import Derived.Test.YtebgbplhcaocoaaPolyScaled
import Derived.Test.YtebgbplhcaocoaaImplDeriv2
set_option linter.unusedSimpArgs false
set_option linter.unusedVariables false
set_option maxRecDepth 100000
namespace Go.Proofs.Ytebgbplhcaocoaa
open Go.RowKit

def addO (f g : List Int) (k : Int) : List (Option Int) := plusL (f.map some) (scaledL (g.map some) k)
theorem addO_len (f g : List Int) (k : Int) : (addO f g k).length = max f.length g.length := by simp [addO, plusL_len, scaledL_len]
theorem somes_lim {f : List Int} (h : wholeB f = true) (j : Nat) : OLim ((f.map some).getD j (some 0)) := by
  by_cases hj : j < f.length
  · have : (f.map some).getD j (some 0) = some (f.getD j 0) := by simp [List.getD, List.getElem?_eq_getElem hj]
    rw [this]; exact OLim.some ((wholeB_lim h).2 j hj)
  · have : (f.map (some : Int → Option Int)).getD j (some 0) = some 0 := by simp [List.getD, List.getElem?_eq_none (Nat.le_of_not_lt hj)]
    rw [this]; exact OLim.some (by unfold Lim; omega)
theorem scaledL_lim (f : List (Option Int)) (x : Int) (j : Nat) : OLim ((scaledL f x).getD j (some 0)) := by
  by_cases hj : j < f.length
  · have : (scaledL f x).getD j (some 0) = timesO (f.getD j (some 0)) (some x) := by simp [scaledL, List.getD, List.getElem?_eq_getElem hj]
    rw [this]; exact timesO_lim _ _
  · have : (scaledL f x).getD j (some 0) = some 0 := by simp [scaledL, List.getD, List.getElem?_eq_none (Nat.le_of_not_lt hj)]
    rw [this]; exact OLim.some (by unfold Lim; omega)
theorem plusL_lim (f g : List (Option Int)) (j : Nat) (hj : j < (plusL f g).length) : OLim ((plusL f g).getD j none) := by
  rw [plusL_len] at hj
  have : (plusL f g).getD j none = plusO (atO f j) (atO g j) := by simp [plusL, List.getD, hj]
  rw [this]; exact plusO_lim _ _

end Go.Proofs.Ytebgbplhcaocoaa
