/- Cyclic covers by the model. -/
import Derived.Test.YtnblhkhdilkbeaaDoorArr
import Derived.Test.YtnblhkhdilkbeaaDoorCoreB
import Derived.Deep.AppendLies
set_option linter.unusedSimpArgs false
set_option linter.unusedVariables false
set_option maxRecDepth 100000
namespace Go.Proofs.YtnblhkhdilkbeaaDoor
open Go.RowKit

def wM (m y : Int) : Bool := decide (-m ≤ y) && decide (y ≤ m)
def listB (n : Nat) (m : Int) (ys : List Int) : Bool := ys.all (wM m) && decide (ys.length = n)

theorem Box4.put3 {w : World} {b : Nat} {v0 v1 v2 v3 : Value} (h : Box4 w b v0 v1 v2 v3) (u : Value) : Box4 (w.setCell ⟨b, 3, none⟩ u) b v0 v1 v2 u := by
  obtain ⟨lt, c0, c1, c2, c3, f0, f1, f2, f3⟩ := h
  refine ⟨by simpa [World.setCell] using lt, ?_, ?_, ?_, World.cell?_setCell_same _ _ _ c3, ?_, ?_, ?_, ?_⟩
  · rw [World.cell?_setCell_other _ _ _ _ (by simp)]; exact c0
  · rw [World.cell?_setCell_other _ _ _ _ (by simp)]; exact c1
  · rw [World.cell?_setCell_other _ _ _ _ (by simp)]; exact c2
  all_goals (rw [World.frozen?_setCell]; assumption)

def cycRows (sh : Int) (ys : List Int) : List (List Int) := ys.map (twB sh)
theorem cycRows_get {sh : Int} {ys : List Int} {k : Nat} (h : k < ys.length) : (cycRows sh ys).getD k [] = twB sh (ys.getD k 0) := by
  simp [cycRows, List.getD, h]
theorem cycRows_len (sh : Int) (ys : List Int) : (cycRows sh ys).length = ys.length := by simp [cycRows]
theorem cycRows_take {sh : Int} {ys : List Int} {k : Nat} (h : k < ys.length) : (cycRows sh ys).take (k+1) = (cycRows sh ys).take k ++ [twB sh (ys.getD k 0)] := by
  rw [take_snocR (by rw [cycRows_len]; exact h), cycRows_get h]

theorem getD_memI {ys : List Int} {k : Nat} (h : k < ys.length) : ys.getD k 0 ∈ ys := by
  simp only [List.getD, List.getElem?_eq_getElem h, Option.getD_some]; exact List.getElem_mem h

end Go.Proofs.YtnblhkhdilkbeaaDoor
