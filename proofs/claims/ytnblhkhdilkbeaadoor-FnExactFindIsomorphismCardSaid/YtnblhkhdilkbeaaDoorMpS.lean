/- Lists that are maps of at most eight vertices, by the model: a number is met or not, in an array of eight. -/
import Derived.Test.YtnblhkhdilkbeaaDoorCoreE
set_option linter.unusedSimpArgs false
set_option linter.unusedVariables false
set_option maxRecDepth 100000
namespace Go.Proofs.YtnblhkhdilkbeaaDoor
open Go.RowKit

/-- a block of eight bools: which of 0 to 7 are in the list -/
def BoxN (w : World) (b : Nat) (M : List Int) : Prop := b < w.heap.size ∧ ∀ X : Nat, X < 8 → w.cell? ⟨b, X, none⟩ = some (.bool (M.contains (X : Int))) ∧ w.frozen? ⟨b, X, none⟩ = false
theorem BoxN.put {w : World} {b : Nat} {M : List Int} (h : BoxN w b M) {x : Nat} (hx : x < 8) : BoxN (w.setCell ⟨b, x, none⟩ (.bool true)) b (M ++ [(x : Int)]) := by
  refine ⟨by rw [World.size_setCell]; exact h.1, fun X hX => ⟨?_, by rw [World.frozen?_setCell]; exact (h.2 X hX).2⟩⟩
  rw [contains_snoc]
  by_cases e : X = x
  · subst e
    rw [World.cell?_setCell_same _ _ _ (h.2 X hX).1]
    simp
  · rw [World.cell?_setCell_other _ _ _ _ (by simp <;> omega), (h.2 X hX).1, decide_eq_false (by omega)]
    simp
theorem BoxN.qt {w w' : World} {b : Nat} {M : List Int} (h : BoxN w b M) (q : Qt w w') : BoxN w' b M := ⟨Nat.lt_of_lt_of_le h.1 q.below.size, fun X hX => ⟨q.below.keep (h.2 X hX).1, q.below.keepf h.1 (h.2 X hX).2⟩⟩
theorem inR_at {x s : Int} (h : inR x s = true) (hs : s ≤ 8) : ∃ j : Nat, j < 8 ∧ x = j := by
  unfold inR at h
  simp only [Bool.and_eq_true, decide_eq_true_eq] at h
  exact ⟨x.toNat, by omega, by omega⟩

end Go.Proofs.YtnblhkhdilkbeaaDoor
