/- Elimination by the program: a row with a number other than 0 is brought up, whole numbers. -/
import Derived.Test.YtnblhkhdilkbeaaBc
import Derived.Deep.RegionHeld3
import Derived.StillTailTactics
set_option linter.unusedSimpArgs false
set_option linter.unusedVariables false
set_option maxRecDepth 100000
namespace Go.Proofs.Ytnblhkhdilkbeaa
open Go.RowKit

/-- the row k, changed up to a column -/
def ngF (r : Int → Int) (F : Nat → Nat → Int) (k m : Nat) : Nat → Nat → Int := fun i j => if i = k ∧ j < m then r (F i j) else F i j
theorem ngF_0 (r : Int → Int) (F : Nat → Nat → Int) (k : Nat) : ngF r F k 0 = F := by funext i j; unfold ngF; rw [if_neg (by omega)]
theorem ngF_at (r : Int → Int) (F : Nat → Nat → Int) (k m : Nat) : ngF r F k m k m = F k m := by unfold ngF; rw [if_neg (by omega)]
theorem ngF_put (r : Int → Int) (F : Nat → Nat → Int) (k m : Nat) : put (ngF r F k m) k m (r (F k m)) = ngF r F k (m + 1) := by
  funext a b
  unfold put ngF
  by_cases h : a = k ∧ b = m
  · obtain ⟨rfl, rfl⟩ := h
    rw [if_pos ⟨rfl, rfl⟩, if_pos ⟨rfl, Nat.lt_succ_self _⟩]
  · rw [if_neg h]
    have : (a = k ∧ b < m) ↔ (a = k ∧ b < m + 1) := by omega
    simp only [this]

end Go.Proofs.Ytnblhkhdilkbeaa
