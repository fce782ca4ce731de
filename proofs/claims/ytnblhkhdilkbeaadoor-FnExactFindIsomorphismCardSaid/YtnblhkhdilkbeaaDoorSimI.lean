/- IsSimple, both sides. -/
import Derived.Test.YtnblhkhdilkbeaaDoorSimP
import Derived.Test.YtnblhkhdilkbeaaDoorCoreF
set_option linter.unusedSimpArgs false
set_option linter.unusedVariables false
set_option maxRecDepth 100000
namespace Go.Proofs.YtnblhkhdilkbeaaDoor
open Go.RowKit

/-- the greatest of the numbers up to k -/
def mxL (xs : List Int) : Nat → Int
  | 0 => xs.getD 0 0
  | k + 1 => if mxL xs k < xs.getD (k + 1) 0 then xs.getD (k + 1) 0 else mxL xs k
theorem mxL_le {xs : List Int} {B : Int} : ∀ k, mxL xs k ≤ B ↔ ∀ j, j ≤ k → xs.getD j 0 ≤ B
  | 0 => ⟨fun h j hj => by obtain rfl : j = 0 := by omega
                           exact h, fun h => h 0 (Nat.le_refl _)⟩
  | k + 1 => by
    have ih := mxL_le (xs := xs) (B := B) k
    unfold mxL
    constructor
    · intro h j hj
      by_cases e : j = k + 1
      · subst e; split at h <;> omega
      · refine ih.1 ?_ j (by omega); split at h <;> omega
    · intro h
      have h1 := ih.2 (fun j hj => h j (by omega))
      have h2 := h (k + 1) (Nat.le_refl _)
      split <;> omega

def simOf (s : Int) (xss : List (List Int)) : Bool × Int := if grB s xss = true then (simB (adF xss) s.toNat, 0) else (false, 1)
theorem simOf_no {s : Int} {xss : List (List Int)} (h : grB s xss = false) : simOf s xss = (false, 1) := by unfold simOf; rw [h]; rfl
theorem simOf_yes {S : Nat} {xss : List (List Int)} (h : grB (S : Int) xss = true) : simOf (S : Int) xss = (simB (adF xss) S, 0) := by unfold simOf; rw [if_pos h, Int.toNat_natCast]
theorem diag_ok {s : Int} {xss : List (List Int)} (v : Nat) : adF xss v v ≤ 0 ∨ 1 < adF xss v v := by
  have h2 := adF_even xss v
  omega

end Go.Proofs.YtnblhkhdilkbeaaDoor
