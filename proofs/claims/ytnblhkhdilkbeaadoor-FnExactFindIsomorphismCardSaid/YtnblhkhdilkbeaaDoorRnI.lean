/- RenumberGraph, by the program. -/
import Derived.Test.YtnblhkhdilkbeaaDoorRnS
import Derived.Test.YtnblhkhdilkbeaaDoorCoreB
import Derived.StillTailTactics
set_option linter.unusedSimpArgs false
set_option linter.unusedVariables false
set_option maxRecDepth 100000
namespace Go.Proofs.YtnblhkhdilkbeaaDoor
open Go.RowKit

/-- the edges while they are renumbered -/
def rnS (xs : List Int) (xss : List (List Int)) (k : Nat) : List (Int × Int) := (rnE xs xss).take k ++ (pairs xss).drop k
theorem rnS_zero (xs : List Int) (xss : List (List Int)) : rnS xs xss 0 = pairs xss := by simp [rnS]
theorem rnS_all (xs : List Int) (xss : List (List Int)) : rnS xs xss xss.length = rnE xs xss := by
  unfold rnS
  rw [List.take_of_length_le (by rw [rnE_len]; exact Nat.le_refl _), List.drop_eq_nil_of_le (by rw [pairs_len]; exact Nat.le_refl _), List.append_nil]
theorem rnS_len {xs : List Int} {xss : List (List Int)} {k : Nat} (hk : k ≤ xss.length) : (rnS xs xss k).length = xss.length := by
  unfold rnS
  rw [List.length_append, List.length_take, List.length_drop, rnE_len, pairs_len]
  omega
theorem rnS_get {xs : List Int} {xss : List (List Int)} {k : Nat} (hk : k < xss.length) : (rnS xs xss k).getD k (0, 0) = ((xss.getD k []).getD 0 0, (xss.getD k []).getD 1 0) := by
  rw [← pairs_getD]
  unfold rnS
  have hl : ((rnE xs xss).take k).length = k := by rw [List.length_take, rnE_len]; omega
  simp only [List.getD]
  rw [List.getElem?_append_right (by omega), hl, Nat.sub_self, List.getElem?_drop, Nat.add_zero]
theorem rnE_get {xs : List Int} {xss : List (List Int)} {k : Nat} (hk : k < xss.length) : (rnE xs xss).getD k (0, 0) = (xs.getD ((xss.getD k []).getD 0 0).toNat 0, xs.getD ((xss.getD k []).getD 1 0).toNat 0) := by
  unfold rnE pairs
  simp [List.getD, hk]
theorem rnS_set {xs : List Int} {xss : List (List Int)} {k : Nat} (hk : k < xss.length) : (rnS xs xss k).set k ((rnE xs xss).getD k (0, 0)) = rnS xs xss (k + 1) := by
  have hl : ((rnE xs xss).take k).length = k := by rw [List.length_take, rnE_len]; omega
  unfold rnS
  rw [List.set_append_right _ _ (by omega), hl, Nat.sub_self, List.drop_eq_getElem_cons (show k < (pairs xss).length by rw [pairs_len]; exact hk), List.set_cons_zero, List.take_add_one, List.getElem?_eq_getElem (show k < (rnE xs xss).length by rw [rnE_len]; exact hk), List.append_assoc]
  simp [List.getD, List.getElem?_eq_getElem (show k < (rnE xs xss).length by rw [rnE_len]; exact hk)]

end Go.Proofs.YtnblhkhdilkbeaaDoor
