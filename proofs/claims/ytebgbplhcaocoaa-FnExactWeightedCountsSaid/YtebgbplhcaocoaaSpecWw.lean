/- WeightOfWalk of the model. -/
import Derived.Test.YtebgbplhcaocoaaWtC
set_option linter.unusedSimpArgs false
set_option linter.unusedVariables false
set_option maxRecDepth 100000
namespace Go.Proofs.Ytebgbplhcaocoaa
open Go.RowKit

/-- the product of the weights of the first k edges of a list, modulo p -/
def prodW (p : Int) (vs ws : List Int) : Nat → Int
  | 0 => 1
  | k + 1 => prodW p vs ws k * vs.getD (ws.getD k 0).toNat 0 % p
theorem prodW_in {p : Int} {vs ws : List Int} (hp : 2 ≤ p) : ∀ k, 0 ≤ prodW p vs ws k ∧ prodW p vs ws k < p
  | 0 => ⟨by unfold prodW; omega, by unfold prodW; omega⟩
  | k + 1 => ⟨Int.emod_nonneg _ (by omega), Int.emod_lt_of_pos _ (by omega)⟩
def wwOf (p s : Int) (xss : List (List Int)) (vs ws : List Int) : Int × Int :=
  if wtCode p s xss vs = 0 then (if walkB xss.length ws = true then (prodW p vs ws ws.length, 0) else (0, 2)) else (0, wtCode p s xss vs)
theorem wtCode_ok {p s : Int} {xss : List (List Int)} {vs : List Int} (h : wtCode p s xss vs = 0) : grB s xss = true ∧ primeB p = true ∧ weightsB p xss.length vs = true := by
  unfold wtCode at h
  split at h
  · rename_i hg
    split at h
    · rename_i hp
      split at h
      · rename_i hr
        exact ⟨hg, hp, hr⟩
      · omega
    · omega
  · omega

end Go.Proofs.Ytebgbplhcaocoaa
