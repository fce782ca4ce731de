/- A graph and one of its edges: the code of both sides. -/
import Derived.Test.YtgcidkcedfliiaaIsGraph3
import Derived.Test.YtgcidkcedfliiaaDegs
set_option linter.unusedSimpArgs false
set_option linter.unusedVariables false
namespace Go.Proofs.Ytgcidkcedfliiaa
open Go.RowKit

def edgeCode (s : Int) (xss : List (List Int)) (k : Int) : Int := if grB s xss then (if inR k xss.length then 0 else 2) else 1
theorem edgeCode_ok {s : Int} {xss : List (List Int)} {k : Int} (h : edgeCode s xss k = 0) : grB s xss = true ∧ 0 ≤ k ∧ k < xss.length := by
  unfold edgeCode at h
  split at h
  · rename_i hg
    split at h
    · rename_i hr
      simp only [inR, Bool.and_eq_true, decide_eq_true_eq] at hr
      exact ⟨hg, hr⟩
    · omega
  · omega

end Go.Proofs.Ytgcidkcedfliiaa
