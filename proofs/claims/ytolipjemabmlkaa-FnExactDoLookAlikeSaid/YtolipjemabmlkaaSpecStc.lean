/- Codes of a graph and a number, by the model; StraightCounts of the model. -/
import Derived.Test.YtolipjemabmlkaaSpecCnt
import Derived.Test.YtolipjemabmlkaaCoreA
import Derived.Test.YtolipjemabmlkaaCoreB
set_option linter.unusedSimpArgs false
set_option linter.unusedVariables false
namespace Go.Proofs.Ytolipjemabmlkaa
open Go.RowKit

/-- the code of a graph and a number in a range -/
def ccode (s : Int) (xss : List (List Int)) (k low top : Int) : Int := if grB s xss = true then (if low ≤ k ∧ k ≤ top then 0 else 2) else 1
theorem ccode_ok {s : Int} {xss : List (List Int)} {k low top : Int} (h : ccode s xss k low top = 0) : grB s xss = true ∧ low ≤ k ∧ k ≤ top := by
  unfold ccode at h
  by_cases h1 : grB s xss = true
  · rw [if_pos h1] at h
    by_cases h2 : low ≤ k ∧ k ≤ top
    · exact ⟨h1, h2⟩
    · rw [if_neg h2] at h; omega
  · rw [if_neg h1] at h; omega
def stcOf (s : Int) (xss : List (List Int)) (k : Int) : List Int × Int := if ccode s xss k 1 10 = 0 then (cnts (2 * xss.length) (edgeM (dirE (pairs xss))) k.toNat, 0) else ([], ccode s xss k 1 10)

end Go.Proofs.Ytolipjemabmlkaa
