/- Walks of the model: codes, closed ones, reversed ones. -/
import Derived.Test.YtolipjemabmlkaaSpecWk
import Derived.Test.YtolipjemabmlkaaCoreB
import Derived.StillTailTactics
set_option linter.unusedSimpArgs false
set_option linter.unusedVariables false
namespace Go.Proofs.Ytolipjemabmlkaa
open Go.RowKit

def isWalkOf (s : Int) (xss : List (List Int)) (ws : List Int) : Bool × Int := if grB s xss = true then (wkB (dirE (pairs xss)) ws, 0) else (false, 1)
def isClosedOf (s : Int) (xss : List (List Int)) (ws : List Int) : Bool × Int := if wcode s xss ws = 0 then (clB (dirE (pairs xss)) ws, 0) else (false, wcode s xss ws)
def revW (ws : List Int) : List Int := (List.range ws.length).map (fun j => rv (ws.getD (ws.length - 1 - j) 0))
def revOf (s : Int) (xss : List (List Int)) (ws : List Int) : List Int × Int := if wcode s xss ws = 0 then (revW ws, 0) else ([], wcode s xss ws)
theorem revW_len (ws : List Int) : (revW ws).length = ws.length := by simp [revW]
theorem wcode_ok {s : Int} {xss : List (List Int)} {ws : List Int} (h : wcode s xss ws = 0) : grB s xss = true ∧ wkB (dirE (pairs xss)) ws = true := by
  unfold wcode at h
  cases hg : grB s xss <;> cases hw : wkB (dirE (pairs xss)) ws <;> simp [hg, hw] at h ⊢

end Go.Proofs.Ytolipjemabmlkaa
