/- Lists of directed edges: the model's check. -/
import Derived.Test.YtolipjemabmlkaaWalkL
set_option linter.unusedSimpArgs false
set_option linter.unusedVariables false
namespace Go.Proofs.Ytolipjemabmlkaa
open Go.RowKit

theorem l01InV (x N : Int) (b : Bool) (h : inR x N = b) (w : World) :
    Calls Try.prog 108 #[.int .i64 x, .int .i64 0, .int .i64 (N - 1)] w fun e w' => e = .returned (.bool b) ∧ Qt w w' := by
  have e1 : inR x N = (decide (0 ≤ x) && decide (x ≤ N - 1)) := by
    unfold inR
    congr 1
    simp; omega
  rw [← h, e1]
  exact l01In x 0 (N - 1) w

theorem walkB_end {n : Nat} {ws : List Int} (h : ∀ j, j < ws.length → inR (ws.getD j 0) (2 * (n : Int)) = true) : walkB n ws = decide ((ws.length : Int) ≤ 20) := by
  by_cases hl : ws.length ≤ 20
  · rw [walkB_good hl h]; symm; exact decide_eq_true (by omega)
  · rw [walkB_long hl]; symm; exact decide_eq_false (by omega)

end Go.Proofs.Ytolipjemabmlkaa
