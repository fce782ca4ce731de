/- Steps of the model. -/
import Derived.Test.YtolipjemabmlkaaWk
import Derived.Test.YtolipjemabmlkaaCoreB
set_option linter.unusedSimpArgs false
set_option linter.unusedVariables false
namespace Go.Proofs.Ytolipjemabmlkaa
open Go.RowKit

theorem stepQ_at {ds : List (Int × Int)} {x y : Int} (hx : 0 ≤ x ∧ x < ds.length) (hy : 0 ≤ y ∧ y < ds.length) : stepQ ds x y = ((ds.getD x.toNat (0, 0)).2 == (ds.getD y.toNat (0, 0)).1 && y != rv x) := by
  unfold stepQ
  rw [decide_eq_true (by omega), Bool.true_and]

end Go.Proofs.Ytolipjemabmlkaa
