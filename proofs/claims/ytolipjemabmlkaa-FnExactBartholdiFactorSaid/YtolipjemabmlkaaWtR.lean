/- Weighted rows, by the program and by the model. -/
import Derived.Test.YtolipjemabmlkaaResE
import Derived.Test.YtolipjemabmlkaaWtC
import Derived.Test.YtolipjemabmlkaaEdgeRows
import Derived.Test.YtolipjemabmlkaaCoreC
import Derived.Test.YtolipjemabmlkaaCoreG
import Derived.StillTailTactics
set_option linter.unusedSimpArgs false
set_option linter.unusedVariables false
set_option maxRecDepth 100000
namespace Go.Proofs.Ytolipjemabmlkaa
open Go.RowKit

theorem edgeM_01w (ds : List (Int × Int)) (i j : Nat) : edgeM ds i j = 0 ∨ edgeM ds i j = 1 := by unfold edgeM; split <;> simp
def wtM (f : Nat → Nat → Int) (vs : List Int) : Nat → Nat → Int := fun i j => f i j * vs.getD j 0
/-- the rows above k are weighted, and of the row k the numbers before m -/
def wmS (f : Nat → Nat → Int) (vs : List Int) (k m : Nat) : Nat → Nat → Int := fun i j => if i < k ∨ (i = k ∧ j < m) then f i j * vs.getD j 0 else f i j
theorem wmS_start (f : Nat → Nat → Int) (vs : List Int) : wmS f vs 0 0 = f := by
  funext i j; unfold wmS; rw [if_neg (by omega)]
theorem wmS_at (f : Nat → Nat → Int) (vs : List Int) (k m : Nat) : wmS f vs k m k m = f k m := by unfold wmS; rw [if_neg (by omega)]
theorem wmS_put (f : Nat → Nat → Int) (vs : List Int) (k m : Nat) : put (wmS f vs k m) k m (f k m * vs.getD m 0) = wmS f vs k (m + 1) := by
  funext i j
  unfold put wmS
  by_cases h : i = k ∧ j = m
  · obtain ⟨rfl, rfl⟩ := h
    rw [if_pos ⟨rfl, rfl⟩, if_pos (by omega)]
  · rw [if_neg h]
    by_cases h2 : i < k ∨ (i = k ∧ j < m)
    · rw [if_pos h2, if_pos (by omega)]
    · rw [if_neg h2, if_neg (by omega)]
theorem wmS_row (f : Nat → Nat → Int) (vs : List Int) (N k : Nat) : tab N (wmS f vs k N) = tab N (wmS f vs (k + 1) 0) := tab_congr fun i j hi hj => by
  unfold wmS
  by_cases h : i < k ∨ (i = k ∧ j < N)
  · rw [if_pos h, if_pos (by omega)]
  · rw [if_neg h, if_neg (by omega)]
theorem wmS_all (f : Nat → Nat → Int) (vs : List Int) (N : Nat) : tab N (wmS f vs N 0) = tab N (wtM f vs) := tab_congr fun i j hi hj => by
  unfold wmS wtM
  rw [if_pos (by omega)]

end Go.Proofs.Ytolipjemabmlkaa
