/- Products of square rows, by the model. -/
import Derived.Test.YtolipjemabmlkaaSpecMat
import Derived.Test.YtolipjemabmlkaaProd
import Derived.StillTailTactics
set_option linter.unusedSimpArgs false
set_option linter.unusedVariables false
namespace Go.Proofs.Ytolipjemabmlkaa
open Go.RowKit

/-- a row of the product, the first j products added up; of the next ones, those below k -/
def prow (A B : Nat → Nat → Int) (i N j k : Nat) : List Value := (List.range N).map (fun q => Value.int .i64 (if q < k then dotW (A i) (fun r => B r q) (j + 1) else dotW (A i) (fun r => B r q) j))
theorem prow_zero (A B : Nat → Nat → Int) (i N : Nat) : (madeCells #[Value.int .i64 0] N).toList = prow A B i N 0 0 := by
  rw [toList_madeCells_one]
  apply List.ext_getElem
  · simp [prow]
  · intro j h1 h2
    simp [prow, dotW]
theorem prow_skip (A B : Nat → Nat → Int) (i N j : Nat) (h : A i j = 0) : prow A B i N j 0 = prow A B i N (j + 1) 0 := by
  unfold prow
  refine List.map_congr_left fun q hq => ?_
  simp only [Nat.not_lt_zero, if_false]
  rw [dotW_skip h]
theorem prow_next (A B : Nat → Nat → Int) (i N j : Nat) : prow A B i N j N = prow A B i N (j + 1) 0 := by
  unfold prow
  refine List.map_congr_left fun q hq => ?_
  rw [if_pos (by simpa using hq)]
  simp
theorem prow_get (A B : Nat → Nat → Int) {i N j k : Nat} (hk : k < N) : (prow A B i N j k)[k]? = some (.int .i64 (dotW (A i) (fun r => B r k) j)) := by
  simp [prow, hk]
theorem prow_put (A B : Nat → Nat → Int) {i N j k : Nat} (hk : k < N) : (prow A B i N j k).set k (.int .i64 (wrap64 (dotW (A i) (fun r => B r k) j + wrap64 (A i j * B j k)))) = prow A B i N j (k + 1) := by
  apply List.ext_getElem
  · simp [prow]
  · intro q h1 h2
    rw [List.getElem_set]
    by_cases e : k = q
    · subst e; simp [prow, dotW]
    · rw [if_neg e]
      have : (q < k) ↔ (q < k + 1) := by omega
      simp [prow, this]
theorem prow_all (A B : Nat → Nat → Int) (i N : Nat) : prow A B i N N 0 = ((List.range N).map (mulM N A B i)).map (Value.int .i64) := by
  unfold prow
  rw [List.map_map]
  refine List.map_congr_left fun q hq => ?_
  simp [mulM]
theorem mulM_I64 (N : Nat) (A B : Nat → Nat → Int) (i j : Nat) : I64 (mulM N A B i j) := dotW_I64 _ _ _

end Go.Proofs.Ytolipjemabmlkaa
