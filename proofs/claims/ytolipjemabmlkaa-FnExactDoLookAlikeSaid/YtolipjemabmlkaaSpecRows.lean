/- Numbers of walks of the model: l03Rows. -/
import Derived.Test.YtolipjemabmlkaaMatZ
import Derived.Test.YtolipjemabmlkaaSpecMat
import Derived.Test.YtolipjemabmlkaaNext
import Derived.StillTailTactics
set_option linter.unusedSimpArgs false
set_option linter.unusedVariables false
namespace Go.Proofs.Ytolipjemabmlkaa
open Go.RowKit

theorem edgeM_01 (ds : List (Int × Int)) (i j : Nat) : edgeM ds i j = 0 ∨ edgeM ds i j = 1 := by
  unfold edgeM
  split
  · exact .inr rfl
  · exact .inl rfl
/-- the next row on the way: the first b terms, and for the numbers below c one more -/
def nxt (u : Nat → Int) (M : Nat → Nat → Int) (b c : Nat) (j : Nat) : Int := dotZ u (fun r => M r j) b + (if j < c then u b * M b j else 0)
def nrow (u : Nat → Int) (M : Nat → Nat → Int) (N b c : Nat) : List Value := (List.range N).map (fun j => Value.int .i64 (nxt u M b c j))
def urow (u : Nat → Int) (N : Nat) : List Value := (List.range N).map (fun j => Value.int .i64 (u j))
theorem urow_get (u : Nat → Int) {N j : Nat} (h : j < N) : (urow u N)[j]? = some (.int .i64 (u j)) := by simp [urow, h]
theorem nrow_zero (u : Nat → Int) (M : Nat → Nat → Int) (N : Nat) : (madeCells #[Value.int .i64 0] N).toList = nrow u M N 0 0 := by
  rw [toList_madeCells_one]
  apply List.ext_getElem
  · simp [nrow]
  · intro j h1 h2
    simp [nrow, nxt, dotZ]
theorem nrow_next (u : Nat → Int) (M : Nat → Nat → Int) (N b : Nat) : nrow u M N b N = nrow u M N (b + 1) 0 := by
  unfold nrow
  refine List.map_congr_left fun j hj => ?_
  have : j < N := by simpa using hj
  simp [nxt, this, dotZ]
theorem nrow_skip (u : Nat → Int) (M : Nat → Nat → Int) (N b c : Nat) (h : u b = 0) : nrow u M N b c = nrow u M N (b + 1) 0 := by
  unfold nrow
  refine List.map_congr_left fun j hj => ?_
  simp [nxt, dotZ, h]
theorem nrow_no (u : Nat → Int) (M : Nat → Nat → Int) (N b c : Nat) (h : M b c = 0) : nrow u M N b c = nrow u M N b (c + 1) := by
  unfold nrow
  refine List.map_congr_left fun j hj => ?_
  by_cases e : j = c
  · subst e; simp [nxt, h]
  · have : (j < c) ↔ (j < c + 1) := by omega
    simp [nxt, this]
theorem nrow_get (u : Nat → Int) (M : Nat → Nat → Int) {N b c : Nat} (h : c < N) : (nrow u M N b c)[c]? = some (.int .i64 (dotZ u (fun r => M r c) b)) := by
  simp [nrow, nxt, h]
theorem nrow_yes (u : Nat → Int) (M : Nat → Nat → Int) {N b c : Nat} (hc : c < N) (h : M b c = 1) : (nrow u M N b c).set c (.int .i64 (dotZ u (fun r => M r c) b + u b)) = nrow u M N b (c + 1) := by
  apply List.ext_getElem
  · simp [nrow]
  · intro j h1 h2
    rw [List.getElem_set]
    by_cases e : c = j
    · subst e; simp [nrow, nxt, h]
    · rw [if_neg e]
      have : (j < c) ↔ (j < c + 1) := by omega
      simp [nrow, nxt, this]
theorem nrow_all (N : Nat) (M : Nat → Nat → Int) (i a : Nat) : nrow (pwZ N M i a) M N N 0 = urow (pwZ N M (i + 1) a) N := by
  unfold nrow urow
  refine List.map_congr_left fun j hj => ?_
  simp [nxt, pwZ]
theorem urow_unit {N a : Nat} (M : Nat → Nat → Int) (ha : a < N) : ((madeCells #[Value.int .i64 0] N).toList).set a (.int .i64 1) = urow (pwZ N M 0 a) N := by
  rw [toList_madeCells_one]
  apply List.ext_getElem
  · simp [urow]
  · intro j h1 h2
    rw [List.getElem_set]
    by_cases e : a = j
    · subst e; simp [urow, pwZ, unitM]
    · simp [urow, pwZ, unitM, e]
theorem zero_get {N a : Nat} (ha : a < N) : ((madeCells #[Value.int .i64 0] N).toList)[a]? = some (.int .i64 0) := by
  rw [toList_madeCells_one]; simp [ha]

end Go.Proofs.Ytolipjemabmlkaa
