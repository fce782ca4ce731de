/- slices.Sort of at most twelve numbers: the library's own insertion sort, walked; what it leaves is isort. -/
import Derived.Test.YtnblhkhdilkbeaaDoorCoreE
import Derived.Test.YtnblhkhdilkbeaaDoorCoreF
import Derived.RegionTactic
set_option linter.unusedSimpArgs false
set_option linter.unusedVariables false
set_option maxRecDepth 100000
namespace Go.Proofs.YtnblhkhdilkbeaaDoor
open Go.RowKit

/-- the first n cells of a block hold a list, and may be written -/
structure RowX (w : World) (b n : Nat) (xs : List Int) : Prop where
  len : xs.length = n
  lt : b < w.heap.size
  cell : ∀ j, j < n → w.cell? ⟨b, j, none⟩ = some (.int .i64 (xs.getD j 0))
  free : ∀ j, j < n → w.frozen? ⟨b, j, none⟩ = false
theorem RowX.chg {w w' : World} {b n lo hi : Nat} {xs : List Int} (h : RowX w b n xs) (hc : Chg lo hi w w') (hb : b < lo ∨ hi ≤ b) : RowX w' b n xs :=
  ⟨h.len, Nat.lt_of_lt_of_le h.lt hc.size, fun j hj => hc.cell (h.cell j hj) hb, fun j hj => hc.frozen h.lt hb (h.free j hj)⟩
theorem RowX.below {w w' : World} {b n : Nat} {xs : List Int} (h : RowX w b n xs) (hc : Below w.heap.size w w') : RowX w' b n xs := h.chg (hc.chg 0 0) (.inr (Nat.zero_le _))
theorem RowX.qt {w w' : World} {b n : Nat} {xs : List Int} (h : RowX w b n xs) (hc : Qt w w') : RowX w' b n xs := h.below hc.below
theorem getD_setI (xs : List Int) (j k : Nat) (x : Int) (h : k < xs.length) : (xs.set j x).getD k 0 = if j = k then x else xs.getD k 0 := by
  simp only [List.getD, List.getElem?_set]
  by_cases e : j = k
  · subst e; rw [if_pos rfl, if_pos rfl, if_pos h]; rfl
  · rw [if_neg e, if_neg e]
theorem RowX.set {w : World} {b n : Nat} {xs : List Int} (h : RowX w b n xs) {j : Nat} (hj : j < n) (x : Int) : RowX (w.setCell ⟨b, j, none⟩ (.int .i64 x)) b n (xs.set j x) := by
  refine ⟨by rw [List.length_set]; exact h.len, by simpa [World.setCell] using h.lt, fun k hk => ?_, fun k hk => by rw [World.frozen?_setCell]; exact h.free k hk⟩
  rw [getD_setI _ _ _ _ (by rw [h.len]; exact hk)]
  by_cases e : j = k
  · subst e
    rw [if_pos rfl]
    exact World.cell?_setCell_same _ _ _ (h.cell j hk)
  · rw [if_neg e, World.cell?_setCell_other _ _ _ _ (by simp [e])]
    exact h.cell k hk

theorem sink_swap {x : List Int} {j : Nat} (h : x.getD (j+1) 0 < x.getD j 0) : sink (j+1) x = sink j (swapL x j) := by
  rw [sink, if_pos h]
theorem sink_stop {x : List Int} {j : Nat} (h : j = 0 ∨ ¬ x.getD j 0 < x.getD (j-1) 0) : sink j x = x := by
  cases j with
  | zero => rfl
  | succ j =>
    rcases h with h | h
    · omega
    · rw [sink, if_neg (by simpa using h)]

end Go.Proofs.YtnblhkhdilkbeaaDoor
