/- slices.Sort and slices.Reverse of a list that the call owns. -/
import Derived.Test.YtnblhkhdilkbeaaDoorSortI
import Derived.Test.YtnblhkhdilkbeaaDoorImplCyc2
import Derived.RegionTactic
set_option linter.unusedSimpArgs false
set_option linter.unusedVariables false
set_option maxRecDepth 100000
namespace Go.Proofs.YtnblhkhdilkbeaaDoor
open Go.RowKit

/-- a list owned, by its block -/
def OwX (lo cap : Nat) (w : World) (b n : Nat) (xs : List Int) : Prop := w.ownsRow lo 2 1 (.slice (some ⟨b, 0, none⟩) n cap) n (xs.map (Value.int .i64))
theorem OwX.len {lo cap : Nat} {w : World} {b n : Nat} {xs : List Int} (h : OwX lo cap w b n xs) : xs.length = n := by have := h.1; simpa using this
theorem OwX.cell {lo cap : Nat} {w : World} {b n : Nat} {xs : List Int} (h : OwX lo cap w b n xs) (j : Nat) (hj : j < n) : w.cell? ⟨b, j, none⟩ = some (.int .i64 (xs.getD j 0)) := by
  have hl := h.len
  rw [World.ownsRow.cellAt h j (by omega)]
  simp [List.getD, List.getElem?_eq_getElem (show j < xs.length by omega)]
theorem OwX.free {lo cap : Nat} {w : World} {b n : Nat} {xs : List Int} (h : OwX lo cap w b n xs) (j : Nat) (hj : j < n) : w.frozen? ⟨b, j, none⟩ = false := World.ownsRow.frozenAt h j
theorem OwX.qt {lo cap : Nat} {w w' : World} {b n : Nat} {xs : List Int} (h : OwX lo cap w b n xs) (q : Qt w w') : OwX lo cap w' b n xs := ownsRow_chg h (q.chg 0 0) (fun _ _ => .inr (Nat.zero_le _))
theorem OwX.set {lo cap : Nat} {w : World} {b n : Nat} {xs : List Int} (h : OwX lo cap w b n xs) {j : Nat} (hj : j < n) (x : Int) : OwX lo cap (w.setCell ⟨b, j, none⟩ (.int .i64 x)) b n (xs.set j x) := by
  have := (World.ownsRow.stored h j (.int .i64 x)).1
  unfold OwX
  rw [List.map_set]
  exact this

def swp2 (y : List Int) (i j : Nat) : List Int := (y.set i (y.getD j 0)).set j (y.getD i 0)
def revGo : Nat → Nat → Nat → List Int → List Int
  | 0, _, _, y => y
  | f + 1, i, j, y => if i < j then revGo f (i + 1) (j - 1) (swp2 y i j) else y
theorem revGo_rev {xs : List Int} (h1 : 1 ≤ xs.length) (h4 : xs.length ≤ 4) : revGo 2 0 (xs.length - 1) xs = xs.reverse := by
  have hl : xs.length = 1 ∨ xs.length = 2 ∨ xs.length = 3 ∨ xs.length = 4 := by omega
  rcases hl with h | h | h | h
  · obtain ⟨a, rfl⟩ := len1 h; rfl
  · obtain ⟨a, b, rfl⟩ := len2 h; rfl
  · obtain ⟨a, b, c, rfl⟩ := len3 h; rfl
  · obtain ⟨a, b, c, d, rfl⟩ := len4 h; rfl
theorem revGo_stop {f i j : Nat} {y : List Int} (h : ¬ i < j) : revGo f i j y = y := by
  cases f with
  | zero => rfl
  | succ f => rw [revGo, if_neg h]

end Go.Proofs.YtnblhkhdilkbeaaDoor
