/- A block's first cells read as a list of numbers. -/
import Derived.Test.YtolipjemabmlkaaCoreA
set_option linter.unusedSimpArgs false
set_option linter.unusedVariables false
namespace Go.Proofs.Ytolipjemabmlkaa
open Go.RowKit

/-- a block's first cells read so -/
def RdL (w : World) (g : Nat) (xs : List Int) : Prop := ∀ t, t < xs.length → w.cell? ⟨g, t, none⟩ = some (.int .i64 (xs.getD t 0))
theorem RdL.below {w w' : World} {g : Nat} {xs : List Int} (h : RdL w g xs) (hb : Below w.heap.size w w') : RdL w' g xs := fun t ht => hb.keep (h t ht)
theorem RdL.own {w : World} {lo g n c : Nat} {xs : List Int} (h : w.ownsRow lo 2 1 (.slice (some ⟨g, 0, none⟩) n c) n (xs.map (Value.int .i64))) : RdL w g xs := fun t ht => by
  have hl := h.1
  rw [List.length_map, Nat.mul_one] at hl
  have := World.ownsRow.cellAt h t (by omega)
  rw [this]
  simp [List.getD, List.getElem?_eq_getElem ht]
theorem RdL.grown {w w' : World} {o : Obj} {g : Nat} {xs : List Int} {vb : Option Nat} (h : RdL w g xs) (hgr : (w.alloc o).grownBy w' vb) (hne : some g ≠ vb) : RdL w' g xs := fun t ht =>
  hgr.cell (((Below.refl w.heap.size w).alloc (Nat.le_refl _) o).keep (h t ht)) hne

end Go.Proofs.Ytolipjemabmlkaa
