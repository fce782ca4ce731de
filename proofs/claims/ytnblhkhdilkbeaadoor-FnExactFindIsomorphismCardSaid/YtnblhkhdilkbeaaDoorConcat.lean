/- slices.Concat of a list and its first element. -/
import Derived.Test.YtnblhkhdilkbeaaDoorGrow
import Derived.Test.YtnblhkhdilkbeaaDoorCoreB
set_option linter.unusedSimpArgs false
set_option linter.unusedVariables false
namespace Go.Proofs.YtnblhkhdilkbeaaDoor
open Go.RowKit

def szW (n q : Nat) : Nat := if q = 0 then 0 else n + (q - 1)
def catW (ws : List Int) (q : Nat) : List Value := if q = 0 then [] else if q = 1 then ws.map (Value.int .i64) else ws.map (Value.int .i64) ++ [.int .i64 (ws.getD 0 0)]

theorem ownsRow_mono {w : World} {base base' : Nat} {e : TypeId} {size n : Nat} {v : Value} {xs : List Value} (h : w.ownsRow base e size v n xs) (hb : base' ≤ base) : w.ownsRow base' e size v n xs := by
  obtain ⟨h1, h2 | ⟨g, cap, cur, h3, h4, h5⟩⟩ := h
  · exact ⟨h1, .inl h2⟩
  · exact ⟨h1, .inr ⟨g, cap, cur, h3, Nat.le_trans hb h4, h5⟩⟩

end Go.Proofs.YtnblhkhdilkbeaaDoor
