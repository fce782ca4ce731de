/- The determinant by the program, whole numbers. -/
import Derived.Test.YtnblhkhdilkbeaaBaI
import Derived.Deep.RegionHeld3
import Derived.Laws.EntriesVeiled
set_option linter.unusedSimpArgs false
set_option linter.unusedVariables false
set_option maxRecDepth 100000
namespace Go.Proofs.Ytnblhkhdilkbeaa
open Go.RowKit

def stE (Z : Nat) : Nat → Nat → Option Value := fun b o => if b = Z then (if o = 0 then some (.func (.func 133) #[] #[]) else if o = 1 then some (.func (.func 134) #[] #[]) else if o = 2 then some (.func (.func 135) #[] #[]) else none) else none

theorem idxS0 (w : World) : (Instr.index 148 (.agg #[.func (.func 133) #[] #[], .func (.func 134) #[] #[], .func (.func 135) #[] #[]]) (.int .i64 0)).run Try.prog w = .ok (.func (.func 133) #[] #[]) w := by kernel_rfl
theorem idxS1 (w : World) : (Instr.index 148 (.agg #[.func (.func 133) #[] #[], .func (.func 134) #[] #[], .func (.func 135) #[] #[]]) (.int .i64 1)).run Try.prog w = .ok (.func (.func 134) #[] #[]) w := by kernel_rfl
theorem idxS2 (w : World) : (Instr.index 148 (.agg #[.func (.func 133) #[] #[], .func (.func 134) #[] #[], .func (.func 135) #[] #[]]) (.int .i64 2)).run Try.prog w = .ok (.func (.func 135) #[] #[]) w := by kernel_rfl
theorem neg_w (x : Int) : (-x) % (0 : Int) = -x := by simp

end Go.Proofs.Ytnblhkhdilkbeaa
