/- Straight counts of the model. -/
import Derived.Test.YtolipjemabmlkaaSpecProd
import Derived.Test.YtolipjemabmlkaaSpecMat
set_option linter.unusedSimpArgs false
set_option linter.unusedVariables false
namespace Go.Proofs.Ytolipjemabmlkaa
open Go.RowKit

/-- the traces of the powers 1 to k -/
def cnts (N : Nat) (M : Nat → Nat → Int) (k : Nat) : List Int := (List.range k).map (fun q => trW (powM N M q) N)
def cntV (N : Nat) (M : Nat → Nat → Int) (k : Nat) : List Value := (cnts N M k).map (Value.int .i64)
theorem cnts_len (N : Nat) (M : Nat → Nat → Int) (k : Nat) : (cnts N M k).length = k := by simp [cnts]
theorem cntV_step (N : Nat) (M : Nat → Nat → Int) (k : Nat) : cntV N M (k+1) = cntV N M k ++ [.int .i64 (trW (powM N M k) N)] := by simp [cntV, cnts, List.range_succ]
theorem cnts_I64 (N : Nat) (M : Nat → Nat → Int) (k : Nat) : ∀ x ∈ cnts N M k, I64 x := by
  intro x hx
  simp only [cnts, List.mem_map] at hx
  obtain ⟨q, _, rfl⟩ := hx
  exact trW_I64 _ _

end Go.Proofs.Ytolipjemabmlkaa
