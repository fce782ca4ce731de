/- The degrees of a graph, as a list. -/
import Derived.Test.YtgcidkcedfliiaaDegree
import Derived.Test.YtgcidkcedfliiaaBase2
set_option linter.unusedSimpArgs false
set_option linter.unusedVariables false
namespace Go.Proofs.Ytgcidkcedfliiaa
open Go.RowKit

def degs (s : Int) (xss : List (List Int)) : List Int := (List.range s.toNat).map (fun v : Nat => deg xss (v : Int))
def degsTo (k : Nat) (xss : List (List Int)) : List Value := (List.range k).map (fun v : Nat => Value.int .i64 (deg xss (v : Int)))
theorem degsTo_step (k : Nat) (xss : List (List Int)) : degsTo (k+1) xss = degsTo k xss ++ [.int .i64 (deg xss (k : Int))] := by simp [degsTo, List.range_succ]
theorem degsTo_all (s : Int) (xss : List (List Int)) : degsTo s.toNat xss = (degs s xss).map (Value.int .i64) := by simp [degsTo, degs]
def degreesOf (s : Int) (xss : List (List Int)) : List Int × Int := if grB s xss then (degs s xss, 0) else ([], 1)

theorem degs_I64 {s : Int} {xss : List (List Int)} (h : xss.length ≤ 10) : ∀ x ∈ degs s xss, I64 x := by
  intro x hx
  simp only [degs, List.mem_map, List.mem_range] at hx
  obtain ⟨v, _, rfl⟩ := hx
  have := deg_bd xss (v : Int)
  unfold I64; omega

theorem OwI.nil (lo hi : Nat) (w : World) : OwI lo hi w (.slice none 0 0) [] :=
  ⟨by simp, by simp, World.ownsRow_nil _ _ _ _, fun k hk => by simp [Value.ownBlock] at hk⟩

end Go.Proofs.Ytgcidkcedfliiaa
