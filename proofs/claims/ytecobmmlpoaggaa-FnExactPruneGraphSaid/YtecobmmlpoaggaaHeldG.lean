/- The laws' helper on graphs: are the marks still there. -/
import Derived.Test.YtecobmmlpoaggaaGraph
import Derived.Test.YtecobmmlpoaggaaHeldR
set_option linter.unusedSimpArgs false
set_option linter.unusedVariables false
namespace Go.Proofs.Ytecobmmlpoaggaa
open Go.RowKit

theorem heldG {lo hi : Nat} (s : Int) (a : Option Addr) (n c : Nat) (xss : List (List Int)) (k : Int) (w : World) (h : RdR lo hi w (.slice a n c) (marksR k xss)) (hk0 : 0 ≤ k) (hk1 : k + lens xss ≤ 17592186044416) :
    Calls Try.prog 29 #[.agg #[.int .i64 s, .slice a n c], .int .i64 k] w fun e w' => e = .returned (.int .i64 (k + lens xss)) ∧ Below w.heap.size w w' := by
  have hb0 : ∀ o, Below w.heap.size w (w.alloc o) := fun o => (Below.refl _ _).alloc (Nat.le_refl _) o
  have hp : ¬ (k + (lens xss : Int) < 0) := by omega
  go_enter Try.func29, Try.ntmps29
  go_wp2_with fail
  refine (heldR _ _ _ _ (h.below (hb0 _)) hk0 hk1).mono ?_
  rintro e w1 ⟨rfl, q1⟩
  have c2 := (hb0 (.cells #[.int .i64 s, .slice a n c] 28)).qt q1
  go_wp2
  go_ret
  exact ⟨rfl, c2⟩

end Go.Proofs.Ytecobmmlpoaggaa
