/- The program's first leaf. -/
import Derived.Test.YtgcidkcedfliiaaPrune
import Derived.Test.YtgcidkcedfliiaaImplDegrees3
import Derived.Test.YtgcidkcedfliiaaImplFirsts
import Derived.Deep.RegionLaw
set_option linter.unusedSimpArgs false
set_option linter.unusedVariables false
namespace Go.Proofs.Ytgcidkcedfliiaa
open Go.RowKit

def ixI (o : Option Nat) : Int := match o with | some v => (v : Int) | none => -1
theorem find_congr {p q : Nat → Bool} {l : List Nat} (h : ∀ x ∈ l, p x = q x) : l.find? p = l.find? q := by
  induction l with
  | nil => rfl
  | cons a r ih =>
    simp only [List.find?_cons]
    rw [h a (by simp), ih (fun x hx => h x (by simp [hx]))]

end Go.Proofs.Ytgcidkcedfliiaa
