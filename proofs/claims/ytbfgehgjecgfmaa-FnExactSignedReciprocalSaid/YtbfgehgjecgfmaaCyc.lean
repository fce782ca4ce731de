/- Cyclic covers: one turn, by the program and by the model. -/
import Derived.Test.YtbfgehgjecgfmaaCov
import Derived.Test.YtbfgehgjecgfmaaPartRows
import Derived.Test.YtbfgehgjecgfmaaCoreB
set_option linter.unusedSimpArgs false
set_option linter.unusedVariables false
namespace Go.Proofs.Ytbfgehgjecgfmaa
open Go.RowKit

def tw1 (sh y i : Int) : Int := Int.tmod (Int.tmod (i + y) sh + sh) sh
def twB (sh y : Int) : List Int := (List.range sh.toNat).map (fun i : Nat => tw1 sh y i)
theorem twB_len (sh y : Int) : (twB sh y).length = sh.toNat := by simp [twB]
theorem twB_get {sh y : Int} {k : Nat} (h : k < sh.toNat) : (twB sh y).getD k 0 = tw1 sh y k := by simp [twB, List.getD, h]
theorem tmod_bd {x sh : Int} (h : 1 ≤ sh) : -sh < Int.tmod x sh ∧ Int.tmod x sh < sh := by
  have h1 := Int.tmod_lt_of_pos x (show 0 < sh by omega)
  have h2 := Int.lt_tmod_of_pos x (show 0 < sh by omega)
  omega
theorem tw1_bd {sh y i : Int} (h : 1 ≤ sh) : -sh < tw1 sh y i ∧ tw1 sh y i < sh := tmod_bd h
theorem twB_I64 {sh y : Int} (h : 1 ≤ sh) (h4 : sh ≤ 4) : ∀ x ∈ twB sh y, I64 x := by
  intro x hx
  simp only [twB, List.mem_map] at hx
  obtain ⟨k, _, rfl⟩ := hx
  have := tw1_bd (sh := sh) (y := y) (i := k) h
  unfold I64; omega

end Go.Proofs.Ytbfgehgjecgfmaa
