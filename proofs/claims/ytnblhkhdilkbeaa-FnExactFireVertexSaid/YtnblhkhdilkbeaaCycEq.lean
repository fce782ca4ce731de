/- CyclicCover of the model and of the program. -/
import Derived.Test.YtnblhkhdilkbeaaImplCyc2
set_option linter.unusedSimpArgs false
set_option linter.unusedVariables false
set_option maxRecDepth 100000
namespace Go.Proofs.Ytnblhkhdilkbeaa
open Go.RowKit

def cycOf (s : Int) (xss : List (List Int)) (sh : Int) (ys : List Int) : (Int × List (List Int) × Int × List (List Int)) × Int :=
  if cycCode s xss sh ys = 0 then ((s, xss, sh, cycRows sh ys), 0) else ((0, [], 0, []), cycCode s xss sh ys)
theorem cycOf_ok {s : Int} {xss : List (List Int)} {sh : Int} {ys : List Int} (h : cycCode s xss sh ys = 0) : cycOf s xss sh ys = ((s, xss, sh, cycRows sh ys), 0) := by unfold cycOf; rw [if_pos h]
theorem cycOf_no {s : Int} {xss : List (List Int)} {sh : Int} {ys : List Int} (h : cycCode s xss sh ys ≠ 0) : cycOf s xss sh ys = ((0, [], 0, []), cycCode s xss sh ys) := by unfold cycOf; rw [if_neg h]

/-- an answer that is a cover and a code -/
def CovA (w : World) (p : (Int × List (List Int) × Int × List (List Int)) × Int) (e : Ending) (w' : World) : Prop :=
  ∃ a' c' ta' tc' m, e = .returned (.tuple #[.agg #[.int .i64 p.1.1, .slice a' p.1.2.1.length c', .int .i64 p.1.2.2.1, .slice ta' p.1.2.2.2.length tc'], .int .i64 p.2]) ∧
      w.heap.size ≤ m ∧ m ≤ w'.heap.size ∧ OwR w.heap.size m w' (.slice a' p.1.2.1.length c') p.1.2.1 ∧ OwR m w'.heap.size w' (.slice ta' p.1.2.2.2.length tc') p.1.2.2.2 ∧ Below w.heap.size w w'
theorem covA_zero {w w' : World} {e : Ending} {cd : Int} (he : e = .returned (.tuple #[.agg #[.int .i64 0, .slice none 0 0, .int .i64 0, .slice none 0 0], .int .i64 cd])) (hb : Below w.heap.size w w') : CovA w ((0, [], 0, []), cd) e w' :=
  ⟨none, 0, none, 0, w'.heap.size, he, hb.size, Nat.le_refl _, OwR.nil (World.ownsRow_nil _ _ _ _) (Nat.le_refl _), OwR.nil (World.ownsRow_nil _ _ _ _) (Nat.le_refl _), hb⟩

theorem cyc_list {s : Int} {xss : List (List Int)} {sh : Int} {ys : List Int} (hg : grB s xss = true) : cycCode s xss sh ys = if shB sh && listB xss.length 1000 ys then 0 else 2 := by
  unfold cycCode
  rw [hg, if_pos rfl]
  have : cycB sh xss.length ys = (shB sh && listB xss.length 1000 ys) := by
    unfold cycB listB
    rw [Bool.and_comm (decide _)]
    rfl
  rw [this]

end Go.Proofs.Ytnblhkhdilkbeaa
