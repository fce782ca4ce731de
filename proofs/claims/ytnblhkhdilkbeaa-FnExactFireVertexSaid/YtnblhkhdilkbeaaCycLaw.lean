/- CyclicCover: the contracts as a law takes them. -/
import Derived.Test.YtnblhkhdilkbeaaCycEq
import Derived.Test.YtnblhkhdilkbeaaCoreB
set_option linter.unusedSimpArgs false
set_option linter.unusedVariables false
set_option maxRecDepth 100000
namespace Go.Proofs.Ytnblhkhdilkbeaa
open Go.RowKit

theorem cycRows_lens {sh : Int} (h4 : sh ≤ 4) (ys : List Int) : lens (cycRows sh ys) ≤ 4 * ys.length := by
  induction ys with
  | nil => simp [cycRows, lens]
  | cons y r ih =>
    have h : (twB sh y).length ≤ 4 := by rw [twB_len]; omega
    simp only [cycRows, lens, List.map_cons, List.sum_cons, List.length_cons] at ih ⊢
    omega
theorem gr_lens {s : Int} {xss : List (List Int)} (h : grB s xss = true) : lens xss ≤ 20 := by
  obtain ⟨_, _, h3, h4⟩ := grB_iff h
  rw [lens_two (fun e he => by
    obtain ⟨i, hi, rfl⟩ := List.getElem_of_mem he
    have := (h4 i hi).1
    simpa [List.getD, List.getElem?_eq_getElem hi] using this)]
  omega
theorem cycOf_lens1 (s : Int) (xss : List (List Int)) (sh : Int) (ys : List Int) : lens (cycOf s xss sh ys).1.2.1 ≤ 1000 := by
  by_cases hc : cycCode s xss sh ys = 0
  · rw [cycOf_ok hc]
    obtain ⟨hg, _⟩ := cyc_ok hc
    have := gr_lens hg
    show lens xss ≤ 1000
    omega
  · rw [cycOf_no hc]; simp [lens]
theorem cycOf_lens2 (s : Int) (xss : List (List Int)) (sh : Int) (ys : List Int) : lens (cycOf s xss sh ys).1.2.2.2 ≤ 1000 := by
  by_cases hc : cycCode s xss sh ys = 0
  · rw [cycOf_ok hc]
    obtain ⟨hg, _, ⟨_, h4⟩, hl, _⟩ := cyc_ok hc
    have := grB_iff hg
    have := cycRows_lens h4 ys
    show lens (cycRows sh ys) ≤ 1000
    omega
  · rw [cycOf_no hc]; simp [lens]

end Go.Proofs.Ytnblhkhdilkbeaa
