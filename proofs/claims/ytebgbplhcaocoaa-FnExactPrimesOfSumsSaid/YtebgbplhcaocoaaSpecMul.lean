/- MultiplyWhole of the model. -/
import Derived.Test.YtebgbplhcaocoaaMulPure
set_option linter.unusedSimpArgs false
set_option linter.unusedVariables false
set_option maxRecDepth 100000
namespace Go.Proofs.Ytebgbplhcaocoaa
open Go.RowKit

def prodOf (f g : List Int) : List Int × Bool :=
  if f.length = 0 ∨ g.length = 0 then ([], true) else if 40 < f.length + g.length - 1 then ([], false) else if (sumsO f g).all (fun o => !o.isNone) = false then ([], false) else (trim ((sumsO f g).map numO), true)
def prodL (f g : List Int) (k : Nat) : List Int := ((sumsO f g).take k).map numO
theorem prodL_succ {f g : List Int} {k : Nat} (h : k < f.length + g.length - 1) : prodL f g (k+1) = prodL f g k ++ [numO (accO f g k f.length)] := by
  unfold prodL
  rw [List.take_add_one, List.getElem?_eq_getElem (by rw [sumsO_len]; exact h), List.map_append]
  simp [sumsO]
theorem prodL_all (f g : List Int) : prodL f g (f.length + g.length - 1) = (sumsO f g).map numO := by
  unfold prodL; rw [List.take_of_length_le (by rw [sumsO_len]; exact Nat.le_refl _)]
theorem prod_fail {f g : List Int} {k : Nat} (h0 : ¬ (f.length = 0 ∨ g.length = 0)) (hk : k < f.length + g.length - 1) (h : accO f g k f.length = none) : prodOf f g = ([], false) := by
  unfold prodOf
  rw [if_neg h0]
  split
  · rfl
  · rw [if_pos]
    rw [List.all_eq_false]
    exact ⟨none, by simp only [sumsO, List.mem_map, List.mem_range]; exact ⟨k, hk, h⟩, by simp⟩
theorem prod_good {f g : List Int} (h0 : ¬ (f.length = 0 ∨ g.length = 0)) (hL : ¬ 40 < f.length + g.length - 1) (h : ∀ p, p < f.length + g.length - 1 → (accO f g p f.length).isNone = false) : prodOf f g = (trim ((sumsO f g).map numO), true) := by
  unfold prodOf
  rw [if_neg h0, if_neg hL, if_neg]
  have : (sumsO f g).all (fun o => !o.isNone) = true := by
    rw [List.all_eq_true]
    intro o ho
    simp only [sumsO, List.mem_map, List.mem_range] at ho
    obtain ⟨p, hp, rfl⟩ := ho
    rw [h p hp]; rfl
  rw [this]; simp

theorem mul_prod {f g : List Int} (hw : wholeB f = true) (hw' : wholeB g = true) : mulOf f g = if (prodOf f g).2 = true then ((prodOf f g).1, 0) else ([], 3) := by
  unfold mulOf prodOf
  rw [if_neg (by rw [hw, hw']; simp)]
  repeat' split
  all_goals simp_all

end Go.Proofs.Ytebgbplhcaocoaa
