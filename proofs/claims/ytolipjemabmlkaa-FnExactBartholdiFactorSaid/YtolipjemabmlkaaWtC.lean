/- A prime, a graph and weights: the code of both sides. -/
import Derived.Test.YtolipjemabmlkaaNumC
set_option linter.unusedSimpArgs false
set_option linter.unusedVariables false
set_option maxRecDepth 100000
namespace Go.Proofs.Ytolipjemabmlkaa
open Go.RowKit

def weightsB (p : Int) (n : Nat) (ws : List Int) : Bool := decide (ws.length = 2 * n) && ws.all (fun e => inR e p)
theorem weightsB_of {p : Int} {n : Nat} {ws : List Int} (h : weightsB p n ws = true) : ws.length = 2 * n ∧ ∀ j, j < ws.length → inR (ws.getD j 0) p = true := by
  simp only [weightsB, Bool.and_eq_true, decide_eq_true_eq, List.all_eq_true] at h
  refine ⟨h.1, fun j hj => ?_⟩
  have e : ws.getD j 0 = ws[j] := by simp [List.getD, List.getElem?_eq_getElem hj]
  rw [e]
  exact h.2 _ (List.getElem_mem hj)
theorem weightsB_len {p : Int} {n : Nat} {ws : List Int} (h : ¬ ws.length = 2 * n) : weightsB p n ws = false := by simp [weightsB, h]
theorem weightsB_bad {p : Int} {n : Nat} {ws : List Int} {j : Nat} (hj : j < ws.length) (h : inR (ws.getD j 0) p = false) : weightsB p n ws = false := by
  by_cases e : weightsB p n ws = true
  · have := (weightsB_of e).2 j hj
    rw [h] at this; cases this
  · simpa using e
theorem weightsB_good {p : Int} {n : Nat} {ws : List Int} (hl : ws.length = 2 * n) (h : ∀ j, j < ws.length → inR (ws.getD j 0) p = true) : weightsB p n ws = true := by
  simp only [weightsB, Bool.and_eq_true, decide_eq_true_eq, List.all_eq_true]
  refine ⟨hl, fun e he => ?_⟩
  obtain ⟨j, hj, rfl⟩ := List.getElem_of_mem he
  have := h j hj
  simpa [List.getD, List.getElem?_eq_getElem hj] using this
def wtCode (p s : Int) (xss : List (List Int)) (ws : List Int) : Int := if grB s xss then (if primeB p then (if weightsB p xss.length ws then 0 else 2) else 2) else 1

end Go.Proofs.Ytolipjemabmlkaa
