/- The degree of a vertex, as the model counts it. -/
import Derived.Test.YtgcidkcedfliiaaIsGraph3
set_option linter.unusedSimpArgs false
set_option linter.unusedVariables false
namespace Go.Proofs.Ytgcidkcedfliiaa
open Go.RowKit

def one (b : Bool) : Int := if b then 1 else 0
def dg (v : Int) (e : List Int) : Int := one (e.getD 0 0 == v) + one (e.getD 1 0 == v)
def deg (xss : List (List Int)) (v : Int) : Int := (xss.map (dg v)).sum
theorem one_bd (b : Bool) : 0 ≤ one b ∧ one b ≤ 1 := by cases b <;> simp [one]
theorem deg_step {xss : List (List Int)} {k : Nat} (h : k < xss.length) (v : Int) : deg (xss.take (k+1)) v = deg (xss.take k) v + dg v (xss.getD k []) := by
  unfold deg
  rw [List.take_add_one, List.getElem?_eq_getElem h, List.map_append, List.sum_append]
  simp [List.getD, List.getElem?_eq_getElem h]
theorem deg_bd (xss : List (List Int)) (v : Int) : 0 ≤ deg xss v ∧ deg xss v ≤ 2 * xss.length := by
  unfold deg
  induction xss with
  | nil => simp
  | cons e r ih =>
    have h1 := one_bd (e.getD 0 0 == v)
    have h2 := one_bd (e.getD 1 0 == v)
    simp only [List.map_cons, List.sum_cons, List.length_cons]
    have : dg v e = one (e.getD 0 0 == v) + one (e.getD 1 0 == v) := rfl
    omega

theorem grB_iff {s : Int} {xss : List (List Int)} (h : grB s xss = true) : 1 ≤ s ∧ s ≤ 8 ∧ xss.length ≤ 10 ∧ ∀ j, j < xss.length → (xss.getD j []).length = 2 ∧ 0 ≤ (xss.getD j []).getD 0 0 ∧ (xss.getD j []).getD 0 0 < s ∧ 0 ≤ (xss.getD j []).getD 1 0 ∧ (xss.getD j []).getD 1 0 < s := by
  unfold grB at h
  simp only [Bool.and_eq_true, decide_eq_true_eq, List.all_eq_true] at h
  obtain ⟨h1, h2, h3, h4⟩ := h
  refine ⟨h1, h2, h3, fun j hj => ?_⟩
  have := h4 _ (List.getElem_mem hj)
  have e : xss.getD j [] = xss[j] := by simp [List.getD, List.getElem?_eq_getElem hj]
  rw [e]
  simp only [edgeOk, inR, Bool.and_eq_true, decide_eq_true_eq] at this
  omega

end Go.Proofs.Ytgcidkcedfliiaa
