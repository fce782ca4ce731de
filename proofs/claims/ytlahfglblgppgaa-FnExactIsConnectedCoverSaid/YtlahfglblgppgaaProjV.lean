/- ProjectVertex of the model and of the program. -/
import Derived.Test.YtlahfglblgppgaaImplCov
set_option linter.unusedSimpArgs false
set_option linter.unusedVariables false
set_option maxRecDepth 100000
namespace Go.Proofs.Ytlahfglblgppgaa
open Go.RowKit

theorem cvB_hd {s : Int} {xss : List (List Int)} {sh : Int} {ts : List (List Int)} (h : cvB s xss sh ts = true) : grB s xss = true ∧ (1 ≤ s ∧ s ≤ 8) ∧ (1 ≤ sh ∧ sh ≤ 4) ∧ ts.length = xss.length ∧ ts.all (permB sh) = true := by
  unfold cvB at h
  simp only [Bool.and_eq_true, decide_eq_true_eq] at h
  obtain ⟨h1, h2, h3, h4⟩ := h
  obtain ⟨h5, h6, _, _⟩ := grB_iff h1
  unfold shB at h2
  simp only [Bool.and_eq_true, decide_eq_true_eq] at h2
  exact ⟨h1, ⟨h5, h6⟩, h2, h3, h4⟩

def pvOf (s : Int) (xss : List (List Int)) (sh : Int) (ts : List (List Int)) (v : Int) : Int × Int := if cvB s xss sh ts then (if inR v (s * sh) then (v / sh, 0) else (0, 2)) else (0, 1)

theorem l01InX (x s : Int) (h1 : 1 ≤ s) (h2 : s ≤ 32) (w : World) :
    Calls Try.prog 77 #[.int .i64 x, .int .i64 0, .int .i64 (s - 1)] w fun e w' => e = .returned (.bool (inR x s)) ∧ Qt w w' := by
  have e1 : inR x s = (decide (0 ≤ x) && decide (x ≤ s - 1)) := by
    unfold inR
    congr 1
    simp; omega
  rw [e1]
  exact l01In x 0 (s - 1) w

theorem mul_bd {s sh : Int} (h1 : 1 ≤ s) (h2 : s ≤ 8) (h3 : 1 ≤ sh) (h4 : sh ≤ 4) : 1 ≤ s * sh ∧ s * sh ≤ 32 := by
  have h : sh = 1 ∨ sh = 2 ∨ sh = 3 ∨ sh = 4 := by omega
  rcases h with rfl | rfl | rfl | rfl <;> omega
end Go.Proofs.Ytlahfglblgppgaa
