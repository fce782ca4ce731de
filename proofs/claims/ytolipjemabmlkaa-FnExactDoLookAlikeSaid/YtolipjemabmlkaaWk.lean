/- Walks without turning back: plain mathematics. -/
import Derived.Test.YtolipjemabmlkaaCoreB
set_option linter.unusedSimpArgs false
set_option linter.unusedVariables false
namespace Go.Proofs.Ytolipjemabmlkaa
open Go.RowKit

/-- a list of at least 1, at most 12 directed edges, each one a straight step behind the one before -/
def wkB (ds : List (Int × Int)) (ws : List Int) : Bool :=
  decide (1 ≤ ws.length) && decide (ws.length ≤ 12) && ((List.range ws.length).all (fun i => decide (0 ≤ ws.getD i 0 ∧ ws.getD i 0 < ds.length)) && (List.range (ws.length - 1)).all (fun i => stepQ ds (ws.getD i 0) (ws.getD (i+1) 0)))
theorem wkB_iff {ds : List (Int × Int)} {ws : List Int} : wkB ds ws = true ↔ 1 ≤ ws.length ∧ ws.length ≤ 12 ∧ (∀ i, i < ws.length → 0 ≤ ws.getD i 0 ∧ ws.getD i 0 < ds.length) ∧ ∀ i, i + 1 < ws.length → stepQ ds (ws.getD i 0) (ws.getD (i+1) 0) = true := by
  unfold wkB
  simp only [Bool.and_eq_true, decide_eq_true_eq, List.all_eq_true, List.mem_range]
  constructor
  · rintro ⟨⟨h1, h2⟩, h3, h4⟩
    exact ⟨h1, h2, h3, fun i hi => h4 i (by omega)⟩
  · rintro ⟨h1, h2, h3, h4⟩
    exact ⟨⟨h1, h2⟩, h3, fun i hi => h4 i (by omega)⟩
theorem wkB_len {ds : List (Int × Int)} {ws : List Int} (h : ¬ (1 ≤ ws.length ∧ ws.length ≤ 12)) : wkB ds ws = false := by
  cases e : wkB ds ws with
  | false => rfl
  | true => exact absurd ⟨(wkB_iff.1 e).1, (wkB_iff.1 e).2.1⟩ h
theorem wkB_out {ds : List (Int × Int)} {ws : List Int} {i : Nat} (hi : i < ws.length) (h : ¬ (0 ≤ ws.getD i 0 ∧ ws.getD i 0 < ds.length)) : wkB ds ws = false := by
  cases e : wkB ds ws with
  | false => rfl
  | true => exact absurd ((wkB_iff.1 e).2.2.1 i hi) h
theorem wkB_gap {ds : List (Int × Int)} {ws : List Int} {i : Nat} (hi : i + 1 < ws.length) (h : stepQ ds (ws.getD i 0) (ws.getD (i+1) 0) = false) : wkB ds ws = false := by
  cases e : wkB ds ws with
  | false => rfl
  | true => have := (wkB_iff.1 e).2.2.2 i hi; rw [h] at this; cases this
theorem stepQ_in {ds : List (Int × Int)} {x y : Int} (h : stepQ ds x y = true) : 0 ≤ x ∧ x < ds.length ∧ 0 ≤ y ∧ y < ds.length := by
  unfold stepQ at h
  simp only [Bool.and_eq_true, decide_eq_true_eq] at h
  exact h.1
/-- the first one is a directed edge, and there is a step each time -/
theorem wkB_good {ds : List (Int × Int)} {ws : List Int} (h1 : 1 ≤ ws.length) (h2 : ws.length ≤ 12) (h3 : 0 ≤ ws.getD 0 0 ∧ ws.getD 0 0 < ds.length) (h4 : ∀ i, i + 1 < ws.length → stepQ ds (ws.getD i 0) (ws.getD (i+1) 0) = true) : wkB ds ws = true := by
  refine wkB_iff.2 ⟨h1, h2, fun i hi => ?_, h4⟩
  cases i with
  | zero => exact h3
  | succ i => have := stepQ_in (h4 i hi); omega
/-- the code of a graph and a list -/
def wcode (s : Int) (xss : List (List Int)) (ws : List Int) : Int :=
  if grB s xss = true then (if wkB (dirE (pairs xss)) ws = true then 0 else 2) else 1
/-- a walk is closed -/
def clB (ds : List (Int × Int)) (ws : List Int) : Bool := stepQ ds (ws.getD (ws.length - 1) 0) (ws.getD 0 0)

/-- the number of the reverse -/
theorem rv_even (m : Nat) (h : m < 10) : rv (2 * (m : Int)) = 2 * (m : Int) + 1 := by
  have : ∀ m : Fin 10, rv (2 * ((m.1 : Nat) : Int)) = 2 * ((m.1 : Nat) : Int) + 1 := by decide
  exact this ⟨m, h⟩
theorem rv_odd (m : Nat) (h : m < 10) : rv (2 * (m : Int) + 1) = 2 * (m : Int) := by
  have : ∀ m : Fin 10, rv (2 * ((m.1 : Nat) : Int) + 1) = 2 * ((m.1 : Nat) : Int) := by decide
  exact this ⟨m, h⟩
theorem rv_is (x : Int) (h0 : 0 ≤ x) (h1 : x < 20) : rv x = x / 2 * 2 + 1 - x % 2 := by
  obtain ⟨m, hm⟩ : ∃ m : Nat, x = 2 * (m : Int) ∨ x = 2 * (m : Int) + 1 := ⟨(x / 2).toNat, by omega⟩
  rcases hm with rfl | rfl
  · rw [rv_even m (by omega)]; omega
  · rw [rv_odd m (by omega)]; omega
theorem rv_half (x y : Int) (h0 : 0 ≤ x) (h1 : x < 20) (hy : 0 ≤ y) : (y = rv x) ↔ (x / 2 = y / 2 ∧ x ≠ y) := by
  rw [rv_is x h0 h1]; omega

/-- the edge matrix -/
def edgeM (ds : List (Int × Int)) : Nat → Nat → Int := fun i j => if stepQ ds i j = true then 1 else 0

end Go.Proofs.Ytolipjemabmlkaa
