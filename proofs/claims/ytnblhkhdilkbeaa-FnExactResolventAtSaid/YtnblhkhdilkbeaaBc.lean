/- Elimination by the program: numbers below a pivot, whole numbers. -/
import Derived.Test.YtnblhkhdilkbeaaBw
import Derived.Deep.RegionHeld3
set_option linter.unusedSimpArgs false
set_option linter.unusedVariables false
set_option maxRecDepth 100000
namespace Go.Proofs.Ytnblhkhdilkbeaa
open Go.RowKit

set_option maxHeartbeats 800000 in
theorem goOnE {B0 : Nat} {w0 : World} {E : Nat → Nat → Option Value} {X : Nat} {num : Value} {g N c : Nat} {rb cp : Nat → Nat} {f : Nat → Nat → Int} {p : Int} (w : World) (h : EL B0 w0 E X num g N c rb cp f p w) (k : Nat) (hk : k < N) :
    Calls Try.prog 135 #[.pointer (some ⟨X, 0, none⟩), .int .i64 (k : Int)] w fun e w' => e = .returned (.tuple #[]) ∧ EL B0 w0 E X num g N c rb cp f (f k k) w' := by
  have u1 := h.n1
  have u2 := h.n2
  have u3 := h.nf
  have u4 := h.hd k hk
  have u5 := h.at_ k k hk hk
  have h0 : (0 : Int) ≤ (k : Int) := by omega
  have h1 : (k : Int) < (N : Int) := by omega
  have HF := Lib.hid (h.piv (f k k))
  generalize f k k = x at u5 HF ⊢
  clear h
  go_enter Try.func135, Try.ntmps135
  go_wp2
  refine bodyPost_end (results_none rfl _ _ _) rfl ?_
  exact ⟨rfl, HF.out⟩

/-- what the numbers below a row become -/
def cleB (f q : Nat → Nat → Int) (k N i j : Nat) : Nat → Nat → Int := fun a b => if k < a ∧ (a < i ∨ (a = i ∧ b < j)) ∧ b < N then q a b else f a b
theorem cleB_start (f q : Nat → Nat → Int) (k N : Nat) : cleB f q k N (k + 1) 0 = f := by
  funext a b; unfold cleB; rw [if_neg (by omega)]
theorem cleB_put (f q : Nat → Nat → Int) (k N i j : Nat) (hi : k < i) (hj : j < N) : put (cleB f q k N i j) i j (q i j) = cleB f q k N i (j + 1) := by
  funext a b
  unfold put cleB
  by_cases h : a = i ∧ b = j
  · obtain ⟨rfl, rfl⟩ := h
    rw [if_pos ⟨rfl, rfl⟩, if_pos ⟨hi, .inr ⟨rfl, Nat.lt_succ_self _⟩, hj⟩]
  · rw [if_neg h]
    have : (k < a ∧ (a < i ∨ (a = i ∧ b < j)) ∧ b < N) ↔ (k < a ∧ (a < i ∨ (a = i ∧ b < j + 1)) ∧ b < N) := by omega
    simp only [this]
theorem cleB_next (f q : Nat → Nat → Int) (k N i : Nat) : cleB f q k N i N = cleB f q k N (i + 1) 0 := by
  funext a b
  unfold cleB
  have : (k < a ∧ (a < i ∨ (a = i ∧ b < N)) ∧ b < N) ↔ (k < a ∧ (a < i + 1 ∨ (a = i + 1 ∧ b < 0)) ∧ b < N) := by omega
  simp only [this]
theorem cleB_own (f q : Nat → Nat → Int) (k N i j : Nat) : cleB f q k N i j i j = f i j := by unfold cleB; rw [if_neg (by omega)]
theorem cleB_row0 (f q : Nat → Nat → Int) (k N i l : Nat) : cleB f q k N i 0 i l = f i l := by unfold cleB; rw [if_neg (by omega)]
theorem cleB_top (f q : Nat → Nat → Int) (k N i j l : Nat) : cleB f q k N i j k l = f k l := by unfold cleB; rw [if_neg (by omega)]

theorem bnd30 {x y : Int} (h1 : -1073741824 ≤ x ∧ x ≤ 1073741824) (h2 : -1073741824 ≤ y ∧ y ≤ 1073741824) : -1152921504606846976 ≤ x * y ∧ x * y ≤ 1152921504606846976 := by
  have h3 : (x * y).natAbs ≤ 1073741824 * 1073741824 := by
    rw [Int.natAbs_mul]; exact Nat.mul_le_mul (by omega) (by omega)
  omega
end Go.Proofs.Ytnblhkhdilkbeaa
