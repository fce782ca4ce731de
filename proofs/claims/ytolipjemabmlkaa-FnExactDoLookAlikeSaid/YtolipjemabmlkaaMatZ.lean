/- Powers of square tables without wrapping, and their bounds: plain mathematics. -/
import Derived.Test.YtolipjemabmlkaaMat
set_option linter.unusedSimpArgs false
set_option linter.unusedVariables false
namespace Go.Proofs.Ytolipjemabmlkaa
open Go.RowKit

def dotZ (u v : Nat → Int) : Nat → Int
  | 0 => 0
  | k + 1 => dotZ u v k + u k * v k
def pwZ (N : Nat) (M : Nat → Nat → Int) : Nat → Nat → Nat → Int
  | 0 => unitM
  | k + 1 => fun i j => dotZ (pwZ N M k i) (fun r => M r j) N
def bnd : Nat → Int
  | 0 => 1
  | k + 1 => 20 * bnd k
theorem bnd_pos (k : Nat) : 1 ≤ bnd k := by
  induction k with
  | zero => decide
  | succ k ih => simp only [bnd]; omega
theorem bnd_mono {k q : Nat} (h : k ≤ q) : bnd k ≤ bnd q := by
  induction q with
  | zero =>
    obtain rfl : k = 0 := by omega
    exact Int.le_refl _
  | succ q ih =>
    by_cases e : k = q + 1
    · subst e; exact Int.le_refl _
    · have := ih (by omega)
      have := bnd_pos q
      simp only [bnd]; omega
theorem bnd_12 : bnd 12 = 4096000000000000 := by decide
theorem bnd_le {k : Nat} (h : k ≤ 12) : bnd k ≤ 4096000000000000 := by rw [← bnd_12]; exact bnd_mono h
theorem mul01 {x y B : Int} (hx : 0 ≤ x ∧ x ≤ B) (hy : y = 0 ∨ y = 1) : 0 ≤ x * y ∧ x * y ≤ B := by
  rcases hy with rfl | rfl
  · rw [Int.mul_zero]; omega
  · rw [Int.mul_one]; exact hx
theorem dotZ_bd {u v : Nat → Int} {B : Int} (hu : ∀ r, 0 ≤ u r ∧ u r ≤ B) (hv : ∀ r, v r = 0 ∨ v r = 1) (k : Nat) : 0 ≤ dotZ u v k ∧ dotZ u v k ≤ k * B := by
  induction k with
  | zero => simp [dotZ]
  | succ k ih =>
    have h := mul01 (hu k) (hv k)
    have hB : 0 ≤ B := by have := hu 0; omega
    simp only [dotZ]
    have e : ((k + 1 : Nat) : Int) * B = (k : Int) * B + B := by rw [Int.natCast_add, Int.add_mul]; simp
    rw [e]
    omega
theorem kB {k : Nat} {B : Int} (hk : k ≤ 20) (hB : 0 ≤ B) : (k : Int) * B ≤ 20 * B := Int.mul_le_mul_of_nonneg_right (by omega) hB
theorem pwZ_bd {N : Nat} {M : Nat → Nat → Int} (hN : N ≤ 20) (hM : ∀ i j, M i j = 0 ∨ M i j = 1) (k : Nat) : ∀ i j, 0 ≤ pwZ N M k i j ∧ pwZ N M k i j ≤ bnd k := by
  induction k with
  | zero =>
    intro i j
    simp only [pwZ, unitM, bnd]
    split <;> omega
  | succ k ih =>
    intro i j
    have h := dotZ_bd (u := pwZ N M k i) (v := fun r => M r j) (fun r => ih i r) (fun r => hM r j) N
    have hp := bnd_pos k
    have := kB hN (show (0 : Int) ≤ bnd k by omega)
    simp only [pwZ, bnd]
    omega
/-- within the bounds nothing is wrapped -/
theorem dotW_dotZ {u v : Nat → Int} {B : Int} (hu : ∀ r, 0 ≤ u r ∧ u r ≤ B) (hv : ∀ r, v r = 0 ∨ v r = 1) (hB : B ≤ 4096000000000000) (k : Nat) (hk : k ≤ 20) : dotW u v k = dotZ u v k := by
  induction k with
  | zero => rfl
  | succ k ih =>
    have h := mul01 (hu k) (hv k)
    have h2 := dotZ_bd hu hv k
    have hB0 : 0 ≤ B := by have := hu 0; omega
    have h3 := kB (show k ≤ 20 by omega) hB0
    simp only [dotW, dotZ]
    rw [ih (by omega), wrap_of (show I64 (u k * v k) by unfold I64; omega), wrap_of (by unfold I64; omega)]
def pwW (N : Nat) (M : Nat → Nat → Int) : Nat → Nat → Nat → Int
  | 0 => unitM
  | k + 1 => mulM N (pwW N M k) M
theorem pwW_pwZ {N : Nat} {M : Nat → Nat → Int} (hN : N ≤ 20) (hM : ∀ i j, M i j = 0 ∨ M i j = 1) (k : Nat) (hk : k ≤ 13) : pwW N M k = pwZ N M k := by
  induction k with
  | zero => rfl
  | succ k ih =>
    funext i j
    simp only [pwW, pwZ, mulM]
    rw [ih (by omega)]
    exact dotW_dotZ (fun r => pwZ_bd hN hM k i r) (fun r => hM r j) (bnd_le (by omega)) N hN
def trZ (A : Nat → Nat → Int) : Nat → Int
  | 0 => 0
  | i + 1 => trZ A i + A i i
theorem trZ_bd {A : Nat → Nat → Int} {B : Int} (hA : ∀ i j, 0 ≤ A i j ∧ A i j ≤ B) (k : Nat) : 0 ≤ trZ A k ∧ trZ A k ≤ k * B := by
  induction k with
  | zero => simp [trZ]
  | succ k ih =>
    have h := hA k k
    have e : ((k + 1 : Nat) : Int) * B = (k : Int) * B + B := by rw [Int.natCast_add, Int.add_mul]; simp
    simp only [trZ]
    rw [e]; omega
theorem trW_trZ {A : Nat → Nat → Int} {B : Int} (hA : ∀ i j, 0 ≤ A i j ∧ A i j ≤ B) (hB : B ≤ 4096000000000000) (k : Nat) (hk : k ≤ 20) : trW A k = trZ A k := by
  induction k with
  | zero => rfl
  | succ k ih =>
    have h := hA k k
    have h2 := trZ_bd hA k
    have h3 := kB (show k ≤ 20 by omega) (show (0 : Int) ≤ B by omega)
    simp only [trW, trZ]
    rw [ih (by omega), wrap_of (by unfold I64; omega)]
/-- the closed number of k -/
def clN (N : Nat) (M : Nat → Nat → Int) (k : Nat) : Int := trZ (pwZ N M k) N
theorem clN_bd {N : Nat} {M : Nat → Nat → Int} (hN : N ≤ 20) (hM : ∀ i j, M i j = 0 ∨ M i j = 1) {k : Nat} (hk : k ≤ 12) : 0 ≤ clN N M k ∧ clN N M k ≤ 81920000000000000 := by
  have h := trZ_bd (pwZ_bd hN hM k) N
  have h2 := kB hN (show (0 : Int) ≤ bnd k by have := bnd_pos k; omega)
  have h3 := bnd_le hk
  unfold clN
  omega
theorem clN_trW {N : Nat} {M : Nat → Nat → Int} (hN : N ≤ 20) (hM : ∀ i j, M i j = 0 ∨ M i j = 1) {k : Nat} (hk : k ≤ 12) : trW (pwW N M k) N = clN N M k := by
  rw [pwW_pwZ hN hM k (by omega)]
  exact trW_trZ (pwZ_bd hN hM k) (bnd_le hk) N hN

end Go.Proofs.Ytolipjemabmlkaa
