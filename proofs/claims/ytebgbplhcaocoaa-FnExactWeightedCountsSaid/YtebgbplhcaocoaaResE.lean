/- The determinant modulo a prime, of the program. -/
import Derived.Test.YtebgbplhcaocoaaResD
set_option linter.unusedSimpArgs false
set_option linter.unusedVariables false
set_option maxRecDepth 100000
namespace Go.Proofs.Ytebgbplhcaocoaa
open Go.RowKit

/-- the determinant of the first r rows -/
def nowL (p : Int) (N : Nat) (f : Nat → Nat → Int) : Nat → List Int
  | 0 => [1]
  | r + 1 => (List.range (r + 2)).map (fun t => cvN p (nowL p N f r) (growK p N f r r) t (r + 1))
theorem nowL_len (p : Int) (N : Nat) (f : Nat → Nat → Int) : ∀ r, (nowL p N f r).length = r + 1
  | 0 => rfl
  | r + 1 => by simp [nowL]
theorem nowL_get {p : Int} {N : Nat} {f : Nat → Nat → Int} {r t : Nat} (h : t < r + 2) : (nowL p N f (r + 1)).getD t 0 = cvN p (nowL p N f r) (growK p N f r r) t (r + 1) := by
  simp [nowL, List.getD, h]
theorem nowL_in {p : Int} {N : Nat} {f : Nat → Nat → Int} (hp : 2 ≤ p) : ∀ r t, t < r + 1 → 0 ≤ (nowL p N f r).getD t 0 ∧ (nowL p N f r).getD t 0 < p
  | 0, t, ht => by
    obtain rfl : t = 0 := by omega
    show 0 ≤ (1 : Int) ∧ (1 : Int) < p
    omega
  | r + 1, t, ht => by rw [nowL_get (by omega)]; exact cvN_in hp _
theorem growK_in {p : Int} {N : Nat} {f : Nat → Nat → Int} {r : Nat} (hp : 2 ≤ p) : ∀ k j, j < 2 + k → 0 ≤ (growK p N f r k).getD j 0 ∧ (growK p N f r k).getD j 0 < p
  | 0, j, hj => by
    have : j = 0 ∨ j = 1 := by omega
    rcases this with rfl | rfl
    · show 0 ≤ (1 : Int) ∧ (1 : Int) < p
      omega
    · exact ⟨Int.emod_nonneg _ (by omega), Int.emod_lt_of_pos _ (by omega)⟩
  | k + 1, j, hj => by
    have hl := growK_len p N f r k
    by_cases e : j < 2 + k
    · have e1 : (growK p N f r (k + 1)).getD j 0 = (growK p N f r k).getD j 0 := by
        show (growK p N f r k ++ [_]).getD j 0 = _
        simp only [List.getD, List.getElem?_append, hl]
        rw [if_pos e]
      rw [e1]; exact growK_in hp k j e
    · have e1 : (growK p N f r (k + 1)).getD j 0 = (-(wsN p (colK p N f r k) (rowL p N f r) r)) % p := by
        have h2 : j - (growK p N f r k).length = 0 := by omega
        show (growK p N f r k ++ [_]).getD j 0 = _
        simp only [List.getD, List.getElem?_append, hl]
        rw [if_neg e]
        have h3 : j - (2 + k) = 0 := by omega
        rw [h3]; rfl
      rw [e1]; exact ⟨Int.emod_nonneg _ (by omega), Int.emod_lt_of_pos _ (by omega)⟩
theorem ext_getD {xs ys : List Int} {n : Nat} (h1 : xs.length = n) (h2 : ys.length = n) (h : ∀ t, t < n → xs.getD t 0 = ys.getD t 0) : xs = ys := by
  refine List.ext_getElem (by omega) fun t a b => ?_
  have := h t (by omega)
  simpa [List.getD, List.getElem?_eq_getElem a, List.getElem?_eq_getElem b] using this

end Go.Proofs.Ytebgbplhcaocoaa
