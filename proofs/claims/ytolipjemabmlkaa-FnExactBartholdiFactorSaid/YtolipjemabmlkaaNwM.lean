/- A determinant modulo p: only the rests of the numbers matter. -/
import Derived.Test.YtolipjemabmlkaaResE
set_option linter.unusedSimpArgs false
set_option linter.unusedVariables false
set_option maxRecDepth 100000
namespace Go.Proofs.Ytolipjemabmlkaa
open Go.RowKit

def fmod (p : Int) (f : Nat → Nat → Int) : Nat → Nat → Int := fun i j => f i j % p
theorem rowL_mod (p : Int) (N : Nat) (f : Nat → Nat → Int) (i : Nat) : rowL p N (fmod p f) i = rowL p N f i := by
  unfold rowL fmod
  refine List.map_congr_left fun j _ => Int.emod_emod_of_dvd _ (Int.dvd_refl p)
theorem colL_mod (p : Int) (N : Nat) (f : Nat → Nat → Int) (i : Nat) : colL p N (fmod p f) i = colL p N f i := by
  unfold colL fmod
  refine List.map_congr_left fun j _ => Int.emod_emod_of_dvd _ (Int.dvd_refl p)
theorem mulL_mod (p : Int) (N : Nat) (f : Nat → Nat → Int) (xs : List Int) (r : Nat) : mulL p N (fmod p f) xs r = mulL p N f xs r := by
  unfold mulL
  simp only [rowL_mod]
theorem colK_mod (p : Int) (N : Nat) (f : Nat → Nat → Int) (r : Nat) : ∀ k, colK p N (fmod p f) r k = colK p N f r k
  | 0 => by unfold colK; rw [colL_mod]
  | k + 1 => by
    show mulL p N (fmod p f) (colK p N (fmod p f) r k) r = mulL p N f (colK p N f r k) r
    rw [colK_mod p N f r k, mulL_mod]
theorem growK_mod (p : Int) (N : Nat) (f : Nat → Nat → Int) (r : Nat) : ∀ k, growK p N (fmod p f) r k = growK p N f r k
  | 0 => by
    show [1, (-(f r r % p % p)) % p] = [1, (-(f r r % p)) % p]
    rw [Int.emod_emod_of_dvd _ (Int.dvd_refl p)]
  | k + 1 => by
    show growK p N (fmod p f) r k ++ [(-(wsN p (colK p N (fmod p f) r k) (rowL p N (fmod p f) r) r)) % p] = _
    rw [growK_mod p N f r k, colK_mod, rowL_mod]
    rfl
theorem nowL_mod (p : Int) (N : Nat) (f : Nat → Nat → Int) : ∀ r, nowL p N (fmod p f) r = nowL p N f r
  | 0 => rfl
  | r + 1 => by
    show (List.range (r + 2)).map (fun t => cvN p (nowL p N (fmod p f) r) (growK p N (fmod p f) r r) t (r + 1)) = _
    rw [nowL_mod p N f r, growK_mod]
    rfl
end Go.Proofs.Ytolipjemabmlkaa
