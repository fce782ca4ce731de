/- BartholdiReciprocal of the program and of the model. -/
import Derived.Test.YtolipjemabmlkaaWtR
import Derived.Test.YtolipjemabmlkaaDetT
import Derived.Test.YtolipjemabmlkaaNumC
import Derived.Test.YtolipjemabmlkaaCoreL
set_option linter.unusedSimpArgs false
set_option linter.unusedVariables false
set_option maxRecDepth 100000
namespace Go.Proofs.Ytolipjemabmlkaa
open Go.RowKit

theorem numCode_ok2 {p s : Int} {xss : List (List Int)} {t : Int} (h : numCode p s xss t = 0) : grB s xss = true ∧ primeB p = true ∧ 0 ≤ t ∧ t < p := by
  unfold numCode at h
  split at h
  · rename_i hg
    split at h
    · rename_i hp
      split at h
      · rename_i hr
        refine ⟨hg, hp, ?_⟩
        unfold inR at hr
        simpa using hr
      · omega
    · omega
  · omega

def rvN (i : Nat) : Nat := (rv (i : Int)).toNat
theorem rvN_lt {i n : Nat} (h : i < 2 * n) (hn : n ≤ 10) : rvN i < 2 * n ∧ ((rvN i : Nat) : Int) = rv (i : Int) := by
  have := rv_is (i : Int) (by omega) (by omega)
  unfold rvN
  omega
/-- the turns are told for the first k rows -/
def brS (f : Nat → Nat → Int) (t : Int) (k : Nat) : Nat → Nat → Int := fun i j => if i < k ∧ j = rvN i then t else f i j
theorem brS_0 (f : Nat → Nat → Int) (t : Int) : brS f t 0 = f := by funext i j; unfold brS; rw [if_neg (by omega)]
theorem brS_at (f : Nat → Nat → Int) (t : Int) (k j : Nat) : brS f t k k j = f k j := by unfold brS; rw [if_neg (by omega)]
theorem brS_put (f : Nat → Nat → Int) (t : Int) (k : Nat) : put (brS f t k) k (rvN k) t = brS f t (k + 1) := by
  funext i j
  unfold put brS
  by_cases h : i = k ∧ j = rvN k
  · obtain ⟨rfl, rfl⟩ := h
    rw [if_pos ⟨rfl, rfl⟩, if_pos ⟨by omega, rfl⟩]
  · rw [if_neg h]
    by_cases h2 : i < k ∧ j = rvN i
    · rw [if_pos h2, if_pos ⟨by omega, h2.2⟩]
    · have : ¬ (i < k + 1 ∧ j = rvN i) := fun h3 => by
        by_cases e : i = k
        · exact h ⟨e, by rw [h3.2, e]⟩
        · exact h2 ⟨by omega, h3.2⟩
      rw [if_neg h2, if_neg this]
theorem edgeM_back (ds : List (Int × Int)) (n i : Nat) (h : i < 2 * n) (hn : n ≤ 10) : edgeM ds i (rvN i) = 0 := by
  have e := (rvN_lt h hn).2
  unfold edgeM
  have : stepQ ds (i : Int) ((rvN i : Nat) : Int) = false := by rw [e]; unfold stepQ; simp
  rw [this]; rfl

def brOf (p s : Int) (xss : List (List Int)) (t : Int) : List Int × Int :=
  if numCode p s xss t = 0 then (trim (nowL p (2 * xss.length) (brS (edgeM (dirE (pairs xss))) t (2 * xss.length)) (2 * xss.length)), 0) else ([], numCode p s xss t)

end Go.Proofs.Ytolipjemabmlkaa
