/- VertexFactor of the program. -/
import Derived.Test.YtolipjemabmlkaaVfP
import Derived.Test.YtolipjemabmlkaaCoreC
import Derived.Test.YtolipjemabmlkaaRep
import Derived.Test.YtolipjemabmlkaaCoreB
set_option linter.unusedSimpArgs false
set_option linter.unusedVariables false
set_option maxRecDepth 100000
namespace Go.Proofs.Ytolipjemabmlkaa
open Go.RowKit

def rowPut (f : Nat → Nat → Int) (i : Nat) : Nat → List Int → Nat → Nat → Int
  | _, [] => f
  | o, x :: r => rowPut (put f i o x) i (o + 1) r
theorem rowPut_eq (i : Nat) : ∀ (vs : List Int) (o : Nat) (f : Nat → Nat → Int) (p q : Nat), rowPut f i o vs p q = if p = i ∧ o ≤ q ∧ q < o + vs.length then vs.getD (q - o) 0 else f p q
  | [], o, f, p, q => by
    show f p q = _
    rw [if_neg (by simp only [List.length_nil]; omega)]
  | x :: r, o, f, p, q => by
    show rowPut (put f i o x) i (o + 1) r p q = _
    rw [rowPut_eq i r (o + 1) (put f i o x) p q]
    simp only [List.length_cons]
    by_cases h1 : p = i ∧ o + 1 ≤ q ∧ q < o + 1 + r.length
    · rw [if_pos h1, if_pos (by omega)]
      obtain ⟨d, hd⟩ : ∃ d, q - o = d + 1 := ⟨q - o - 1, by omega⟩
      rw [hd, show q - (o + 1) = d by omega]
      rfl
    · rw [if_neg h1]
      by_cases h2 : p = i ∧ q = o
      · rw [if_pos (by omega), h2.1, h2.2, Nat.sub_self]
        unfold put
        rw [if_pos ⟨rfl, rfl⟩]
        rfl
      · rw [if_neg (by omega)]
        unfold put
        rw [if_neg h2]
theorem OwR.fillRow {lo hi : Nat} {a : Option Addr} {N c i g b cb : Nat} (hi' : i < N) (hga : a = some ⟨g, 0, none⟩) : ∀ (vs : List Int) (o : Nat) (W : World) (f : Nat → Nat → Int), OwR lo hi W (.slice a N c) (tab N f) → W.cell? ⟨g, i, none⟩ = some (.slice (some ⟨b, 0, none⟩) N cb) → o + vs.length ≤ N → (∀ x ∈ vs, I64 x) → OwR lo hi (W.setCells b o (vs.map (Value.int .i64))) (.slice a N c) (tab N (rowPut f i o vs))
  | [], o, W, f, h, _, _, _ => h
  | x :: r, o, W, f, h, hc, hl, hI => by
    simp only [List.length_cons] at hl
    obtain ⟨g', b', cb', e1, e2, e3, e4, e5, e6, e7, e8, e9⟩ := h.ent2 hi' (show o < N by omega)
    rw [hga] at e1
    simp only [Option.some.injEq, Addr.mk.injEq, and_true] at e1
    subst e1
    rw [hc] at e2
    simp only [Option.some.injEq, Value.slice.injEq, Addr.mk.injEq, and_true, true_and] at e2
    obtain ⟨rfl, rfl⟩ := e2
    have h1 := e9 x (hI x List.mem_cons_self)
    refine OwR.fillRow (cb := cb) hi' hga r (o + 1) _ _ h1 ?_ (by omega) (fun y hy => hI y (List.mem_cons_of_mem _ hy))
    rw [World.cell?_setCell_other _ _ _ _ (by intro e; injection e with e10; exact e8 e10.symm)]
    exact hc

/-- the rows after v rounds -/
def vfS (A : Nat → Nat → Int) (d : Nat → Int) (n v : Nat) : Nat → Nat → Int := fun p q => if (p < n ∧ p < v) ∨ (n ≤ p ∧ p < n + v) then vfM A d n p q else 0
theorem vfS_0 (A : Nat → Nat → Int) (d : Nat → Int) (n : Nat) : vfS A d n 0 = zeros := by
  funext p q
  unfold vfS
  rw [if_neg (by omega)]
  rfl
theorem vfS_step (A : Nat → Nat → Int) (d : Nat → Int) {n v : Nat} (hv : v < n) : put (put (rowPut (vfS A d n v) v 0 ((List.range n).map (A v))) v (n + v) (d v)) (n + v) v 1 = vfS A d n (v + 1) := by
  funext p q
  unfold put
  simp only [rowPut_eq]
  unfold vfS vfM
  simp only [List.length_map, List.length_range, Nat.sub_zero, Nat.zero_add, Nat.zero_le, true_and]
  by_cases h1 : p = n + v ∧ q = v
  · rw [if_pos h1, if_pos (by omega), if_neg (by omega), if_pos (by omega)]
  · rw [if_neg h1]
    by_cases h2 : p = v ∧ q = n + v
    · rw [if_pos h2, if_pos (by omega), if_pos (by omega), if_neg (by omega), if_pos (by omega), h2.1]
    · rw [if_neg h2]
      by_cases h3 : p = v ∧ q < n
      · rw [if_pos h3, if_pos (by omega), if_pos (by omega), if_pos h3.2, h3.1]
        simp [List.getD, h3.2]
      · rw [if_neg h3]
        by_cases h4 : p < n ∧ p < v ∨ n ≤ p ∧ p < n + v
        · have h5 : p < n ∧ p < v + 1 ∨ n ≤ p ∧ p < n + (v + 1) := by omega
          rw [if_pos h4, if_pos h5]
        · rw [if_neg h4]
          by_cases h5 : p < n ∧ p < v + 1 ∨ n ≤ p ∧ p < n + (v + 1)
          · rw [if_pos h5]
            by_cases h6 : p < n
            · rw [if_pos h6, if_neg (by omega), if_neg (by omega)]
            · rw [if_neg h6, if_neg (by omega)]
          · rw [if_neg h5]
theorem vfS_all (A : Nat → Nat → Int) (d : Nat → Int) (n : Nat) : tab (2 * n) (vfS A d n n) = tab (2 * n) (vfM A d n) := by
  unfold tab
  refine List.map_congr_left fun p hp => List.map_congr_left fun q hq => ?_
  have hp' : p < 2 * n := by simpa using hp
  unfold vfS
  rw [if_pos (by omega)]
end Go.Proofs.Ytolipjemabmlkaa
