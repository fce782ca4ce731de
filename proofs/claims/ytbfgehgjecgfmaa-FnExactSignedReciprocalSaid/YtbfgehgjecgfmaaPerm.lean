/- Permutations of at most four sheets: the model looks for a number twice, the program sorts; both say the same. -/
import Derived.Test.YtbfgehgjecgfmaaCoreA
set_option linter.unusedSimpArgs false
set_option linter.unusedVariables false
namespace Go.Proofs.Ytbfgehgjecgfmaa
open Go.RowKit

def permB (s : Int) (t : List Int) : Bool := decide ((t.length : Int) = s) && (List.range t.length).all (fun i => inR (t.getD i 0) s && !((t.take i).contains (t.getD i 0)))
def swapL (x : List Int) (j : Nat) : List Int := (x.set (j+1) (x.getD j 0)).set j (x.getD (j+1) 0)
def sink : Nat → List Int → List Int
  | 0, x => x
  | j+1, x => if x.getD (j+1) 0 < x.getD j 0 then sink j (swapL x j) else x
def sortTo : Nat → List Int → List Int
  | 0, x => x
  | k+1, x => sink (k+1) (sortTo k x)
def isort (x : List Int) : List Int := sortTo (x.length - 1) x
def pad (t : List Int) : List Int := t ++ ([0, 1, 2, 3] : List Int).drop t.length

theorem swapL_len (x : List Int) (j : Nat) : (swapL x j).length = x.length := by simp [swapL]
theorem sink_len : ∀ (j : Nat) (x : List Int), (sink j x).length = x.length
  | 0, x => rfl
  | j+1, x => by unfold sink; split <;> simp [sink_len j, swapL_len]
theorem sortTo_len : ∀ (k : Nat) (x : List Int), (sortTo k x).length = x.length
  | 0, x => rfl
  | k+1, x => by simp [sortTo, sink_len, sortTo_len k]
theorem swapL_perm {x : List Int} {j : Nat} (h : j + 1 < x.length) : (swapL x j).Perm x := by
  have := List.set_set_perm h (show j < x.length by omega)
  simpa [swapL, List.getD, List.getElem?_eq_getElem h, List.getElem?_eq_getElem (show j < x.length by omega)] using this
theorem sink_perm : ∀ (j : Nat) (x : List Int), j < x.length → (sink j x).Perm x
  | 0, x, _ => .refl _
  | j+1, x, h => by
    unfold sink
    split
    · exact (sink_perm j _ (by rw [swapL_len]; omega)).trans (swapL_perm h)
    · exact .refl _
theorem sortTo_perm : ∀ (k : Nat) (x : List Int), k < x.length → (sortTo k x).Perm x
  | 0, x, _ => .refl _
  | k+1, x, h => (sink_perm (k+1) _ (by rw [sortTo_len]; exact h)).trans (sortTo_perm k x (by omega))
theorem isort_perm {x : List Int} (h : 0 < x.length) : (isort x).Perm x := sortTo_perm _ _ (by omega)

def four : List Int := [0, 1, 2, 3]
theorem fin1 : ∀ a ∈ four, permB 1 [a] = decide (isort (pad [a]) = four) := by decide +kernel
theorem fin2 : ∀ a ∈ four, ∀ b ∈ four, permB 2 [a, b] = decide (isort (pad [a, b]) = four) := by decide +kernel
theorem fin3 : ∀ a ∈ four, ∀ b ∈ four, ∀ c ∈ four, permB 3 [a, b, c] = decide (isort (pad [a, b, c]) = four) := by decide +kernel
theorem fin4 : ∀ a ∈ four, ∀ b ∈ four, ∀ c ∈ four, ∀ d ∈ four, permB 4 [a, b, c, d] = decide (isort (pad [a, b, c, d]) = four) := by decide +kernel

theorem len1 {t : List Int} (h : t.length = 1) : ∃ a, t = [a] := by
  match t, h with
  | [a], _ => exact ⟨a, rfl⟩
theorem len2 {t : List Int} (h : t.length = 2) : ∃ a b, t = [a, b] := by
  match t, h with
  | [a, b], _ => exact ⟨a, b, rfl⟩
theorem len3 {t : List Int} (h : t.length = 3) : ∃ a b c, t = [a, b, c] := by
  match t, h with
  | [a, b, c], _ => exact ⟨a, b, c, rfl⟩
theorem len4 {t : List Int} (h : t.length = 4) : ∃ a b c d, t = [a, b, c, d] := by
  match t, h with
  | [a, b, c, d], _ => exact ⟨a, b, c, d, rfl⟩

theorem inR_four {x s : Int} (h : inR x s = true) (hs : s ≤ 4) : x ∈ four := by
  unfold inR at h
  simp at h
  have : x = 0 ∨ x = 1 ∨ x = 2 ∨ x = 3 := by omega
  simpa [four] using this
theorem permB_in {s : Int} {t : List Int} (h : permB s t = true) : ∀ i, i < t.length → inR (t.getD i 0) s = true := by
  intro i hi
  unfold permB at h
  simp only [Bool.and_eq_true, List.all_eq_true, List.mem_range] at h
  exact (h.2 i hi).1
theorem permB_len {s : Int} {t : List Int} (h : permB s t = true) : (t.length : Int) = s := by
  unfold permB at h
  simp only [Bool.and_eq_true, decide_eq_true_eq] at h
  exact h.1

theorem permB_sort {s : Int} {t : List Int} (h1 : 1 ≤ s) (h2 : s ≤ 4) (hl : (t.length : Int) = s) : permB s t = decide (isort (pad t) = four) := by
  by_cases hall : ∀ x ∈ t, x ∈ four
  · have hs : s = 1 ∨ s = 2 ∨ s = 3 ∨ s = 4 := by omega
    rcases hs with rfl | rfl | rfl | rfl
    · obtain ⟨a, rfl⟩ := len1 (by omega : t.length = 1)
      exact fin1 a (hall a (by simp))
    · obtain ⟨a, b, rfl⟩ := len2 (by omega : t.length = 2)
      exact fin2 a (hall a (by simp)) b (hall b (by simp))
    · obtain ⟨a, b, c, rfl⟩ := len3 (by omega : t.length = 3)
      exact fin3 a (hall a (by simp)) b (hall b (by simp)) c (hall c (by simp))
    · obtain ⟨a, b, c, d, rfl⟩ := len4 (by omega : t.length = 4)
      exact fin4 a (hall a (by simp)) b (hall b (by simp)) c (hall c (by simp)) d (hall d (by simp))
  · have h3 : permB s t = false := by
      cases e : permB s t with
      | false => rfl
      | true =>
        exfalso
        apply hall
        intro x hx
        obtain ⟨i, hi, rfl⟩ := List.getElem_of_mem hx
        have := permB_in e i hi
        simp only [List.getD, List.getElem?_eq_getElem hi, Option.getD_some] at this
        exact inR_four this h2
    rw [h3]
    symm
    rw [decide_eq_false_iff_not]
    intro e
    apply hall
    intro x hx
    have hm : x ∈ isort (pad t) := (isort_perm (x := pad t) (by simp [pad]; omega)).mem_iff.2 (by simp [pad, hx])
    rw [e] at hm
    exact hm

end Go.Proofs.Ytbfgehgjecgfmaa
