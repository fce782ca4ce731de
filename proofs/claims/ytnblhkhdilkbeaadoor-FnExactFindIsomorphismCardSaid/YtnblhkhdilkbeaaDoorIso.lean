/- The library's insertion sort sorts; a list is a map of S vertices exactly if it sorts to 0, 1, .., S-1. -/
import Derived.Test.YtnblhkhdilkbeaaDoorCoreE
set_option linter.unusedSimpArgs false
set_option linter.unusedVariables false
set_option maxRecDepth 100000
namespace Go.Proofs.YtnblhkhdilkbeaaDoor
open Go.RowKit

/-- sorted up to k, but for what stands before j -/
def SrtE (k j : Nat) (x : List Int) : Prop := ∀ a b, a < b → b ≤ k → b ≠ j → x.getD a 0 ≤ x.getD b 0
theorem swapL_get {x : List Int} {j a : Nat} (h : j + 1 < x.length) : (swapL x j).getD a 0 = if a = j then x.getD (j+1) 0 else if a = j + 1 then x.getD j 0 else x.getD a 0 := by
  unfold swapL
  simp only [List.getD, List.getElem?_set, List.length_set]
  by_cases e : a = j
  · subst e; simp [show a < x.length by omega]
  · by_cases e2 : a = j + 1
    · subst e2
      simp [h, e, show j ≠ j + 1 by omega]
    · simp [e, e2, Ne.symm e, Ne.symm e2]
theorem sink_sorted {k : Nat} : ∀ (j : Nat) (x : List Int), k < x.length → j ≤ k → SrtE k j x → ∀ a b, a < b → b ≤ k → (sink j x).getD a 0 ≤ (sink j x).getD b 0
  | 0, x, _, _, h => fun a b hab hb => by unfold sink; exact h a b hab hb (by omega)
  | j+1, x, hk, hj, h => fun a b hab hb => by
    unfold sink
    split
    · rename_i hlt
      refine sink_sorted j (swapL x j) (by rw [swapL_len]; exact hk) (by omega) ?_ a b hab hb
      intro a b hab hb hbj
      rw [swapL_get (by omega), swapL_get (by omega), if_neg hbj]
      by_cases e : b = j + 1
      · rw [if_pos e]
        by_cases ea : a = j
        · rw [if_pos ea]; omega
        · rw [if_neg ea, if_neg (by omega)]
          exact h a j (by omega) (by omega) (by omega)
      · rw [if_neg e]
        by_cases ea : a = j
        · rw [if_pos ea]
          exact h (j+1) b (by omega) hb e
        · rw [if_neg ea]
          by_cases eb : a = j + 1
          · rw [if_pos eb]
            exact h j b (by omega) hb e
          · rw [if_neg eb]
            exact h a b hab hb e
    · rename_i hge
      by_cases e : b = j + 1
      · subst e
        by_cases ea : a = j
        · subst ea; omega
        · have := h a j (by omega) (by omega) (by omega)
          omega
      · exact h a b hab hb e
theorem sortTo_sorted {x : List Int} : ∀ (k : Nat), k < x.length → ∀ a b, a < b → b ≤ k → (sortTo k x).getD a 0 ≤ (sortTo k x).getD b 0
  | 0, _ => fun a b hab hb => by omega
  | k+1, hk => fun a b hab hb => by
    unfold sortTo
    refine sink_sorted (k+1) (sortTo k x) (by rw [sortTo_len]; exact hk) (Nat.le_refl _) ?_ a b hab hb
    intro a b hab hb hne
    exact sortTo_sorted k (by omega) a b hab (by omega)
theorem isort_len (x : List Int) : (isort x).length = x.length := sortTo_len _ _
theorem isort_sorted {x : List Int} {a b : Nat} (hab : a < b) (hb : b < x.length) : (isort x).getD a 0 ≤ (isort x).getD b 0 := sortTo_sorted (x.length - 1) (by omega) a b hab (by omega)
theorem permB_nodup {s : Int} {t : List Int} (h : permB s t = true) : t.Nodup := by
  unfold permB at h
  simp only [Bool.and_eq_true, List.all_eq_true, List.mem_range, decide_eq_true_eq] at h
  rw [List.Nodup, List.pairwise_iff_getElem]
  intro i j hi hj hij e
  have h2 := (h.2 j hj).2
  simp only [List.getD, List.getElem?_eq_getElem hj, Option.getD_some, Bool.not_eq_true', List.contains_eq_mem, decide_eq_false_iff_not] at h2
  exact h2 (by rw [← e]; exact List.mem_take_iff_getElem.2 ⟨i, by omega, rfl⟩)
theorem mp_yes {S : Nat} {t : List Int} (h1 : 1 ≤ S) (h : permB (S : Int) t = true) : ∀ i, i < S → (isort t).getD i 0 = (i : Int) := by
  have hl : t.length = S := by have := permB_len h; omega
  have hp := isort_perm (x := t) (by omega)
  have hnd : (isort t).Nodup := hp.nodup_iff.2 (permB_nodup h)
  have hyl := isort_len t
  have hin : ∀ i, i < S → 0 ≤ (isort t).getD i 0 ∧ (isort t).getD i 0 < (S : Int) := fun i hi => by
    have hm : (isort t).getD i 0 ∈ t := by
      simp only [List.getD, List.getElem?_eq_getElem (show i < (isort t).length by omega), Option.getD_some]
      exact hp.mem_iff.1 (List.getElem_mem _)
    obtain ⟨q, hq, e⟩ := List.getElem_of_mem hm
    have := permB_in h q hq
    simp only [List.getD, List.getElem?_eq_getElem hq, Option.getD_some] at this
    rw [e] at this
    unfold inR at this
    simpa using this
  have hst : ∀ i, i + 1 < S → (isort t).getD i 0 < (isort t).getD (i+1) 0 := fun i hi => by
    have h1 := isort_sorted (x := t) (a := i) (b := i+1) (by omega) (by omega)
    have h2 : (isort t).getD i 0 ≠ (isort t).getD (i+1) 0 := by
      rw [List.Nodup, List.pairwise_iff_getElem] at hnd
      have := hnd i (i+1) (by omega) (by omega) (by omega)
      simpa [List.getD, List.getElem?_eq_getElem (show i < (isort t).length by omega), List.getElem?_eq_getElem (show i + 1 < (isort t).length by omega)] using this
    omega
  have hlo : ∀ i, i < S → (i : Int) ≤ (isort t).getD i 0 := fun i => by
    induction i with
    | zero => intro hi; have := hin 0 hi; omega
    | succ i ih => intro hi; have := ih (by omega); have := hst i hi; omega
  have hhi : ∀ d i, i + d + 1 = S → (isort t).getD i 0 ≤ (i : Int) := fun d => by
    induction d with
    | zero => intro i hi; have := hin i (by omega); omega
    | succ d ih => intro i hi; have := ih (i+1) (by omega); have := hst i (by omega); omega
  intro i hi
  have := hlo i hi
  have := hhi (S - 1 - i) i (by omega)
  omega
theorem mp_no {S : Nat} {t : List Int} (h1 : 1 ≤ S) (hl : t.length = S) (h : ∀ i, i < S → (isort t).getD i 0 = (i : Int)) : permB (S : Int) t = true := by
  have hp := isort_perm (x := t) (by omega)
  have hyl := isort_len t
  have hget : ∀ i (hi : i < (isort t).length), (isort t)[i] = (i : Int) := fun i hi => by
    have := h i (by omega)
    simpa [List.getD, List.getElem?_eq_getElem hi] using this
  have hnd : t.Nodup := by
    refine hp.nodup_iff.1 ?_
    rw [List.Nodup, List.pairwise_iff_getElem]
    intro i j hi hj hij e
    rw [hget i hi, hget j hj] at e
    omega
  unfold permB
  simp only [Bool.and_eq_true, List.all_eq_true, List.mem_range, decide_eq_true_eq]
  refine ⟨by omega, fun i hi => ⟨?_, ?_⟩⟩
  · have hm : t[i] ∈ isort t := hp.mem_iff.2 (List.getElem_mem hi)
    obtain ⟨q, hq, e⟩ := List.getElem_of_mem hm
    rw [hget q hq] at e
    simp only [List.getD, List.getElem?_eq_getElem hi, Option.getD_some]
    unfold inR
    rw [← e]
    simp
    omega
  · simp only [List.getD, List.getElem?_eq_getElem hi, Option.getD_some, Bool.not_eq_true', List.contains_eq_mem, decide_eq_false_iff_not]
    intro hm
    obtain ⟨q, hq, e⟩ := List.mem_take_iff_getElem.1 hm
    rw [List.Nodup, List.pairwise_iff_getElem] at hnd
    exact hnd q i (by omega) hi (by omega) e

end Go.Proofs.YtnblhkhdilkbeaaDoor
