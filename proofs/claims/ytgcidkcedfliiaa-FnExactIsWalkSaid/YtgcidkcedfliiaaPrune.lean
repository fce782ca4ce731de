/- Pruned graphs: what is left behind each leaf. -/
import Derived.Test.YtgcidkcedfliiaaConPure
import Derived.Test.YtgcidkcedfliiaaDegs
set_option linter.unusedSimpArgs false
set_option linter.unusedVariables false
namespace Go.Proofs.Ytgcidkcedfliiaa
open Go.RowKit

def leafN (S : Nat) (xss : List (List Int)) : Option Nat := (List.range S).find? (fun v : Nat => deg xss (v : Int) == 1)
def low (v a : Int) : Int := if v < a then a - 1 else a
def offV (v : Int) (e : List Int) : Bool := e.getD 0 0 != v && e.getD 1 0 != v
def lowE (v : Int) (e : List Int) : List Int := [low v (e.getD 0 0), low v (e.getD 1 0)]
def cutV (v : Int) (xss : List (List Int)) : List (List Int) := (xss.filter (offV v)).map (lowE v)
def prune : Nat → List (List Int) → Nat × List (List Int)
  | 0, xss => (0, xss)
  | S + 1, xss => match leafN (S + 1) xss with
    | none => (S + 1, xss)
    | some v => prune S (cutV (v : Int) xss)

theorem leaf_some {S v : Nat} {xss : List (List Int)} (hv : v < S) (h : ∀ u, u < v → ¬ deg xss (u : Int) = 1) (hl : deg xss (v : Int) = 1) : leafN S xss = some v := by
  unfold leafN
  have : ∀ (k : Nat), v < k → k ≤ S → (List.range k).find? (fun v : Nat => deg xss (v : Int) == 1) = some v := by
    intro k
    induction k with
    | zero => intro h0; omega
    | succ k ih =>
      intro h1 h2
      rw [List.range_succ, List.find?_append]
      by_cases e : v < k
      · rw [ih e (by omega)]; rfl
      · obtain rfl : v = k := by omega
        have e0 : (List.range v).find? (fun v : Nat => deg xss (v : Int) == 1) = none := by
          rw [List.find?_eq_none]
          intro u hu
          have := h u (List.mem_range.1 hu)
          simpa using this
        rw [e0]; simp [hl]
  exact this S hv (Nat.le_refl _)
theorem leaf_none {S : Nat} {xss : List (List Int)} (h : ∀ u, u < S → ¬ deg xss (u : Int) = 1) : leafN S xss = none := by
  unfold leafN
  rw [List.find?_eq_none]
  intro u hu
  have := h u (List.mem_range.1 hu)
  simpa using this
theorem leaf_get {S v : Nat} {xss : List (List Int)} (h : leafN S xss = some v) : v < S ∧ deg xss (v : Int) = 1 := by
  unfold leafN at h
  have h1 := List.mem_of_find?_eq_some h
  have h2 := List.find?_some h
  exact ⟨List.mem_range.1 h1, by simpa using h2⟩

theorem grB_mk {s : Int} {xss : List (List Int)} (h1 : 1 ≤ s) (h2 : s ≤ 8) (h3 : xss.length ≤ 10) (h4 : ∀ e ∈ xss, e.length = 2 ∧ 0 ≤ e.getD 0 0 ∧ e.getD 0 0 < s ∧ 0 ≤ e.getD 1 0 ∧ e.getD 1 0 < s) : grB s xss = true := by
  unfold grB
  simp only [Bool.and_eq_true, decide_eq_true_eq, List.all_eq_true]
  refine ⟨h1, h2, h3, fun e he => ?_⟩
  have := h4 e he
  simp only [edgeOk, inR, Bool.and_eq_true, decide_eq_true_eq]
  omega
theorem grB_mem {s : Int} {xss : List (List Int)} (h : grB s xss = true) : ∀ e ∈ xss, e.length = 2 ∧ 0 ≤ e.getD 0 0 ∧ e.getD 0 0 < s ∧ 0 ≤ e.getD 1 0 ∧ e.getD 1 0 < s := by
  intro e he
  obtain ⟨i, hi, rfl⟩ := List.getElem_of_mem he
  have := (grB_iff h).2.2.2 i hi
  have e1 : xss.getD i [] = xss[i] := by simp [List.getD, List.getElem?_eq_getElem hi]
  rw [e1] at this; exact this
theorem deg_even {xss : List (List Int)} {v : Int} (h : ∀ e ∈ xss, e.getD 0 0 = v ∧ e.getD 1 0 = v) : deg xss v = 2 * xss.length := by
  induction xss with
  | nil => rfl
  | cons e r ih =>
    have h1 := h e (by simp)
    have h2 := ih (fun f hf => h f (by simp [hf]))
    simp only [deg, List.map_cons, List.sum_cons, List.length_cons] at h2 ⊢
    rw [h2]
    simp only [dg, h1.1, h1.2, one, beq_self_eq_true, if_true]
    omega
theorem cut_gr {S v : Nat} {xss : List (List Int)} (hg : grB (S : Int) xss = true) (hv : v < S) (hd : deg xss (v : Int) = 1) : 2 ≤ S ∧ grB ((S - 1 : Nat) : Int) (cutV (v : Int) xss) = true := by
  have hm := grB_mem hg
  obtain ⟨h1, h2, h3, _⟩ := grB_iff hg
  have hS : 2 ≤ S := by
    by_cases e : 2 ≤ S
    · exact e
    · exfalso
      have hv0 : v = 0 := by omega
      have := deg_even (xss := xss) (v := (v : Int)) (fun e he => by have := hm e he; omega)
      omega
  refine ⟨hS, grB_mk (by omega) (by omega) ?_ (fun e he => ?_)⟩
  · have := List.length_filter_le (offV (v : Int)) xss
    simp only [cutV, List.length_map]; omega
  · simp only [cutV, List.mem_map, List.mem_filter] at he
    obtain ⟨f, ⟨hf, ho⟩, rfl⟩ := he
    have h5 := hm f hf
    simp only [offV, Bool.and_eq_true, bne_iff_ne] at ho
    obtain ⟨o1, o2⟩ := ho
    simp only [lowE, List.length_cons, List.length_nil, List.getD_cons_zero, List.getD_cons_succ, low]
    refine ⟨trivial, ?_⟩
    split <;> split <;> omega
theorem prune_some {S v : Nat} {xss : List (List Int)} (hS : 1 ≤ S) (h : leafN S xss = some v) : prune S xss = prune (S - 1) (cutV (v : Int) xss) := by
  obtain ⟨k, rfl⟩ : ∃ k, S = k + 1 := ⟨S - 1, by omega⟩
  simp only [prune, h, Nat.add_sub_cancel]
theorem prune_none {S : Nat} {xss : List (List Int)} (hS : 1 ≤ S) (h : leafN S xss = none) : prune S xss = (S, xss) := by
  obtain ⟨k, rfl⟩ : ∃ k, S = k + 1 := ⟨S - 1, by omega⟩
  simp only [prune, h]
theorem cut_step_in {xss : List (List Int)} {j : Nat} {v : Int} (hj : j < xss.length) (h : offV v (xss.getD j []) = true) : cutV v (xss.take (j + 1)) = cutV v (xss.take j) ++ [lowE v (xss.getD j [])] := by
  unfold cutV
  rw [take_snocR hj, List.filter_append, List.map_append]
  simp only [List.filter_cons, h, if_true, List.filter_nil, List.map_cons, List.map_nil]
theorem cut_step_out {xss : List (List Int)} {j : Nat} {v : Int} (hj : j < xss.length) (h : offV v (xss.getD j []) = false) : cutV v (xss.take (j + 1)) = cutV v (xss.take j) := by
  unfold cutV
  rw [take_snocR hj, List.filter_append, List.map_append]
  simp only [List.filter_cons, h, List.filter_nil, List.map_nil, List.append_nil, Bool.false_eq_true, if_false]
theorem cut_len (v : Int) (xss : List (List Int)) : (cutV v xss).length ≤ xss.length := by
  have := List.length_filter_le (offV v) xss
  simp only [cutV, List.length_map]; omega
theorem prune_gr : ∀ (S : Nat) (xss : List (List Int)), grB (S : Int) xss = true → grB ((prune S xss).1 : Int) (prune S xss).2 = true
  | 0, xss, h => h
  | S + 1, xss, h => by
    cases hl : leafN (S + 1) xss with
    | none => rw [prune_none (by omega) hl]; exact h
    | some v =>
      obtain ⟨h1, h2⟩ := leaf_get hl
      rw [prune_some (by omega) hl]
      exact prune_gr S _ (by simpa using (cut_gr h h1 h2).2)
def pruneOf (s : Int) (xss : List (List Int)) : (Int × List (List Int)) × Int := if grB s xss = true then ((((prune s.toNat xss).1 : Int), (prune s.toNat xss).2), 0) else ((0, []), 1)
theorem pruneOf_lens (s : Int) (xss : List (List Int)) : lens (pruneOf s xss).1.2 ≤ 1000 := by
  unfold pruneOf
  split
  · rename_i hg
    have h1 := grB_iff hg
    obtain ⟨S, rfl⟩ : ∃ S : Nat, s = S := ⟨s.toNat, by omega⟩
    have := prune_gr S xss hg
    show lens (prune S xss).2 ≤ 1000
    rw [lens_two (gr_two this)]
    have := grB_iff this
    omega
  · simp [lens]

end Go.Proofs.Ytgcidkcedfliiaa
