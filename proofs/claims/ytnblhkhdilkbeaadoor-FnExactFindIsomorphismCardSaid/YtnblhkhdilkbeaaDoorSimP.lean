/- Simple graphs: plain facts about adjacency rows. -/
import Derived.Test.YtnblhkhdilkbeaaDoorChP
set_option linter.unusedSimpArgs false
set_option linter.unusedVariables false
namespace Go.Proofs.YtnblhkhdilkbeaaDoor
open Go.RowKit

theorem upd2_sym {p : Int → Int → Int} (h : ∀ x y, p x y = p y x) (a b : Int) : ∀ x y, upd (upd p a b) b a x y = upd (upd p a b) b a y x := fun x y => by
  unfold upd
  have h0 := h x y
  have h1 := h a b
  by_cases e : a = b
  · subst e
    by_cases e1 : x = a
    · by_cases e2 : y = a
      · subst e1; subst e2; rfl
      · simp [e1, e2, h a y]
    · by_cases e2 : y = a
      · simp [e1, e2, h x a]
      · simp [e1, e2, h x y]
  · have e' : ¬ b = a := fun x => e x.symm
    by_cases e1 : x = a ∧ y = b
    · obtain ⟨rfl, rfl⟩ := e1
      simp [e, e', h1]
    · by_cases e2 : x = b ∧ y = a
      · obtain ⟨rfl, rfl⟩ := e2
        simp [e, e', h1]
      · have e3 : ¬ (y = a ∧ x = b) := fun k => e2 ⟨k.2, k.1⟩
        have e4 : ¬ (y = b ∧ x = a) := fun k => e1 ⟨k.2, k.1⟩
        simp only [e1, e2, e3, e4, if_false]
        exact h0
theorem adS_sym (es : List (Int × Int)) : ∀ q x y, adS es q x y = adS es q y x
  | 0, _, _ => rfl
  | q + 1, x, y => upd2_sym (adS_sym es q) _ _ x y
theorem wrap_even {x : Int} (h : x % 2 = 0) : wrap64 x % 2 = 0 := by unfold wrap64; omega
theorem wrap_odd {x : Int} (h : x % 2 = 0) : wrap64 (wrap64 (x + 1) + 1) % 2 = 0 := by unfold wrap64; omega
theorem adS_even (es : List (Int × Int)) : ∀ q x, adS es q x x % 2 = 0
  | 0, _ => rfl
  | q + 1, x => by
    have h := adS_even es q
    show upd (upd (adS es q) (es.getD q (0, 0)).1 (es.getD q (0, 0)).2) (es.getD q (0, 0)).2 (es.getD q (0, 0)).1 x x % 2 = 0
    generalize (es.getD q (0, 0)).1 = a
    generalize (es.getD q (0, 0)).2 = b
    unfold upd
    by_cases e : a = b
    · subst e
      by_cases e1 : x = a
      · subst e1; simp only [and_self, if_true]; exact wrap_odd (h x)
      · simp only [e1, false_and, if_false]; exact h x
    · have e1 : ¬ (x = b ∧ x = a) := fun k => e (k.2.symm.trans k.1)
      have e2 : ¬ (x = a ∧ x = b) := fun k => e (k.1.symm.trans k.2)
      simp only [e1, e2, if_false]
      exact h x
theorem adF_sym (xss : List (List Int)) (i j : Nat) : adF xss i j = adF xss j i := adS_sym _ _ _ _
theorem adF_even (xss : List (List Int)) (i : Nat) : adF xss i i % 2 = 0 := adS_even _ _ _

/-- no number of the rows is greater than 1 -/
def simB (f : Nat → Nat → Int) (S : Nat) : Bool := decide (∀ i, i < S → ∀ j, j < S → f i j ≤ 1)
theorem simB_yes {f : Nat → Nat → Int} {S : Nat} (h : ∀ i, i < S → ∀ j, j < S → f i j ≤ 1) : simB f S = true := decide_eq_true h
theorem simB_low {f : Nat → Nat → Int} {S : Nat} (hs : ∀ i j, f i j = f j i) (h : ∀ i, i < S → ∀ j, j ≤ i → f i j ≤ 1) : simB f S = true := decide_eq_true (fun i hi j hj => by
  by_cases e : j ≤ i
  · exact h i hi j e
  · rw [hs]; exact h j hj i (by omega))
theorem simB_no {f : Nat → Nat → Int} {S i j : Nat} (hi : i < S) (hj : j < S) (h : 1 < f i j) : simB f S = false := decide_eq_false (fun k => by have := k i hi j hj; omega)
theorem simB_of {f : Nat → Nat → Int} {S : Nat} (h : simB f S = true) : ∀ i, i < S → ∀ j, j < S → f i j ≤ 1 := of_decide_eq_true h
theorem simB_bit {s : Int} {xss : List (List Int)} {S : Nat} (hg : grB s xss = true) (h : simB (adF xss) S = true) {i j : Nat} (hi : i < S) (hj : j < S) : adF xss i j = 0 ∨ adF xss i j = 1 := by
  have h1 := simB_of h i hi j hj
  have h2 := adF_bd hg i j
  omega
theorem simB_diag {s : Int} {xss : List (List Int)} {S : Nat} (hg : grB s xss = true) (h : simB (adF xss) S = true) {i : Nat} (hi : i < S) : adF xss i i = 0 := by
  have h1 := simB_bit hg h hi hi
  have h2 := adF_even xss i
  omega

end Go.Proofs.YtnblhkhdilkbeaaDoor
