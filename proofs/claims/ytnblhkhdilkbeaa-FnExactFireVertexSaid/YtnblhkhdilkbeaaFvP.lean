/- Laplacian rows by degrees and adjacency: plain mathematics. -/
import Derived.Test.YtnblhkhdilkbeaaCoreL
import Derived.Test.YtnblhkhdilkbeaaChP
import Derived.Test.YtnblhkhdilkbeaaCoreB
set_option linter.unusedSimpArgs false
set_option linter.unusedVariables false
set_option maxRecDepth 100000
namespace Go.Proofs.Ytnblhkhdilkbeaa
open Go.RowKit

theorem lapE_at {f : Nat → Nat → Int} (hf : ∀ i j, -100 ≤ f i j ∧ f i j ≤ 100) (A B i j : Nat) :
    lapE f A B i j = f i j + (if A = B then 0 else ((if i = j then ((if i = A then 1 else 0) + (if i = B then 1 else 0)) else 0) - (if i = A ∧ j = B then 1 else 0) - (if i = B ∧ j = A then 1 else 0))) := by
  by_cases h : A = B
  · unfold lapE; rw [if_pos h, if_pos h, Int.add_zero]
  · have h' : B ≠ A := fun e => h e.symm
    have up : ∀ a b, wrap64 (f a b + 1) = f a b + 1 := fun a b => by have := hf a b; exact IntWalk.wrap64_in _ (by omega)
    have dn : ∀ a b, wrap64 (f a b - 1) = f a b - 1 := fun a b => by have := hf a b; exact IntWalk.wrap64_in _ (by omega)
    unfold lapE
    rw [if_neg h, if_neg h]
    unfold dn1 up1 put
    simp only [h, h', and_self, and_false, false_and, if_true, if_false, up, dn]
    by_cases e1 : i = B ∧ j = A
    · obtain ⟨rfl, rfl⟩ := e1
      simp [h, h']; omega
    · rw [if_neg e1, if_neg e1]
      by_cases e2 : i = A ∧ j = B
      · obtain ⟨rfl, rfl⟩ := e2
        simp [h, h']; omega
      · rw [if_neg e2, if_neg e2]
        by_cases e3 : i = B ∧ j = B
        · obtain ⟨rfl, rfl⟩ := e3
          simp [h, h']
        · rw [if_neg e3]
          by_cases e4 : i = A ∧ j = A
          · obtain ⟨rfl, rfl⟩ := e4
            simp [h, h']
          · rw [if_neg e4]
            by_cases e5 : i = j
            · subst e5
              have : ¬ i = A := fun e => e4 ⟨e, e⟩
              have h3 : ¬ i = B := fun e => e3 ⟨e, e⟩
              simp [this, h3]
            · simp [e5]
theorem upd2_at {p : Int → Int → Int} (hp : ∀ x y, -100 ≤ p x y ∧ p x y ≤ 100) (a b x y : Int) :
    upd (upd p a b) b a x y = p x y + (if x = a ∧ y = b then 1 else 0) + (if x = b ∧ y = a then 1 else 0) := by
  have up : ∀ a b, wrap64 (p a b + 1) = p a b + 1 := fun a b => by have := hp a b; exact IntWalk.wrap64_in _ (by omega)
  have up2 : ∀ a b, wrap64 (p a b + 1 + 1) = p a b + 1 + 1 := fun a b => by have := hp a b; exact IntWalk.wrap64_in _ (by omega)
  unfold upd
  by_cases e1 : x = b ∧ y = a
  · obtain ⟨rfl, rfl⟩ := e1
    by_cases e2 : x = y
    · subst e2; simp [up, up2]
    · have e3 : ¬ y = x := fun e => e2 e.symm
      simp [e2, e3, up]
  · rw [if_neg e1, if_neg e1]
    by_cases e2 : x = a ∧ y = b
    · rw [if_pos e2, if_pos e2, up]; obtain ⟨rfl, rfl⟩ := e2; omega
    · rw [if_neg e2, if_neg e2]; omega
theorem degL_bd (xss : List (List Int)) (v : Int) : 0 ≤ deg xss v ∧ deg xss v ≤ 2 * (xss.length : Int) := by
  induction xss with
  | nil => simp [deg]
  | cons e r ih =>
    have h1 := one_bd (e.getD 0 0 == v)
    have h2 := one_bd (e.getD 1 0 == v)
    have : deg (e :: r) v = dg v e + deg r v := by unfold deg; simp
    rw [this]
    unfold dg
    simp only [List.length_cons]
    omega
theorem lap_ad {s : Int} {xss : List (List Int)} (hg : grB s xss = true) : ∀ q, q ≤ xss.length → ∀ i j : Nat, lapS (pairs xss) q i j = (if i = j then deg (xss.take q) (i : Int) else 0) - adS (pairs xss) q (i : Int) (j : Int) := by
  have hg4 := grB_iff hg
  intro q
  induction q with
  | zero => intro _ i j; simp [lapS, zeros, deg, adS]
  | succ q ih =>
    intro hq i j
    have ih' := ih (by omega)
    have hb : ∀ i j : Nat, -100 ≤ lapS (pairs xss) q i j ∧ lapS (pairs xss) q i j ≤ 100 := fun i j => by
      rw [ih' i j]
      have h1 := degL_bd (xss.take q) (i : Int)
      have h2 := adS_bd (pairs xss) q (by omega) (i : Int) (j : Int)
      have h3 : (xss.take q).length ≤ 10 := by rw [List.length_take]; omega
      split <;> omega
    have hp : ∀ x y : Int, -100 ≤ adS (pairs xss) q x y ∧ adS (pairs xss) q x y ≤ 100 := fun x y => by
      have h2 := adS_bd (pairs xss) q (by omega) x y
      omega
    have hin := hg4.2.2.2 q (by omega)
    rw [lapS_step, lapE_at hb, ih' i j]
    show _ = _ - upd (upd (adS (pairs xss) q) _ _) _ _ _ _
    rw [upd2_at hp, deg_step (by omega)]
    rw [pairs_getD]
    unfold dg one
    obtain ⟨a, ha⟩ : ∃ a : Nat, (xss.getD q []).getD 0 0 = (a : Int) := ⟨((xss.getD q []).getD 0 0).toNat, by omega⟩
    obtain ⟨b, hb2⟩ : ∃ b : Nat, (xss.getD q []).getD 1 0 = (b : Int) := ⟨((xss.getD q []).getD 1 0).toNat, by omega⟩
    simp only [ha, hb2, Int.toNat_natCast, beq_iff_eq, Int.natCast_inj]
    generalize adS (pairs xss) q i j = z
    generalize deg (xss.take q) i = d
    clear hb hp hin ih ih' ha hb2 hg hg4
    by_cases e0 : i = j
    · subst e0
      simp only [if_true]
      by_cases e1 : a = b
      · subst e1
        by_cases e2 : i = a
        · subst e2; simp; omega
        · have e3 : ¬ a = i := fun e => e2 e.symm
          simp [e2, e3]
      · by_cases e2 : i = a
        · subst e2
          have : ¬ b = i := fun e => e1 e.symm
          simp [e1, this]; omega
        · have e3 : ¬ a = i := fun e => e2 e.symm
          by_cases e4 : i = b
          · subst e4; simp [e1, e2, e3]; omega
          · have e5 : ¬ b = i := fun e => e4 e.symm
            simp [e1, e2, e3, e4, e5]
    · simp only [e0, if_false]
      by_cases e1 : a = b
      · subst e1
        have : ¬ (i = a ∧ j = a) := fun e => e0 (e.1.trans e.2.symm)
        simp [this]
      · simp only [e1, if_false]
        split <;> split <;> omega
end Go.Proofs.Ytnblhkhdilkbeaa
