/- A shortest closed walk without turning back is no longer than the vertices are many: plain mathematics. -/
import Derived.Test.YtgcidkcedfliiaaClNum
import Derived.Test.YtgcidkcedfliiaaSpecWM
set_option linter.unusedSimpArgs false
set_option linter.unusedVariables false
namespace Go.Proofs.Ytgcidkcedfliiaa
open Go.RowKit

theorem pig (S : Nat) : ∀ g : Nat → Nat, (∀ t, t ≤ S → g t < S) → ∃ a b, a < b ∧ b ≤ S ∧ g a = g b := by
  induction S with
  | zero => intro g h; exact absurd (h 0 (Nat.le_refl _)) (Nat.not_lt_zero _)
  | succ S ih =>
    intro g h
    by_cases hx : ∃ a, a ≤ S ∧ g a = g (S + 1)
    · obtain ⟨a, ha, he⟩ := hx
      exact ⟨a, S + 1, by omega, Nat.le_refl _, he⟩
    · have hne : ∀ a, a ≤ S → g a ≠ g (S + 1) := fun a ha e => hx ⟨a, ha, e⟩
      have hv := h (S + 1) (Nat.le_refl _)
      obtain ⟨a, b, hab, hb, he⟩ := ih (fun t => if g t = S then g (S + 1) else g t) (fun t ht => by
        have h1 := h t (by omega)
        have h2 := hne t ht
        show (if g t = S then g (S + 1) else g t) < S
        split <;> omega)
      refine ⟨a, b, hab, by omega, ?_⟩
      have h1 := hne a (by omega)
      have h2 := hne b hb
      have he' : (if g a = S then g (S + 1) else g a) = (if g b = S then g (S + 1) else g b) := he
      split at he' <;> split at he' <;> omega
theorem dotZ_ex {u v : Nat → Int} {k : Nat} (h : dotZ u v k ≠ 0) : ∃ r, r < k ∧ u r ≠ 0 ∧ v r ≠ 0 := by
  induction k with
  | zero => exact absurd rfl h
  | succ k ih =>
    by_cases hu : u k = 0
    · simp only [dotZ] at h
      rw [hu, Int.zero_mul, Int.add_zero] at h
      obtain ⟨r, hr, h2⟩ := ih h
      exact ⟨r, by omega, h2⟩
    · by_cases hv : v k = 0
      · simp only [dotZ] at h
        rw [hv, Int.mul_zero, Int.add_zero] at h
        obtain ⟨r, hr, h2⟩ := ih h
        exact ⟨r, by omega, h2⟩
      · exact ⟨k, by omega, hu, hv⟩
theorem dotZ_pos {u v : Nat → Int} (hu : ∀ r, 0 ≤ u r) (hv : ∀ r, v r = 0 ∨ v r = 1) {r : Nat} (h1 : 1 ≤ u r) (h2 : v r ≠ 0) {k : Nat} (hk : r < k) : 1 ≤ dotZ u v k := by
  have key : ∀ k, 0 ≤ dotZ u v k ∧ (r < k → 1 ≤ dotZ u v k) := by
    intro k
    induction k with
    | zero => exact ⟨Int.le_refl _, fun h => absurd h (Nat.not_lt_zero _)⟩
    | succ k ih =>
      have hn : 0 ≤ u k * v k := by
        rcases hv k with e | e <;> rw [e]
        · simp
        · rw [Int.mul_one]; exact hu k
      simp only [dotZ]
      refine ⟨by omega, fun h => ?_⟩
      by_cases e : r = k
      · subst e
        rcases hv r with e | e
        · exact absurd e h2
        · rw [e, Int.mul_one]; omega
      · have := ih.2 (by omega); omega
  exact (key k).2 hk
theorem trZ_ex {A : Nat → Nat → Int} {k : Nat} (h : trZ A k ≠ 0) : ∃ r, r < k ∧ A r r ≠ 0 := by
  induction k with
  | zero => exact absurd rfl h
  | succ k ih =>
    by_cases hu : A k k = 0
    · simp only [trZ] at h
      rw [hu, Int.add_zero] at h
      obtain ⟨r, hr, h2⟩ := ih h
      exact ⟨r, by omega, h2⟩
    · exact ⟨k, by omega, hu⟩
theorem trZ_pos {A : Nat → Nat → Int} (hA : ∀ i, 0 ≤ A i i) {r : Nat} (h1 : 1 ≤ A r r) {k : Nat} (hk : r < k) : 1 ≤ trZ A k := by
  have key : ∀ k, 0 ≤ trZ A k ∧ (r < k → 1 ≤ trZ A k) := by
    intro k
    induction k with
    | zero => exact ⟨Int.le_refl _, fun h => absurd h (Nat.not_lt_zero _)⟩
    | succ k ih =>
      have := hA k
      simp only [trZ]
      refine ⟨by omega, fun h => ?_⟩
      by_cases e : r = k
      · subst e; omega
      · have := ih.2 (by omega); omega
  exact (key k).2 hk
theorem pwZ_ex {N : Nat} {M : Nat → Nat → Int} (k : Nat) : ∀ i j, i < N → pwZ N M k i j ≠ 0 → ∃ f : Nat → Nat, f 0 = i ∧ f k = j ∧ ∀ t, t < k → f t < N ∧ M (f t) (f (t + 1)) ≠ 0 := by
  induction k with
  | zero =>
    intro i j hi h
    have : i = j := by
      by_cases e : i = j
      · exact e
      · simp [pwZ, unitM, e] at h
    exact ⟨fun _ => i, rfl, this, fun t ht => absurd ht (Nat.not_lt_zero _)⟩
  | succ k ih =>
    intro i j hi h
    obtain ⟨r, hr, h1, h2⟩ := dotZ_ex h
    obtain ⟨f, f0, fk, hf⟩ := ih i r hi h1
    refine ⟨fun t => if t = k + 1 then j else f t, by simp [f0], by simp, fun t ht => ?_⟩
    have e1 : (if t = k + 1 then j else f t) = f t := if_neg (by omega)
    simp only
    rw [e1]
    by_cases e : t = k
    · subst e
      rw [if_pos rfl, fk]
      exact ⟨hr, h2⟩
    · rw [if_neg (by omega)]
      exact hf t (by omega)
theorem pwZ_pos {N : Nat} {M : Nat → Nat → Int} (hN : N ≤ 20) (hM : ∀ i j, M i j = 0 ∨ M i j = 1) (f : Nat → Nat) (k : Nat) : (∀ t, t < k → f t < N ∧ M (f t) (f (t + 1)) ≠ 0) → 1 ≤ pwZ N M k (f 0) (f k) := by
  induction k with
  | zero => intro _; simp [pwZ, unitM]
  | succ k ih =>
    intro h
    have h1 := ih (fun t ht => h t (by omega))
    have h2 := h k (by omega)
    exact dotZ_pos (fun r => (pwZ_bd hN hM k (f 0) r).1) (fun r => hM r _) h1 h2.2 h2.1
theorem edgeM_step {ds : List (Int × Int)} {x y : Nat} : edgeM ds x y ≠ 0 ↔ (x < ds.length ∧ y < ds.length ∧ (ds.getD x (0, 0)).2 = (ds.getD y (0, 0)).1 ∧ (y : Int) ≠ rv (x : Int)) := by
  unfold edgeM stepQ
  have e : (decide (0 ≤ (x : Int) ∧ (x : Int) < (ds.length : Int) ∧ 0 ≤ (y : Int) ∧ (y : Int) < (ds.length : Int)) && ((ds.getD (x : Int).toNat (0, 0)).2 == (ds.getD (y : Int).toNat (0, 0)).1 && (y : Int) != rv (x : Int))) = true ↔ (x < ds.length ∧ y < ds.length ∧ (ds.getD x (0, 0)).2 = (ds.getD y (0, 0)).1 ∧ (y : Int) ≠ rv (x : Int)) := by
    simp only [Bool.and_eq_true, decide_eq_true_eq, beq_iff_eq, bne_iff_ne, Int.toNat_natCast]
    constructor
    · rintro ⟨h1, h2, h3⟩; exact ⟨by omega, by omega, h2, h3⟩
    · rintro ⟨h1, h2, h3, h4⟩; exact ⟨by omega, h3, h4⟩
  by_cases h : (decide (0 ≤ (x : Int) ∧ (x : Int) < (ds.length : Int) ∧ 0 ≤ (y : Int) ∧ (y : Int) < (ds.length : Int)) && ((ds.getD (x : Int).toNat (0, 0)).2 == (ds.getD (y : Int).toNat (0, 0)).1 && (y : Int) != rv (x : Int))) = true
  · rw [if_pos h]; exact ⟨fun _ => e.1 h, fun _ => by decide⟩
  · rw [if_neg h]; exact ⟨fun h' => absurd rfl h', fun h' => absurd (e.2 h') h⟩
/-- a start met twice makes a closed walk -/
theorem clN_again {ds : List (Int × Int)} {N : Nat} (hN : N ≤ 20) (hd : ds.length = N)
    (hrv : ∀ x y : Nat, x < N → y < N → (x : Int) = rv (y : Int) → (y : Int) = rv (x : Int) ∧ (ds.getD y (0, 0)).1 = (ds.getD x (0, 0)).2 ∧ y ≠ x)
    (f : Nat → Nat) (K : Nat) (hf : ∀ t, t < K → f t < N ∧ edgeM ds (f t) (f (t + 1)) ≠ 0) (d : Nat) :
    ∀ a, 1 ≤ d → a + d ≤ K → (ds.getD (f a) (0, 0)).1 = (ds.getD (f (a + d)) (0, 0)).1 → ∃ q, 1 ≤ q ∧ q ≤ d ∧ 1 ≤ clN N (edgeM ds) q := by
  induction d using Nat.strongRecOn with
  | ind d ih =>
    intro a h1 h2 he
    obtain ⟨e, rfl⟩ : ∃ e, d = e + 1 := ⟨d - 1, by omega⟩
    have hla := hf (a + e) (by omega)
    have hs := edgeM_step.1 hla.2
    by_cases hr : ((f a : Nat) : Int) = rv (f (a + e) : Int)
    · obtain ⟨g1, g2, g3⟩ := hrv (f a) (f (a + e)) (hf a (by omega)).1 hla.1 hr
      cases e with
      | zero => exact absurd rfl g3
      | succ e =>
        have hfa := edgeM_step.1 (hf a (by omega)).2
        cases e with
        | zero => exact absurd g1 hfa.2.2.2
        | succ e =>
          have hst : (ds.getD (f (a + 1)) (0, 0)).1 = (ds.getD (f (a + 1 + (e + 1))) (0, 0)).1 := by
            rw [← hfa.2.2.1, ← g2]
            congr 3
            omega
          obtain ⟨q, q1, q2, q3⟩ := ih (e + 1) (by omega) (a + 1) (by omega) (by omega) hst
          exact ⟨q, q1, by omega, q3⟩
    · refine ⟨e + 1, by omega, Nat.le_refl _, ?_⟩
      have hcl : edgeM ds (f (a + e)) (f a) ≠ 0 := edgeM_step.2 ⟨by rw [hd]; exact hla.1, by rw [hd]; exact (hf a (by omega)).1, by rw [hs.2.2.1, he]; rfl, hr⟩
      have hp := pwZ_pos hN (edgeM_01 ds) (fun t => if t = e + 1 then f a else f (a + t)) (e + 1) (fun t ht => by
        have e1 : (if t = e + 1 then f a else f (a + t)) = f (a + t) := if_neg (by omega)
        have h3 := hf (a + t) (by omega)
        show (if t = e + 1 then f a else f (a + t)) < N ∧ edgeM ds (if t = e + 1 then f a else f (a + t)) (if t + 1 = e + 1 then f a else f (a + (t + 1))) ≠ 0
        rw [e1]
        by_cases e2 : t = e
        · subst e2
          rw [if_pos rfl]
          exact ⟨h3.1, hcl⟩
        · rw [if_neg (by omega)]
          exact h3)
      have h0 : (if 0 = e + 1 then f a else f (a + 0)) = f a := if_neg (by omega)
      have h9 : (if e + 1 = e + 1 then f a else f (a + (e + 1))) = f a := if_pos rfl
      simp only [h0, h9] at hp
      exact trZ_pos (fun i => (pwZ_bd hN (edgeM_01 ds) (e + 1) i i).1) hp (hf a (by omega)).1
/-- no closed walk up to the number of vertices: none at all -/
theorem clN_none {ds : List (Int × Int)} {N : Nat} (hN : N ≤ 20) (hd : ds.length = N)
    (hrv : ∀ x y : Nat, x < N → y < N → (x : Int) = rv (y : Int) → (y : Int) = rv (x : Int) ∧ (ds.getD y (0, 0)).1 = (ds.getD x (0, 0)).2 ∧ y ≠ x)
    (S : Nat) (hst : ∀ x, x < N → 0 ≤ (ds.getD x (0, 0)).1 ∧ (ds.getD x (0, 0)).1 < (S : Int))
    (h : ∀ q, 1 ≤ q → q ≤ S → ¬ 1 ≤ clN N (edgeM ds) q) (k : Nat) (hk : 1 ≤ k) : clN N (edgeM ds) k = 0 := by
  by_cases hkS : k ≤ S
  · have h1 := h k hk hkS
    have h2 := (trZ_bd (pwZ_bd hN (edgeM_01 ds) k) N).1
    unfold clN at h1 ⊢
    omega
  · by_cases hz : clN N (edgeM ds) k = 0
    · exact hz
    · obtain ⟨i, hi, hne⟩ := trZ_ex hz
      obtain ⟨f, f0, fk, hf⟩ := pwZ_ex k i i hi hne
      have hb : ∀ t, t ≤ S → f t < N := fun t ht => (hf t (by omega)).1
      obtain ⟨a, b, hab, hbS, he⟩ := pig S (fun t => (ds.getD (f t) (0, 0)).1.toNat) (fun t ht => by
        have := hst (f t) (hb t ht)
        show (ds.getD (f t) (0, 0)).1.toNat < S
        omega)
      have hea := hst (f a) (hb a (by omega))
      have heb := hst (f b) (hb b hbS)
      have he' : (ds.getD (f a) (0, 0)).1 = (ds.getD (f b) (0, 0)).1 := by
        have : (ds.getD (f a) (0, 0)).1.toNat = (ds.getD (f b) (0, 0)).1.toNat := he
        omega
      obtain ⟨q, q1, q2, q3⟩ := clN_again hN hd hrv f k hf (b - a) a (by omega) (by omega) (by rw [show a + (b - a) = b by omega]; exact he')
      exact absurd q3 (h q q1 (by omega))
/-- the same of a graph -/
theorem clN_graph {s : Int} {xss : List (List Int)} (hg : grB s xss = true) (h : ∀ q : Nat, 1 ≤ q → (q : Int) ≤ s → ¬ 1 ≤ clN (2 * xss.length) (edgeM (dirE (pairs xss))) q) (k : Nat) (hk : 1 ≤ k) : clN (2 * xss.length) (edgeM (dirE (pairs xss))) k = 0 := by
  have hg4 := grB_iff hg
  have hl : (dirE (pairs xss)).length = 2 * xss.length := by rw [dirE_len, pairs_len]
  refine clN_none (by omega) hl ?_ s.toNat (fun x hx => ?_) (fun q q1 q2 => h q q1 (by omega)) k hk
  · intro x y hx hy hxy
    rw [rv_is _ (by omega) (by omega)] at hxy
    rw [rv_is _ (by omega) (by omega)]
    refine ⟨by omega, ?_, by omega⟩
    obtain ⟨q, hq⟩ : ∃ q, x = 2 * q ∨ x = 2 * q + 1 := ⟨x / 2, by omega⟩
    rcases hq with rfl | rfl
    · obtain rfl : y = 2 * q + 1 := by omega
      rw [dirE_even, dirE_odd _ _ (by rw [pairs_len]; omega)]
    · obtain rfl : y = 2 * q := by omega
      rw [dirE_even, dirE_odd _ _ (by rw [pairs_len]; omega)]
  · have := (dirE_in hg (m := x) (by rw [hl]; exact hx)).1
    omega

end Go.Proofs.Ytgcidkcedfliiaa
