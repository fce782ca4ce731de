/- The invariant of an elimination (of whole numbers: q = 0, or modulo a prime q). Plain mathematics. -/
import Derived.Test.YtnblhkhdilkbeaaBd
set_option linter.unusedSimpArgs false
set_option linter.unusedVariables false
namespace Go.Proofs.Ytnblhkhdilkbeaa

structure BaH (q : Int) (P : (Nat → Nat → Int) → Prop) (N : Nat) : Prop where
  sw : ∀ R a b, a < b → b < N → P R → P (swn R a b)
  bd : ∀ R, P R → ∀ k i j, k ≤ i → i < N → j < N → -1073741824 ≤ mn R k (R i) j % q ∧ mn R k (R i) j % q ≤ 1073741824
  rg : ∀ x, x % q ≠ 0 → reg q x
structure BaI (q : Int) (P : (Nat → Nat → Int) → Prop) (f0 : Nat → Nat → Int) (N k : Nat) (F R : Nat → Nat → Int) : Prop where
  hP : P R
  same : ∀ cs, dt (tp R N) cs = dt (tp f0 N) cs
  row : ∀ i j, k ≤ i → i < N → j < N → F i j = mn R k (R i) j % q
  lim : ∀ i j, i < N → j < N → -1073741824 ≤ F i j ∧ F i j ≤ 1073741824
  rg : reg q (pv R k)
theorem mn_0 (R : Nat → Nat → Int) (v : Nat → Int) (j : Nat) : mn R 0 v j = v j := by
  simp [mn, tp, dt, pkZ]
theorem reg_1 (q : Int) : reg q 1 := fun x h => by simpa using h
theorem ba_start {q : Int} {P : (Nat → Nat → Int) → Prop} {N : Nat} {f0 : Nat → Nat → Int} (h : P f0) (hf : ∀ i j, i < N → j < N → f0 i j % q = f0 i j) (hb : ∀ i j, i < N → j < N → -1073741824 ≤ f0 i j ∧ f0 i j ≤ 1073741824) : BaI q P f0 N 0 f0 f0 :=
  ⟨h, fun _ => rfl, fun i j _ hi hj => by rw [mn_0, hf i j hi hj], hb, by rw [pv_0]; exact reg_1 q⟩
theorem emod_neg_emod (q x : Int) : (-(x % q)) % q = (-x) % q := by
  rw [← cq_iff]
  have := cq_sub (cq_refl q 0) (cq_emod q x)
  simpa using this
theorem ba_bring {q : Int} {P : (Nat → Nat → Int) → Prop} {N k : Nat} {f0 F R F1 : Nat → Nat → Int} (H : BaH q P N) (h : BaI q P f0 N k F R) (hk : k < N)
    (hc : (F1 = F ∧ (F k k ≠ 0 ∨ ∀ i, k ≤ i → i < N → F i k = 0)) ∨ ∃ b, k < b ∧ b < N ∧ F b k ≠ 0 ∧ F1 = ngF (fun x => (-x) % q) (swp F k b) k N) :
    ∃ R1, BaI q P f0 N k F1 R1 ∧ (F1 k k ≠ 0 ∨ ∀ i, k ≤ i → i < N → F1 i k = 0) ∧ pv R1 k = pv R k := by
  rcases hc with ⟨rfl, h1⟩ | ⟨b, h1, h2, h3, rfl⟩
  · exact ⟨R, h, h1, rfl⟩
  · have hrow : ∀ i j, k ≤ i → i < N → j < N → ngF (fun x => (-x) % q) (swp F k b) k N i j = mn (swn R k b) k (swn R k b i) j % q := by
      intro i j hi hi2 hj
      rw [swn_mn R k b h1]
      unfold ngF swp swn
      by_cases e1 : i = k
      · subst e1
        rw [if_pos ⟨rfl, hj⟩, if_pos rfl, if_pos rfl, mn_neg, h.row b j (by omega) h2 hj]; exact emod_neg_emod q _
      · rw [if_neg (fun e => e1 e.1), if_neg e1, if_neg e1]
        by_cases e2 : i = b
        · rw [if_pos e2, if_pos e2, h.row k j (Nat.le_refl _) hk hj]
        · rw [if_neg e2, if_neg e2, h.row i j hi hi2 hj]
    have hPs := H.sw R k b h1 h2 h.hP
    refine ⟨swn R k b, ⟨hPs, fun cs => by rw [swn_dt R k b N h1 h2, h.same], hrow, ?_, by rw [swn_pv R k b h1]; exact h.rg⟩, .inl ?_, swn_pv R k b h1⟩
    · intro i j hi hj
      by_cases hik : k ≤ i
      · rw [hrow i j hik hi hj]; exact H.bd _ hPs k i j hik hi hj
      · have : ngF (fun x => (-x) % q) (swp F k b) k N i j = F i j := by
          unfold ngF swp
          rw [if_neg (fun e => by omega), if_neg (by omega), if_neg (by omega)]
        rw [this]; exact h.lim i j hi hj
    · have : ngF (fun x => (-x) % q) (swp F k b) k N k k = (-(F b k)) % q := by
        unfold ngF swp; rw [if_pos ⟨rfl, hk⟩, if_pos rfl]
      rw [this]
      intro e
      apply h3
      have e2 : F b k % q = F b k := by rw [h.row b k (by omega) h2 hk, Int.emod_emod]
      rw [← e2, ← Int.dvd_iff_emod_eq_zero]
      exact Int.dvd_neg.1 (Int.dvd_of_emod_eq_zero e)
def baQ (q : Int) (F R : Nat → Nat → Int) (k : Nat) : Nat → Nat → Int := fun i j => if F k k = 0 then 0 else mn R (k + 1) (R i) j % q
theorem ba_quo {q : Int} {P : (Nat → Nat → Int) → Prop} {N k : Nat} {f0 F R : Nat → Nat → Int} (H : BaH q P N) (h : BaI q P f0 N k F R) (hk : k < N) (hz : F k k ≠ 0 ∨ ∀ i, k ≤ i → i < N → F i k = 0) (i j : Nat) (hi : k < i) (hi2 : i < N) (hj : j < N) :
    cq q (F i j * F k k - F i k * F k j) (pv R k * baQ q F R k i j) ∧ -1073741824 ≤ baQ q F R k i j ∧ baQ q F R k i j ≤ 1073741824 ∧ baQ q F R k i j % q = baQ q F R k i j := by
  unfold baQ
  by_cases e : F k k = 0
  · rw [if_pos e]
    rcases hz with h1 | h1
    · exact absurd e h1
    · rw [e, h1 i (by omega) hi2]
      simp
      exact cq_refl q 0
  · rw [if_neg e]
    have hne : pv R (k + 1) ≠ 0 := by
      intro e2
      apply e
      rw [h.row k k (Nat.le_refl _) hk hk, ← pv_s, e2]; simp
    refine ⟨?_, (H.bd R h.hP (k + 1) i j hi hi2 hj).1, (H.bd R h.hP (k + 1) i j hi hi2 hj).2, by rw [Int.emod_emod]⟩
    have hs := syl R k j (R i) hne
    rw [h.row i j (by omega) hi2 hj, h.row k k (Nat.le_refl _) hk hk, h.row i k (by omega) hi2 hk, h.row k j (Nat.le_refl _) hk hj, ← pv_s]
    refine cq_trans (cq_sub (cq_mul (cq_emod q _) (cq_emod q _)) (cq_mul (cq_emod q _) (cq_emod q _))) ?_
    rw [← hs]
    exact cq_mul (cq_refl q _) (cq_symm (cq_emod q _))
theorem ba_next {q : Int} {P : (Nat → Nat → Int) → Prop} {N k : Nat} {f0 F R : Nat → Nat → Int} (H : BaH q P N) (h : BaI q P f0 N k F R) (hk : k < N) (hz : F k k ≠ 0) :
    BaI q P f0 N (k + 1) (cleB F (baQ q F R k) k N N 0) R ∧ F k k = pv R (k + 1) % q ∧ cleB F (baQ q F R k) k N N 0 k k = F k k := by
  have e : F k k = pv R (k + 1) % q := by rw [h.row k k (Nat.le_refl _) hk hk, ← pv_s]
  refine ⟨⟨h.hP, h.same, ?_, ?_, H.rg _ (by rw [← e]; exact hz)⟩, e, cleB_top _ _ _ _ _ _ _⟩
  · intro i j hi hi2 hj
    unfold cleB
    rw [if_pos ⟨by omega, .inl hi2, hj⟩]
    unfold baQ
    rw [if_neg hz]
  · intro i j hi hj
    unfold cleB
    by_cases h1 : k < i
    · rw [if_pos ⟨h1, .inl hi, hj⟩]
      have := ba_quo H h hk (.inl hz) i j h1 hi hj
      exact ⟨this.2.1, this.2.2.1⟩
    · rw [if_neg (fun e => h1 e.1)]; exact h.lim i j hi hj
theorem ba_zero {q : Int} {P : (Nat → Nat → Int) → Prop} {N k : Nat} {f0 F R : Nat → Nat → Int} (h : BaI q P f0 N k F R) (hk : k < N) (hz : ∀ i, k ≤ i → i < N → F i k = 0) : dt (tp f0 N) (List.range N) % q = 0 := by
  obtain ⟨m, hm⟩ : ∃ m, N = k + 1 + m := ⟨N - (k + 1), by omega⟩
  rw [← h.same]
  apply Int.emod_eq_zero_of_dvd
  have := no_pivot q R k m h.rg (fun i hi hi2 => by rw [← h.row i k hi (by omega) hk]; exact hz i hi (by omega))
  rw [← hm] at this
  exact this
theorem ba_end {q : Int} {P : (Nat → Nat → Int) → Prop} {N : Nat} {f0 F R : Nat → Nat → Int} (h : BaI q P f0 N N F R) : pv R N = dt (tp f0 N) (List.range N) := h.same _
end Go.Proofs.Ytnblhkhdilkbeaa
