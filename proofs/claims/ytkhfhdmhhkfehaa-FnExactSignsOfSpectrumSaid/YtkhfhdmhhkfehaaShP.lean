/- Shifted polynomials: Horner's numbers and those of the divisions by x - c are one; plain mathematics. -/
import Derived.Test.YtkhfhdmhhkfehaaRoots
set_option linter.unusedSimpArgs false
set_option linter.unusedVariables false
namespace Go.Proofs.Ytkhfhdmhhkfehaa
open Go.RowKit

/-- the numbers of the polynomial of the last d numbers, at x + c -/
def hQ (xs : List Int) (c : Int) (L : Nat) : Nat → Nat → Int
  | 0, _ => 0
  | d + 1, 0 => c * hQ xs c L d 0 + xs.getD (L - 1 - d) 0
  | d + 1, j + 1 => c * hQ xs c L d (j + 1) + hQ xs c L d j
theorem hQ_deg (xs : List Int) (c : Int) (L : Nat) : ∀ d j, d ≤ j → hQ xs c L d j = 0
  | 0, j, _ => by cases j <;> rfl
  | d + 1, 0, h => by omega
  | d + 1, j + 1, h => by
    show c * hQ xs c L d (j + 1) + hQ xs c L d j = 0
    rw [hQ_deg xs c L d (j + 1) (by omega), hQ_deg xs c L d j (by omega), Int.mul_zero]; rfl
/-- the numbers that the division of the level j starts from -/
def elv (xs : List Int) (c : Int) (L j i : Nat) : Int := if j = 0 then xs.getD i 0 else hQ xs c L (L - 1 - i) (j - 1)
theorem hQ_s (xs : List Int) (c : Int) (L j d : Nat) (h : j + d < L) : hQ xs c L (j + d + 1) j = c * hQ xs c L (j + d) j + elv xs c L j (L - j - 1 - d) := by
  unfold elv
  match j with
  | 0 =>
    rw [if_pos rfl]
    have e : L - 0 - 1 - d = L - 1 - (0 + d) := by omega
    rw [e]; rfl
  | j + 1 =>
    rw [if_neg (by omega)]
    have e : L - 1 - (L - (j + 1) - 1 - d) = j + 1 + d := by omega
    rw [e]; rfl
theorem hs_cg (xs : List Int) (c : Int) (L j : Nat) (ys : List Int) (hj : j < L) (h : ∀ i, i < L - j → cg (ys.getD i 0) (elv xs c L j i)) : ∀ d, d < L - j → cg (hs ys c (L - j) d) (hQ xs c L (j + d + 1) j)
  | 0, _ => by
    rw [hQ_s xs c L j 0 (by omega), hQ_deg xs c L (j + 0) j (by omega), Int.mul_zero, Int.zero_add]
    exact h (L - j - 1) (by omega)
  | d + 1, hd => by
    rw [hQ_s xs c L j (d + 1) (by omega), Int.add_comm (c * _)]
    have h1 := hs_cg xs c L j ys hj h d (by omega)
    have h2 := h (L - j - 2 - d) (by omega)
    have e : L - j - 1 - (d + 1) = L - j - 2 - d := by omega
    rw [e]
    exact cg_w (cg_add h2 (cg_w (cg_mul (cg_refl c) h1)))
theorem qk_cg (xs : List Int) (c : Int) (L : Nat) : ∀ j, j ≤ L → ∀ i, i < L - j → cg ((qk xs c L j).getD i 0) (elv xs c L j i)
  | 0, _, i, _ => cg_refl _
  | j + 1, hj, i, hi => by
    have h1 := hs_cg xs c L j (qk xs c L j) (by omega) (qk_cg xs c L j (by omega)) (L - j - 2 - i) (by omega)
    have e1 : (qk xs c L (j + 1)).getD i 0 = hs (qk xs c L j) c (L - j) (L - j - 2 - i) := by
      show (quo (qk xs c L j) c (L - j)).getD i 0 = _
      simp [quo, List.getD, show i < L - j - 1 by omega]
    rw [e1]
    have e2 : elv xs c L (j + 1) i = hQ xs c L (j + (L - j - 2 - i) + 1) j := by
      unfold elv
      rw [if_neg (by omega)]
      have e3 : L - 1 - i = j + (L - j - 2 - i) + 1 := by omega
      rw [e3]; rfl
    rw [e2]; exact h1
theorem qk_I64 {xs : List Int} {c : Int} {L : Nat} (h : ∀ x ∈ xs, I64 x) : ∀ j, ∀ x ∈ qk xs c L j, I64 x
  | 0 => h
  | j + 1 => quo_I64 (qk_I64 h j)
theorem rk_hQ {xs : List Int} {c : Int} {L j : Nat} (hI : ∀ x ∈ xs, I64 x) (hj : j < L) : rk xs c L j = wrap64 (hQ xs c L L j) := by
  have h1 := hs_cg xs c L j (qk xs c L j) hj (qk_cg xs c L j (by omega)) (L - j - 1) (by omega)
  have e : j + (L - j - 1) + 1 = L := by omega
  rw [e] at h1
  exact cg_eq (cg_trans h1 (by obtain ⟨t, ht⟩ := cg_wrap (hQ xs c L L j); exact ⟨-t, by omega⟩)) (hs_I64 (qk_I64 hI j) _) (wrap_I64 _)
theorem hQ_top (xs : List Int) (c : Int) (L : Nat) : ∀ d, d < L → hQ xs c L (d + 1) d = xs.getD (L - 1) 0
  | 0, h => by
    show c * hQ xs c L 0 0 + xs.getD (L - 1 - 0) 0 = _
    rw [hQ_deg xs c L 0 0 (by omega), Int.mul_zero, Int.zero_add]; rfl
  | d + 1, h => by
    show c * hQ xs c L (d + 1) (d + 1) + hQ xs c L (d + 1) d = _
    rw [hQ_deg xs c L (d + 1) (d + 1) (by omega), Int.mul_zero, Int.zero_add]
    exact hQ_top xs c L d (by omega)

theorem chK_congr {f g : Nat → Int} : ∀ n, (∀ k, k < n → f k = g k) → chK f n = chK g n
  | 0, _ => rfl
  | n + 1, h => by
    show chS (chK f n) (f n) = chS (chK g n) (g n)
    rw [chK_congr n (fun k hk => h k (by omega)), h n (by omega)]
theorem chK_skip {f : Nat → Int} {n : Nat} : ∀ d, (∀ k, n ≤ k → f k = 0) → chK f (n + d) = chK f n
  | 0, _ => rfl
  | d + 1, h => by
    show chS (chK f (n + d)) (f (n + d)) = _
    rw [h (n + d) (by omega), chK_skip d h]
    unfold chS; rw [if_pos rfl]
/-- the model's changes -/
def cmK (f : Nat → Int) : Nat → Int × Int
  | 0 => (0, 0)
  | k + 1 => if f k = 0 then cmK f k else (if (cmK f k).2 ≠ 0 ∧ ((0 < f k) ≠ (0 < (cmK f k).2)) then (cmK f k).1 + 1 else (cmK f k).1, f k)
theorem cmK_chK (f : Nat → Int) : ∀ n, (chK f n).1 = (cmK f n).1 ∧ (chK f n).2 = cmpI (cmK f n).2 0
  | 0 => ⟨rfl, rfl⟩
  | n + 1 => by
    obtain ⟨h1, h2⟩ := cmK_chK f n
    unfold chK cmK chS
    by_cases h0 : f n = 0
    · rw [if_pos h0, if_pos h0]; exact ⟨h1, h2⟩
    · rw [if_neg h0, if_neg h0, h2]
      refine ⟨?_, rfl⟩
      simp only []
      rw [h1]
      have : (cmpI (f n) 0 = -cmpI (cmK f n).2 0) ↔ ((cmK f n).2 ≠ 0 ∧ ((0 < f n) ≠ (0 < (cmK f n).2))) := by
        generalize (cmK f n).2 = l
        unfold cmpI
        by_cases a1 : f n < 0
        · have a2 : ¬ 0 < f n := by omega
          rw [if_pos a1]
          by_cases b1 : l < 0
          · rw [if_pos b1]; simp [a2, show ¬ 0 < l by omega]
          · rw [if_neg b1]
            by_cases b2 : 0 < l
            · rw [if_pos b2]; simp [a2, b2]; omega
            · rw [if_neg b2]; simp; omega
        · have a2 : 0 < f n := by omega
          rw [if_neg a1, if_pos a2]
          by_cases b1 : l < 0
          · rw [if_pos b1]; simp [a2, show ¬ 0 < l by omega]; omega
          · rw [if_neg b1]
            by_cases b2 : 0 < l
            · rw [if_pos b2]; simp [a2, b2]
            · rw [if_neg b2]; simp; omega
      by_cases hc : cmpI (f n) 0 = -cmpI (cmK f n).2 0
      · rw [if_pos hc, if_pos (this.mp hc)]
      · rw [if_neg hc, if_neg (fun h => hc (this.mpr h))]

/-- the model's products and sums, as they are reckoned -/
def acW (f g : List Int) (p : Nat) : Nat → Int
  | 0 => 0
  | i + 1 => if i ≤ p ∧ p - i < g.length then wrap64 (acW f g p i + wrap64 (f.getD i 0 * g.getD (p - i) 0)) else acW f g p i
theorem acW_I64 (f g : List Int) (p : Nat) : ∀ i, I64 (acW f g p i)
  | 0 => I64_zero
  | i + 1 => by unfold acW; split; (· exact wrap_I64 _); exact acW_I64 f g p i
def mT (f g : List Int) (N i j : Nat) : List Int := (List.range N).map (fun p => if i ≤ p ∧ p - i < j then acW f g p (i + 1) else acW f g p i)
theorem mT_len (f g : List Int) (N i j : Nat) : (mT f g N i j).length = N := by simp [mT]
theorem mT_get {f g : List Int} {N i j p : Nat} (h : p < N) : (mT f g N i j).getD p 0 = if i ≤ p ∧ p - i < j then acW f g p (i + 1) else acW f g p i := by simp [mT, List.getD, h]
theorem mT_zero (f g : List Int) (N : Nat) : (madeCells #[Value.int .i64 0] N).toList = (mT f g N 0 0).map (Value.int .i64) := by
  rw [toList_madeCells_one]
  apply List.ext_getElem
  · simp [mT]
  · intro q h1 h2
    simp [mT, acW]
theorem mT_next (f g : List Int) (N i : Nat) : mT f g N i g.length = mT f g N (i + 1) 0 := by
  unfold mT
  refine List.map_congr_left fun p hp => ?_
  rw [if_neg (by omega : ¬ (i + 1 ≤ p ∧ p - (i + 1) < 0))]
  by_cases h : i ≤ p ∧ p - i < g.length
  · rw [if_pos h]
  · rw [if_neg h]; conv => rhs; unfold acW
    rw [if_neg h]
theorem mT_set (f g : List Int) (N i j : Nat) (hj : j < g.length) (hp : i + j < N) : ((mT f g N i j).map (Value.int .i64)).set (i + j) (.int .i64 (wrap64 (acW f g (i + j) i + wrap64 (f.getD i 0 * g.getD j 0)))) = (mT f g N i (j + 1)).map (Value.int .i64) := by
  apply List.ext_getElem
  · simp [mT]
  · intro q h1 h2
    have hq : q < N := by simpa [mT] using h2
    rw [List.getElem_set]
    by_cases e : i + j = q
    · subst e
      rw [if_pos rfl]
      simp only [mT, List.getElem_map, List.getElem_range]
      rw [if_pos (by omega)]
      conv => rhs; unfold acW
      rw [if_pos ⟨by omega, by omega⟩]
      have e2 : i + j - i = j := by omega
      rw [e2]
    · rw [if_neg e]
      simp only [mT, List.map_map, List.getElem_map, List.getElem_range, Function.comp]
      have : (i ≤ q ∧ q - i < j) ↔ (i ≤ q ∧ q - i < j + 1) := by omega
      simp only [this]
theorem mT_at {f g : List Int} {N i j : Nat} (hp : i + j < N) : (mT f g N i j).getD (i + j) 0 = acW f g (i + j) i := by
  rw [mT_get hp, if_neg (by omega)]
/-- a sum on the way: the first q numbers of g, times k, are added -/
def aT (f g : List Int) (k : Int) (N q : Nat) : List Int := (List.range N).map (fun i => if i < q then wrap64 (f.getD i 0 + wrap64 (k * g.getD i 0)) else f.getD i 0)
def cT (f : List Int) (N q : Nat) : List Int := (List.range N).map (fun i => if i < q then f.getD i 0 else 0)
theorem aT_len (f g : List Int) (k : Int) (N q : Nat) : (aT f g k N q).length = N := by simp [aT]
theorem cT_len (f : List Int) (N q : Nat) : (cT f N q).length = N := by simp [cT]
theorem aT_get {f g : List Int} {k : Int} {N q i : Nat} (h : i < N) : (aT f g k N q).getD i 0 = if i < q then wrap64 (f.getD i 0 + wrap64 (k * g.getD i 0)) else f.getD i 0 := by simp [aT, List.getD, h]
theorem cT_get {f : List Int} {N q i : Nat} (h : i < N) : (cT f N q).getD i 0 = if i < q then f.getD i 0 else 0 := by simp [cT, List.getD, h]
theorem cT_zero (f : List Int) (N : Nat) : (madeCells #[Value.int .i64 0] N).toList = (cT f N 0).map (Value.int .i64) := by
  rw [toList_madeCells_one]
  apply List.ext_getElem
  · simp [cT]
  · intro q h1 h2
    simp [cT]
theorem cT_set (f : List Int) (N q : Nat) : ((cT f N q).map (Value.int .i64)).set q (.int .i64 (f.getD q 0)) = (cT f N (q + 1)).map (Value.int .i64) := by
  apply List.ext_getElem
  · simp [cT]
  · intro i h1 h2
    rw [List.getElem_set]
    by_cases e : q = i
    · subst e; simp [cT]
    · rw [if_neg e]
      simp only [cT, List.map_map, List.getElem_map, List.getElem_range, Function.comp]
      have : (i < q) ↔ (i < q + 1) := by omega
      simp only [this]
theorem cT_all (f g : List Int) (k : Int) (N : Nat) : cT f N f.length = aT f g k N 0 := by
  unfold cT aT
  refine List.map_congr_left fun i hi => ?_
  rw [if_neg (by omega : ¬ i < 0)]
  by_cases h : i < f.length
  · rw [if_pos h]
  · rw [if_neg h]
    simp [List.getD, List.getElem?_eq_none (Nat.le_of_not_lt h)]
theorem aT_set (f g : List Int) (k : Int) (N q : Nat) : ((aT f g k N q).map (Value.int .i64)).set q (.int .i64 (wrap64 (f.getD q 0 + wrap64 (k * g.getD q 0)))) = (aT f g k N (q + 1)).map (Value.int .i64) := by
  apply List.ext_getElem
  · simp [aT]
  · intro i h1 h2
    rw [List.getElem_set]
    by_cases e : q = i
    · subst e; simp [aT]
    · rw [if_neg e]
      simp only [aT, List.map_map, List.getElem_map, List.getElem_range, Function.comp]
      have : (i < q) ↔ (i < q + 1) := by omega
      simp only [this]
end Go.Proofs.Ytkhfhdmhhkfehaa
