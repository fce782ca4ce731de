/- The rows of twice the size of VertexFactor and BartholdiFactor: their numbers fit. -/
import Derived.Test.YtolipjemabmlkaaChP
set_option linter.unusedSimpArgs false
set_option linter.unusedVariables false
set_option maxRecDepth 100000
namespace Go.Proofs.Ytolipjemabmlkaa
open Go.RowKit

/-- the rows A, d above the rows I, 0 -/
def vfM (A : Nat → Nat → Int) (d : Nat → Int) (n : Nat) : Nat → Nat → Int := fun i j =>
  if i < n then (if j < n then A i j else if j = n + i then d i else 0) else (if j + n = i then 1 else 0)

theorem wtL_app (v : Rw) : ∀ xs ys, wtL v (xs ++ ys) = wtL v xs + wtL v ys
  | [], ys => by simp [wtL]
  | c :: cs, ys => by
    show wt v c + wtL v (cs ++ ys) = wt v c + wtL v cs + wtL v ys
    rw [wtL_app v cs ys]; omega
theorem wtP_app (cs : List Nat) : ∀ R S, wtP cs (R ++ S) = wtP cs R * wtP cs S
  | [], S => by simp [wtP]
  | v :: vs, S => by
    show wtL v cs * wtP cs (vs ++ S) = wtL v cs * wtP cs vs * wtP cs S
    rw [wtP_app cs vs S, Nat.mul_assoc]
theorem wtL_nrm (M : Nat → Nat → Int) (N i : Nat) : ∀ m, m ≤ N → wtL (rowM M N i) (List.range m) ≤ nrm m (M i) + (if i < m then 1 else 0)
  | 0, _ => Nat.zero_le _
  | m + 1, h => by
    have h1 := wtL_nrm M N i m (by omega)
    rw [List.range_succ, wtL_app]
    have h3 : m < N := h
    have h2 : wtL (rowM M N i) [m] = (if m = i then 1 else 0) + (M i m).natAbs := by
      simp only [wtL, wt, rowM, h3, if_true]
      by_cases e : m = i
      · subst e; simp
      · have e' : ¬ i = m := fun x => e x.symm
        simp [e, e']
    rw [h2]
    show _ ≤ nrm m (M i) + (M i m).natAbs + _
    by_cases e : m = i
    · subst e
      simp only [if_true, Nat.lt_irrefl, if_false, Nat.lt_succ_self] at h1 ⊢
      omega
    · simp only [e, if_false] at h1 ⊢
      by_cases e2 : i < m
      · rw [if_pos e2] at h1; rw [if_pos (by omega)]; omega
      · rw [if_neg e2] at h1; rw [if_neg (by omega)]; omega
theorem nrm_congr {f g : Nat → Int} : ∀ n, (∀ k, k < n → f k = g k) → nrm n f = nrm n g
  | 0, _ => rfl
  | n + 1, h => by
    show nrm n f + (f n).natAbs = nrm n g + (g n).natAbs
    rw [nrm_congr n (fun k hk => h k (by omega)), h n (Nat.lt_succ_self n)]
theorem vf_top (A : Nat → Nat → Int) (d : Nat → Int) (n i : Nat) (hi : i < n) : ∀ q, nrm (n + q) (vfM A d n i) ≤ nrm n (A i) + (if i < q then (d i).natAbs else 0)
  | 0 => by
    rw [Nat.add_zero, nrm_congr n (f := vfM A d n i) (g := A i) (fun k hk => by unfold vfM; rw [if_pos hi, if_pos hk])]
    omega
  | q + 1 => by
    have h1 := vf_top A d n i hi q
    show nrm (n + q) (vfM A d n i) + (vfM A d n i (n + q)).natAbs ≤ _
    have h2 : vfM A d n i (n + q) = if q = i then d i else 0 := by
      unfold vfM
      rw [if_pos hi, if_neg (by omega)]
      by_cases e : q = i
      · rw [if_pos (by omega), if_pos e]
      · rw [if_neg (by omega), if_neg e]
    rw [h2]
    by_cases e : q = i
    · subst e
      rw [if_neg (Nat.lt_irrefl q)] at h1
      rw [if_pos rfl, if_pos (Nat.lt_succ_self q)]
      omega
    · rw [if_neg e]
      by_cases e2 : i < q
      · rw [if_pos e2] at h1; rw [if_pos (by omega)]; simpa using h1
      · rw [if_neg e2] at h1; rw [if_neg (by omega)]; simpa using h1
theorem vf_low (A : Nat → Nat → Int) (d : Nat → Int) (n i : Nat) (hi : n ≤ i) : ∀ m, nrm m (vfM A d n i) ≤ (if i < m + n then 1 else 0)
  | 0 => Nat.zero_le _
  | m + 1 => by
    have h1 := vf_low A d n i hi m
    show nrm m (vfM A d n i) + (vfM A d n i m).natAbs ≤ _
    have h2 : vfM A d n i m = if m + n = i then 1 else 0 := by
      unfold vfM
      rw [if_neg (by omega)]
    rw [h2]
    by_cases e : m + n = i
    · rw [if_neg (by omega)] at h1
      rw [if_pos e, if_pos (by omega)]
      simpa using h1
    · rw [if_neg e]
      by_cases e2 : i < m + n
      · rw [if_pos e2] at h1; rw [if_pos (by omega)]; simpa using h1
      · rw [if_neg e2] at h1; rw [if_neg (by omega)]; simpa using h1
theorem vf_fits (A : Nat → Nat → Int) (d : Nat → Int) (n : Nat) (hn : n ≤ 8) (hA : ∀ i, i < n → nrm n (A i) ≤ 20) (hd : ∀ i, i < n → (d i).natAbs ≤ 20) : fits (vfM A d n) (2 * n) := by
  apply fits_of
  have e : RM (vfM A d n) (2 * n) = (List.range n).map (rowM (vfM A d n) (2 * n)) ++ ((List.range n).map (n + ·)).map (rowM (vfM A d n) (2 * n)) := by
    unfold RM
    rw [show 2 * n = n + n by omega, List.range_add, List.map_append]
  rw [e, wtP_app]
  have h1 : wtP (List.range (2 * n)) ((List.range n).map (rowM (vfM A d n) (2 * n))) ≤ 41 ^ n := by
    have := wtP_le (List.range (2 * n)) 41 ((List.range n).map (rowM (vfM A d n) (2 * n))) (fun v hv => by
      obtain ⟨i, hi, rfl⟩ := List.mem_map.mp hv
      have hi' : i < n := by simpa using hi
      have g1 := wtL_nrm (vfM A d n) (2 * n) i (2 * n) (Nat.le_refl _)
      have g2 := vf_top A d n i hi' n
      rw [if_pos hi', show n + n = 2 * n by omega] at g2
      rw [if_pos (by omega)] at g1
      have g3 := hA i hi'
      have g4 := hd i hi'
      omega)
    simpa using this
  have h2 : wtP (List.range (2 * n)) (((List.range n).map (n + ·)).map (rowM (vfM A d n) (2 * n))) ≤ 2 ^ n := by
    have := wtP_le (List.range (2 * n)) 2 (((List.range n).map (n + ·)).map (rowM (vfM A d n) (2 * n))) (fun v hv => by
      obtain ⟨i, hi, rfl⟩ := List.mem_map.mp hv
      obtain ⟨i', hi', rfl⟩ := List.mem_map.mp hi
      have hi2 : i' < n := by simpa using hi'
      have g1 := wtL_nrm (vfM A d n) (2 * n) (n + i') (2 * n) (Nat.le_refl _)
      have g2 := vf_low A d n (n + i') (by omega) (2 * n)
      rw [if_pos (by omega)] at g1 g2
      omega)
    simpa using this
  have h3 : (41 : Nat) ^ n ≤ 41 ^ 8 := Nat.pow_le_pow_right (by omega) hn
  have h4 : (2 : Nat) ^ n ≤ 2 ^ 8 := Nat.pow_le_pow_right (by omega) hn
  have h5 := Nat.mul_le_mul (Nat.le_trans h1 h3) (Nat.le_trans h2 h4)
  have h6 : (41 ^ 8 * 2 ^ 8 * 17 : Nat) ≤ 9223372036854775807 := by decide
  exact Nat.le_trans (Nat.mul_le_mul h5 (by omega : 2 * n + 1 ≤ 17)) h6

/- the sums of the adjacency rows -/
theorem ind_nrm (x a b : Int) : ∀ m, nrm m (fun j => if x = a ∧ (j : Int) = b then -1 else 0) ≤ (if 0 ≤ b ∧ b < m then 1 else 0)
  | 0 => Nat.zero_le _
  | m + 1 => by
    have h1 := ind_nrm x a b m
    show nrm m _ + (if x = a ∧ (m : Int) = b then -1 else 0 : Int).natAbs ≤ _
    by_cases e : x = a ∧ (m : Int) = b
    · rw [if_pos e, if_pos (by omega)]
      rw [if_neg (by omega)] at h1
      have : (-1 : Int).natAbs = 1 := rfl
      omega
    · rw [if_neg e]
      have : (0 : Int).natAbs = 0 := rfl
      by_cases e2 : 0 ≤ b ∧ b < (m : Int)
      · rw [if_pos e2] at h1; rw [if_pos (by omega)]; omega
      · rw [if_neg e2] at h1
        split <;> omega
theorem upd_nrm {p : Int → Int → Int} {B : Int} (h : ∀ x y, 0 ≤ p x y ∧ p x y ≤ B) (hB : B ≤ 1000) (a b x : Int) (n : Nat) : nrm n (fun j => upd p a b x j) ≤ nrm n (fun j => p x j) + 1 := by
  have e : nrm n (fun j => upd p a b x j) = nrm n (fun j => p x j - (if x = a ∧ (j : Int) = b then -1 else 0)) := nrm_congr n fun k hk => by
    unfold upd
    by_cases e : x = a ∧ (k : Int) = b
    · rw [if_pos e, if_pos e]
      have h1 := h a b
      rw [wrap_of (by unfold I64; omega), e.1, e.2]; omega
    · rw [if_neg e, if_neg e]; omega
  rw [e]
  have h1 := nrm_sub n (fun j => p x j) (fun j => if x = a ∧ (j : Int) = b then -1 else 0)
  have h2 := ind_nrm x a b n
  have h3 : (if 0 ≤ b ∧ b < (n : Int) then 1 else 0 : Nat) ≤ 1 := by split <;> omega
  omega
theorem adS_nrm (es : List (Int × Int)) (x : Int) (n : Nat) : ∀ q, q ≤ 100 → nrm n (fun j => adS es q x j) ≤ 2 * q
  | 0, _ => by
    have : nrm n (fun j : Nat => adS es 0 x j) = nrm n (fun _ => 0) := rfl
    rw [this, nrm_zero]; omega
  | q + 1, h => by
    have h0 := adS_nrm es x n q (by omega)
    have hb := adS_bd es q (by omega)
    have h1 := upd_nrm hb (by omega) (es.getD q (0, 0)).1 (es.getD q (0, 0)).2 x n
    have h2 := upd_nrm (upd_bd hb (by omega) (es.getD q (0, 0)).1 (es.getD q (0, 0)).2) (by omega) (es.getD q (0, 0)).2 (es.getD q (0, 0)).1 x n
    show nrm n (fun j => upd (upd (adS es q) _ _) _ _ x j) ≤ _
    omega
theorem adF_nrm {s : Int} {xss : List (List Int)} (hg : grB s xss = true) (i n : Nat) : nrm n (adF xss i) ≤ 20 := by
  have hs := grB_iff hg
  have := adS_nrm (pairs xss) i n xss.length (by omega)
  have e : nrm n (adF xss i) = nrm n (fun j => adS (pairs xss) xss.length i j) := rfl
  omega
end Go.Proofs.Ytolipjemabmlkaa
