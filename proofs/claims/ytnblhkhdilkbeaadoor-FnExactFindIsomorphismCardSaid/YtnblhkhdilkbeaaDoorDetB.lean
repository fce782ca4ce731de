/- Two ways to a determinant's numbers, as they are reckoned: Faddeev's and LeVerrier's, and Berkowitz'; both lead to it where its numbers fit. -/
import Derived.Test.YtnblhkhdilkbeaaDoorDetA
import Derived.Test.YtnblhkhdilkbeaaDoorCoreG
set_option linter.unusedSimpArgs false
set_option linter.unusedVariables false
namespace Go.Proofs.YtnblhkhdilkbeaaDoor
open Go.RowKit

theorem cg_wrap (x : Int) : cg (wrap64 x) x := ⟨(wrap64 x - x) / 18446744073709551616, by unfold wrap64; omega⟩
theorem cg_w {x y : Int} (h : cg x y) : cg (wrap64 x) y := cg_trans (cg_wrap x) h
theorem cg_eq {x y : Int} (h : cg x y) (hx : I64 x) (hy : I64 y) : x = y := by
  obtain ⟨t, h⟩ := h
  unfold I64 at hx hy
  omega
theorem dotW_cg {u v u' v' : Nat → Int} {n : Nat} (h : ∀ i, i < n → cg (u i) (u' i) ∧ cg (v i) (v' i)) : cg (dotW u v n) (tot n (fun i => u' i * v' i)) := by
  induction n with
  | zero => exact cg_refl 0
  | succ n ih => exact cg_w (cg_add (ih fun i hi => h i (by omega)) (cg_w (cg_mul (h n (by omega)).1 (h n (by omega)).2)))
theorem trW_cg {A B : Nat → Nat → Int} {n : Nat} (h : ∀ i, i < n → cg (A i i) (B i i)) : cg (trW A n) (tot n (fun i => B i i)) := by
  induction n with
  | zero => exact cg_refl 0
  | succ n ih => exact cg_w (cg_add (ih fun i hi => h i (by omega)) (h n (by omega)))

/- the program: Faddeev and LeVerrier -/
def addD (S : Nat → Nat → Int) (c : Int) : Nat → Nat → Int := fun i j => if i = j then wrap64 (S i j + c) else S i j
def flP (n : Nat) (A : Nat → Nat → Int) : Nat → (Nat → Nat → Int) × Int
  | 0 => (zeros, 1)
  | k + 1 => (mulM n A (addD (flP n A k).1 (flP n A k).2), (wrap64 (- trW (mulM n A (addD (flP n A k).1 (flP n A k).2)) n)).tdiv ((k : Int) + 1))
/-- the numbers, and their traces on the way, fit -/
def fits (A : Nat → Nat → Int) (n : Nat) : Prop := ∀ k, k ≤ n → (dk A n k).natAbs * (n + 1) ≤ 9223372036854775807
theorem fits_I64 {A : Nat → Nat → Int} {n k : Nat} (h : fits A n) (hk : k ≤ n) : I64 (dk A n k) := by
  have := h k hk
  have h2 : (dk A n k).natAbs * 1 ≤ (dk A n k).natAbs * (n + 1) := Nat.mul_le_mul_left _ (by omega)
  unfold I64
  omega

theorem flP_dk (n : Nat) (A : Nat → Nat → Int) (h : fits A n) : ∀ k, k ≤ n → (flP n A k).2 = dk A n k ∧ ∀ i j, i < n → j < n → cg ((flP n A k).1 i j) (adj A n i j k - if i = j then dk A n k else 0) := by
  intro k
  induction k with
  | zero =>
    intro _
    refine ⟨(dk_0 A n).symm, fun i j hi hj => ?_⟩
    rw [adj_0 A n i j hi hj]
    have : (if i = j then dk A n 0 else 0) - (if i = j then dk A n 0 else 0) = 0 := by omega
    rw [this]
    exact cg_refl 0
  | succ k ih =>
    intro hk
    obtain ⟨h1, h2⟩ := ih (by omega)
    have hS : ∀ i j, i < n → j < n → cg (addD (flP n A k).1 (flP n A k).2 i j) (adj A n i j k) := by
      intro i j hi hj
      have h3 := h2 i j hi hj
      unfold addD
      by_cases e : i = j
      · rw [if_pos e]
        rw [if_pos e] at h3
        have h4 := cg_w (cg_add h3 (cg_refl (flP n A k).2))
        rw [h1] at h4 ⊢
        have : adj A n i j k - dk A n k + dk A n k = adj A n i j k := by omega
        rw [this] at h4
        exact h4
      · rw [if_neg e]
        rw [if_neg e, Int.sub_zero] at h3
        exact h3
    have hM : ∀ i j, i < n → j < n → cg (mulM n A (addD (flP n A k).1 (flP n A k).2) i j) (tot n (fun q => A i q * adj A n q j k)) := fun i j hi hj =>
      dotW_cg (fun q hq => ⟨cg_refl _, hS q j hq hj⟩)
    refine ⟨?_, fun i j hi hj => ?_⟩
    · have ht := trW_cg (n := n) (A := mulM n A (addD (flP n A k).1 (flP n A k).2)) (B := fun i j => tot n (fun q => A i q * adj A n q j k)) (fun i hi => hM i i hi hi)
      have hth := dk_theta A n k
      have hb := h (k + 1) hk
      have hb2 : (((k : Int) + 1) * dk A n (k + 1)).natAbs ≤ 9223372036854775807 := by
        rw [Int.natAbs_mul, Nat.mul_comm]
        have : ((k : Int) + 1).natAbs ≤ n + 1 := by omega
        exact Nat.le_trans (Nat.mul_le_mul_left _ this) hb
      show (wrap64 (- trW (mulM n A (addD (flP n A k).1 (flP n A k).2)) n)).tdiv ((k : Int) + 1) = dk A n (k + 1)
      have e1 : trW (mulM n A (addD (flP n A k).1 (flP n A k).2)) n = - (((k : Int) + 1) * dk A n (k + 1)) := by
        apply cg_eq ?_ (trW_I64 _ _)
        · unfold I64; omega
        · rw [hth, Int.neg_neg]
          exact ht
      rw [e1, Int.neg_neg, wrap_of (by unfold I64; omega)]
      exact Int.mul_tdiv_cancel_left _ (by omega)
    · have h3 := hM i j hi hj
      have h4 := adj_s A n i j k hi hj
      have h5 : adj A n i j (k + 1) - (if i = j then dk A n (k + 1) else 0) = tot n (fun q => A i q * adj A n q j k) := by omega
      rw [h5]
      exact h3

/- the model: Berkowitz -/
def gdot (xs ys : List Int) : Nat → Int
  | 0 => 0
  | i + 1 => wrap64 (gdot xs ys i + wrap64 (ys.getD i 0 * xs.getD i 0))
theorem gdot_I64 (xs ys : List Int) (k : Nat) : I64 (gdot xs ys k) := by
  cases k with
  | zero => exact I64_zero
  | succ k => exact wrap_I64 _
theorem gdot_cg {xs ys : List Int} {u v : Nat → Int} {n : Nat} (h : ∀ i, i < n → cg (ys.getD i 0) (u i) ∧ cg (xs.getD i 0) (v i)) : cg (gdot xs ys n) (tot n (fun i => u i * v i)) := by
  induction n with
  | zero => exact cg_refl 0
  | succ n ih => exact cg_w (cg_add (ih fun i hi => h i (by omega)) (cg_w (cg_mul (h n (by omega)).1 (h n (by omega)).2)))
def rowB (N : Nat) (f : Nat → Nat → Int) (i : Nat) : List Int := (List.range N).map (f i)
theorem rowB_get {N : Nat} {f : Nat → Nat → Int} {i j : Nat} (h : j < N) : (rowB N f i).getD j 0 = f i j := by simp [rowB, List.getD, h]
def mulB (N : Nat) (f : Nat → Nat → Int) (xs : List Int) (L : Nat) : List Int := (List.range L).map (fun i => gdot xs (rowB N f i) L)
theorem mulB_len (N : Nat) (f : Nat → Nat → Int) (xs : List Int) (L : Nat) : (mulB N f xs L).length = L := by simp [mulB]
theorem mulB_get {N : Nat} {f : Nat → Nat → Int} {xs : List Int} {L i : Nat} (h : i < L) : (mulB N f xs L).getD i 0 = gdot xs (rowB N f i) L := by simp [mulB, List.getD, h]
def colB (N : Nat) (f : Nat → Nat → Int) (r : Nat) : Nat → List Int
  | 0 => (List.range r).map (fun i => f i r)
  | k + 1 => mulB N f (colB N f r k) r
theorem colB_len (N : Nat) (f : Nat → Nat → Int) (r : Nat) : ∀ k, (colB N f r k).length = r
  | 0 => by simp [colB]
  | k + 1 => mulB_len _ _ _ _
def growB (N : Nat) (f : Nat → Nat → Int) (r : Nat) : Nat → List Int
  | 0 => [1, wrap64 (- f r r)]
  | k + 1 => growB N f r k ++ [wrap64 (- gdot (colB N f r k) (rowB N f r) r)]
theorem growB_len (N : Nat) (f : Nat → Nat → Int) (r : Nat) : ∀ k, (growB N f r k).length = 2 + k
  | 0 => rfl
  | k + 1 => by rw [growB, List.length_append, growB_len N f r k]; rfl
def bkC (xs ys : List Int) (t : Nat) : Nat → Int
  | 0 => 0
  | i + 1 => if i ≤ t ∧ t - i < ys.length then wrap64 (bkC xs ys t i + wrap64 (ys.getD (t - i) 0 * xs.getD i 0)) else bkC xs ys t i
theorem bkC_I64 (xs ys : List Int) (t : Nat) : ∀ i, I64 (bkC xs ys t i)
  | 0 => I64_zero
  | i + 1 => by unfold bkC; split; (· exact wrap_I64 _); exact bkC_I64 xs ys t i
def nowB (N : Nat) (f : Nat → Nat → Int) : Nat → List Int
  | 0 => [1]
  | r + 1 => (List.range (r + 2)).map (fun t => bkC (nowB N f r) (growB N f r r) t (r + 1))
theorem nowB_len (N : Nat) (f : Nat → Nat → Int) : ∀ r, (nowB N f r).length = r + 1
  | 0 => rfl
  | r + 1 => by simp [nowB]
theorem nowB_get {N : Nat} {f : Nat → Nat → Int} {r t : Nat} (h : t < r + 2) : (nowB N f (r + 1)).getD t 0 = bkC (nowB N f r) (growB N f r r) t (r + 1) := by
  simp [nowB, List.getD, h]
theorem nowB_I64 (N : Nat) (f : Nat → Nat → Int) : ∀ r t, t < r + 1 → I64 ((nowB N f r).getD t 0)
  | 0, t, ht => by
    obtain rfl : t = 0 := by omega
    show I64 1
    unfold I64; omega
  | r + 1, t, ht => by rw [nowB_get (by omega)]; exact bkC_I64 _ _ _ _

theorem colB_cg (N : Nat) (f : Nat → Nat → Int) (r : Nat) (hr : r ≤ N) : ∀ k i, i < r → cg ((colB N f r k).getD i 0) (pwE f r k i) := by
  intro k
  induction k with
  | zero =>
    intro i hi
    have : (colB N f r 0).getD i 0 = f i r := by simp [colB, List.getD, hi]
    rw [this]; exact cg_refl _
  | succ k ih =>
    intro i hi
    show cg ((mulB N f (colB N f r k) r).getD i 0) _
    rw [mulB_get hi]
    exact gdot_cg (fun j hj => ⟨by rw [rowB_get (by omega)]; exact cg_refl _, ih j hj⟩)
theorem growB_cg (N : Nat) (f : Nat → Nat → Int) (r : Nat) (hr : r < N) : ∀ k j, j < 2 + k → cg ((growB N f r k).getD j 0) (grE f r j) := by
  intro k
  induction k with
  | zero =>
    intro j hj
    have : j = 0 ∨ j = 1 := by omega
    rcases this with rfl | rfl
    · exact cg_refl 1
    · exact cg_wrap _
  | succ k ih =>
    intro j hj
    by_cases h : j < 2 + k
    · have : (growB N f r (k + 1)).getD j 0 = (growB N f r k).getD j 0 := by
        show (growB N f r k ++ [wrap64 (- gdot (colB N f r k) (rowB N f r) r)]).getD j 0 = _
        rw [List.getD_eq_getElem?_getD, List.getD_eq_getElem?_getD, List.getElem?_append_left (by rw [growB_len]; exact h)]
      rw [this]; exact ih j h
    · obtain rfl : j = k + 2 := by omega
      have : (growB N f r (k + 1)).getD (k + 2) 0 = wrap64 (- gdot (colB N f r k) (rowB N f r) r) := by
        show (growB N f r k ++ [wrap64 (- gdot (colB N f r k) (rowB N f r) r)]).getD (k + 2) 0 = _
        rw [List.getD_eq_getElem?_getD, List.getElem?_append_right (by rw [growB_len]; omega), growB_len]
        have : k + 2 - (2 + k) = 0 := by omega
        rw [this]; rfl
      rw [this]
      exact cg_w (cg_neg (gdot_cg (fun i hi => ⟨by rw [rowB_get (by omega)]; exact cg_refl _, colB_cg N f r (by omega) k i hi⟩)))
theorem bkC_cg {xs ys : List Int} {g d : Nat → Int} {t m : Nat} (hy : ∀ j, j < ys.length → cg (ys.getD j 0) (g j)) (hm : ∀ i, i < m → cg (xs.getD i 0) (d i)) (ht : t < ys.length) :
    ∀ k, k ≤ m → k ≤ t + 1 → cg (bkC xs ys t k) (tot k (fun i => g (t - i) * d i)) := by
  intro k
  induction k with
  | zero => intro _ _; exact cg_refl 0
  | succ k ih =>
    intro h1 h2
    unfold bkC
    rw [if_pos ⟨by omega, by omega⟩]
    exact cg_w (cg_add (ih (by omega) (by omega)) (cg_w (cg_mul (hy _ (by omega)) (hm k (by omega)))))
theorem bkC_ge {xs ys : List Int} {t : Nat} : ∀ d, bkC xs ys t (t + 1 + d) = bkC xs ys t (t + 1)
  | 0 => rfl
  | d + 1 => by
    rw [show t + 1 + (d + 1) = (t + 1 + d) + 1 by omega]
    conv => lhs; unfold bkC
    rw [if_neg (by omega)]
    exact bkC_ge d
theorem nowB_cg (N : Nat) (f : Nat → Nat → Int) : ∀ r, r ≤ N → ∀ t, t < r + 1 → cg ((nowB N f r).getD t 0) (dk f r t)
  | 0, _, t, ht => by
    obtain rfl : t = 0 := by omega
    rw [dk_0]; exact cg_refl 1
  | r + 1, hr, t, ht => by
    rw [nowB_get (by omega), dk_s]
    have hy : ∀ j, j < (growB N f r r).length → cg ((growB N f r r).getD j 0) (grE f r j) := fun j hj => growB_cg N f r (by omega) r j (by rw [growB_len] at hj; exact hj)
    have hx : ∀ i, i < r + 1 → cg ((nowB N f r).getD i 0) (dk f r i) := fun i hi => nowB_cg N f r (by omega) i hi
    by_cases h : t < r + 1
    · have h1 := bkC_cg hy hx (t := t) (by rw [growB_len]; omega) (t + 1) (by omega) (by omega)
      have h2 : r + 1 = t + 1 + (r - t) := by omega
      rw [h2, bkC_ge]
      rw [← h2] at *
      exact h1
    · obtain rfl : t = r + 1 := by omega
      have h1 := bkC_cg hy hx (t := r + 1) (by rw [growB_len]; omega) (r + 1) (by omega) (by omega)
      have h3 : tot (r + 1 + 1) (fun j => grE f r (r + 1 - j) * dk f r j) = tot (r + 1) (fun j => grE f r (r + 1 - j) * dk f r j) := by
        show tot (r + 1) (fun j => grE f r (r + 1 - j) * dk f r j) + grE f r (r + 1 - (r + 1)) * dk f r (r + 1) = _
        rw [dk_deg f r (r + 1) (by omega)]
        omega
      rw [h3]; exact h1
theorem nowB_dk (N : Nat) (f : Nat → Nat → Int) (h : fits f N) : nowB N f N = (List.range (N + 1)).map (dk f N) := by
  apply List.ext_getElem
  · rw [nowB_len]; simp
  · intro t h1 h2
    have ht : t < N + 1 := by rw [nowB_len] at h1; exact h1
    have e : (nowB N f N)[t] = (nowB N f N).getD t 0 := by simp [List.getD, List.getElem?_eq_getElem h1]
    rw [e]
    simp only [List.getElem_map, List.getElem_range]
    exact cg_eq (nowB_cg N f N (Nat.le_refl _) t ht) (nowB_I64 N f N t ht) (fits_I64 h (by omega))

/- bounds -/
theorem fits_of (A : Nat → Nat → Int) (n : Nat) (h : wtP (List.range n) (RM A n) * (n + 1) ≤ 9223372036854775807) : fits A n := by
  intro k hk
  have h1 := det_nrm (k + 1) (List.range n) (RM A n) (List.range n) (List.Sublist.refl _)
  have h2 := nrm_le (k + 1) k (det (RM A n) (List.range n)) (by omega)
  exact Nat.le_trans (Nat.mul_le_mul_right _ (Nat.le_trans h2 h1)) h
theorem wtP_le (cs : List Nat) (B : Nat) (R : List Rw) (h : ∀ v, v ∈ R → wtL v cs ≤ B) : wtP cs R ≤ B ^ R.length := by
  induction R with
  | nil => exact Nat.le_refl _
  | cons v vs ih =>
    show wtL v cs * wtP cs vs ≤ B ^ (vs.length + 1)
    rw [Nat.pow_succ, Nat.mul_comm]
    exact Nat.mul_le_mul (ih fun u hu => h u (List.mem_cons_of_mem _ hu)) (h v List.mem_cons_self)
theorem wtL_le (v : Rw) (cs : List Nat) (B : Nat) (h : ∀ c, c ∈ cs → wt v c ≤ B) : wtL v cs ≤ B * cs.length := by
  induction cs with
  | nil => exact Nat.zero_le _
  | cons c cs ih =>
    have h1 := ih fun x hx => h x (List.mem_cons_of_mem _ hx)
    have h2 := h c List.mem_cons_self
    simp only [wtL, List.length_cons, Nat.mul_add, Nat.mul_one]
    omega
theorem wtL_row (A : Nat → Nat → Int) (n i : Nat) (cs : List Nat) (B : Nat) (hc : ∀ c, c ∈ cs → c < n) (hn : cs.Nodup) (h : ∀ c, c ∈ cs → (A i c).natAbs ≤ B) : wtL (rowM A n i) cs ≤ B * cs.length + 1 := by
  have key : wtL (rowM A n i) cs ≤ B * cs.length + (if i ∈ cs then 1 else 0) := by
    induction cs with
    | nil => exact Nat.zero_le _
    | cons c cs ih =>
      have hn' := List.nodup_cons.mp hn
      have h1 := ih (fun x hx => hc x (List.mem_cons_of_mem _ hx)) hn'.2 (fun x hx => h x (List.mem_cons_of_mem _ hx))
      have h2 := h c List.mem_cons_self
      have h3 := hc c List.mem_cons_self
      simp only [wtL, wt, rowM, h3, if_true, List.length_cons, Nat.mul_add, Nat.mul_one, List.mem_cons]
      by_cases e : c = i
      · subst e
        rw [if_neg hn'.1] at h1
        simp only [true_or, if_true]
        omega
      · have e' : ¬ i = c := fun x => e x.symm
        simp only [e, e', false_or, if_false]
        omega
  split at key <;> omega
theorem fits_small (A : Nat → Nat → Int) (n : Nat) (hn : n ≤ 8) (h : ∀ i j, i < n → j < n → -20 ≤ A i j ∧ A i j ≤ 20) : fits A n := by
  apply fits_of
  have h1 : wtP (List.range n) (RM A n) ≤ 161 ^ (RM A n).length := by
    apply wtP_le
    intro v hv
    unfold RM at hv
    obtain ⟨i, hi, rfl⟩ := List.mem_map.mp hv
    have hi' : i < n := by simpa using hi
    have := wtL_row A n i (List.range n) 20 (fun c hc => by simpa using hc) List.nodup_range (fun c hc => by
      have := h i c hi' (by simpa using hc)
      omega)
    rw [List.length_range] at this
    omega
  rw [RM_len] at h1
  have h2 : 161 ^ n ≤ 161 ^ 8 := Nat.pow_le_pow_right (by omega) hn
  have h3 : 161 ^ n * (n + 1) ≤ 161 ^ 8 * 9 := Nat.mul_le_mul h2 (by omega)
  have h4 : (161 ^ 8 * 9 : Nat) ≤ 9223372036854775807 := by decide
  exact Nat.le_trans (Nat.mul_le_mul_right _ h1) (Nat.le_trans h3 h4)

end Go.Proofs.YtnblhkhdilkbeaaDoor
