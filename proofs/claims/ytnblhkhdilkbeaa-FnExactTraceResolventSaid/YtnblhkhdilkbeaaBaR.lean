/- The last number of det (1 - uA) is the determinant of A, up to the sign; bounds by rows. -/
import Derived.Test.YtnblhkhdilkbeaaBaP
import Derived.Test.YtnblhkhdilkbeaaDetA
set_option linter.unusedSimpArgs false
set_option linter.unusedVariables false
namespace Go.Proofs.Ytnblhkhdilkbeaa


theorem pick_top (v : Rw) (m : Nat) (cs : List Nat) : ∀ (F : List Nat → Nat → Int) (G : List Nat → Int), (∀ x, F x (m + 1) = 0 ∧ F x m = G x) → pick v F cs (m + 1) = pkZ (fun c => (v c).2) G cs := by
  induction cs with
  | nil => intro F G _; rfl
  | cons c cs ih =>
    intro F G h
    simp only [pick, pkZ, lin]
    rw [(h cs).1, (h cs).2, ih (fun x => F (c :: x)) (fun x => G (c :: x)) (fun x => h (c :: x))]
    omega
theorem det_top (R : List Rw) : ∀ cs, det R cs R.length = dt (R.map (fun v c => (v c).2)) cs := by
  induction R with
  | nil => intro cs; simp [det, dt]
  | cons v vs ih => intro cs; exact pick_top v vs.length cs (det vs) _ (fun x => ⟨det_deg vs x _ (by omega), ih x⟩)
theorem dt_congr (f g : Nat → Nat → Int) (is cs : List Nat) (h : ∀ i, i ∈ is → ∀ c, c ∈ cs → f i c = g i c) : dt (is.map f) cs = dt (is.map g) cs := by
  have := dt_cq 0 f g is cs (fun i hi c hc => by rw [h i hi c hc]; exact cq_refl 0 _)
  unfold cq at this
  have := Int.zero_dvd.1 this
  omega
def sgN : Nat → Int
  | 0 => 1
  | n + 1 => - sgN n
theorem dt_negs (f : Nat → Nat → Int) (is : List Nat) : ∀ cs, dt (is.map (fun i c => - f i c)) cs = sgN is.length * dt (is.map f) cs := by
  induction is with
  | nil => intro cs; simp [dt, sgN]
  | cons i is ih =>
    intro cs
    show pkZ (fun c => - f i c) (dt (is.map (fun i c => - f i c))) cs = sgN (is.length + 1) * pkZ (f i) (dt (is.map f)) cs
    have e : dt (is.map (fun i c => - f i c)) = fun x => sgN is.length * dt (is.map f) x := funext ih
    have e2 : (fun c => - f i c) = fun c => (-1) * f i c := by funext c; omega
    rw [e, e2, pkZ_scale, pkZ_mul]
    simp only [sgN, Int.neg_mul]
    omega
theorem dk_top (A : Nat → Nat → Int) (n : Nat) : dk A n n = sgN n * dt (tp A n) (List.range n) := by
  unfold dk
  have h := det_top (RM A n) (List.range n)
  rw [RM_len] at h
  rw [h]
  have e : (RM A n).map (fun v c => (v c).2) = (List.range n).map (fun i c => (rowM A n i c).2) := by unfold RM; rw [List.map_map]; rfl
  rw [e, dt_congr (fun i c => (rowM A n i c).2) (fun i c => - A i c) (List.range n) (List.range n), dt_negs]
  · simp [tp]
  · intro i hi c hc
    have : c < n := by simpa using hc
    simp [rowM, this]

/- bounds -/
def nL (v : Nat → Int) : List Nat → Nat
  | [] => 0
  | c :: cs => (v c).natAbs + nL v cs
theorem nL_sub (v : Nat → Int) {xs cs : List Nat} (h : xs.Sublist cs) : nL v xs ≤ nL v cs := by
  induction h with
  | slnil => exact Nat.le_refl _
  | cons c _ ih => simp only [nL]; omega
  | cons_cons c _ ih => simp only [nL]; omega
theorem pkZ_nL (B : Nat) (v : Nat → Int) (cs : List Nat) : ∀ F : List Nat → Int, (∀ xs, xs.Sublist cs → (F xs).natAbs ≤ B) → (pkZ v F cs).natAbs ≤ nL v cs * B := by
  induction cs with
  | nil => intro F h; simp [pkZ]
  | cons c cs ih =>
    intro F h
    have h3 := ih (fun x => F (c :: x)) (fun xs hx => h (c :: xs) (hx.cons_cons c))
    have h4 : (v c * F cs).natAbs ≤ (v c).natAbs * B := by rw [Int.natAbs_mul]; exact Nat.mul_le_mul_left _ (h cs (List.sublist_cons_self c cs))
    simp only [pkZ, nL, Nat.add_mul]
    omega
def nP (cs : List Nat) : List (Nat → Int) → Nat
  | [] => 1
  | v :: vs => nL v cs * nP cs vs
theorem dt_nP (cs : List Nat) (vs : List (Nat → Int)) : ∀ xs, xs.Sublist cs → (dt vs xs).natAbs ≤ nP cs vs := by
  induction vs with
  | nil => intro xs _; simp only [dt, nP]; split <;> simp
  | cons v vs ih =>
    intro xs hx
    have h1 := pkZ_nL (nP cs vs) v xs (dt vs) (fun ys hy => ih ys (hy.trans hx))
    have h2 : nL v xs * nP cs vs ≤ nL v cs * nP cs vs := Nat.mul_le_mul_right _ (nL_sub v hx)
    show (pkZ v (dt vs) xs).natAbs ≤ nL v cs * nP cs vs
    omega
theorem nP_app (cs : List Nat) (us vs : List (Nat → Int)) : nP cs (us ++ vs) = nP cs us * nP cs vs := by
  induction us with
  | nil => simp [nP]
  | cons u us ih => simp only [List.cons_append, nP, ih, Nat.mul_assoc]
theorem sqle4 (x : Nat) : x * x ≤ 4 * 2 ^ x := by
  induction x with
  | zero => decide
  | succ x ih =>
    match x, ih with
    | 0, _ => decide
    | 1, _ => decide
    | 2, _ => decide
    | x + 3, ih =>
      rw [Nat.pow_succ]
      have : (x + 3 + 1) * (x + 3 + 1) = (x + 3) * (x + 3) + 2 * (x + 3) + 1 := by simp only [Nat.add_mul, Nat.mul_add]; omega
      rw [this]
      have h2 : 2 * (x + 3) + 1 ≤ (x + 3) * (x + 3) := by
        have h3 : 3 * (x + 3) ≤ (x + 3) * (x + 3) := Nat.mul_le_mul_right _ (by omega)
        omega
      omega
def sN : Nat → (Nat → Nat) → Nat
  | 0, _ => 0
  | n + 1, f => sN n f + f n
theorem nP_sum (cs : List Nat) (R : Nat → Nat → Int) (n : Nat) : nP cs (tp R n) * nP cs (tp R n) ≤ 4 ^ n * 2 ^ sN n (fun i => nL (R i) cs) := by
  induction n with
  | zero => simp [tp, nP, sN]
  | succ n ih =>
    rw [tp_s, nP_app]
    have e : nP cs [R n] = nL (R n) cs := by simp [nP]
    rw [e]
    obtain ⟨P, hP⟩ : ∃ P, P = nP cs (tp R n) := ⟨_, rfl⟩
    obtain ⟨x, hx⟩ : ∃ x, x = nL (R n) cs := ⟨_, rfl⟩
    rw [← hP] at ih
    simp only [sN]
    rw [← hP, ← hx]
    have h1 := Nat.mul_le_mul ih (sqle4 x)
    have e1 : P * x * (P * x) = P * P * (x * x) := by rw [Nat.mul_mul_mul_comm]
    have e2 : 4 ^ (n + 1) * 2 ^ (sN n (fun i => nL (R i) cs) + x) = 4 ^ n * 2 ^ sN n (fun i => nL (R i) cs) * (4 * 2 ^ x) := by
      rw [Nat.pow_succ, Nat.pow_add, Nat.mul_mul_mul_comm]
    rw [e1, e2]; exact h1
theorem lt_of_sq {P : Nat} (h : P * P ≤ 2 ^ 60) : P ≤ 2 ^ 30 := by
  rcases Nat.lt_or_ge (2 ^ 30) P with h1 | h1
  · have h2 := Nat.mul_le_mul (Nat.le_of_lt h1) (Nat.le_of_lt h1)
    have h3 : (2 ^ 30 + 1) * (2 ^ 30 + 1) ≤ P * P := Nat.mul_le_mul h1 h1
    have e : (2 ^ 30 + 1) * (2 ^ 30 + 1) = 2 ^ 60 + 2 * 2 ^ 30 + 1 := by decide
    omega
  · exact h1

end Go.Proofs.Ytnblhkhdilkbeaa
