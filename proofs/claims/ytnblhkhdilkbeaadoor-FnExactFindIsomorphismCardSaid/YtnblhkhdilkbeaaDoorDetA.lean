/- Determinants of the unit matrix less u times a table, by their numbers: expansion, cofactors, derivative, bound, one row and column more; plain mathematics. -/
import Derived.Test.YtnblhkhdilkbeaaDoorCoreA
set_option linter.unusedSimpArgs false
set_option linter.unusedVariables false
namespace Go.Proofs.YtnblhkhdilkbeaaDoor

def tot : Nat → (Nat → Int) → Int
  | 0, _ => 0
  | n + 1, f => tot n f + f n

theorem tot_congr {n : Nat} {f g : Nat → Int} (h : ∀ i, i < n → f i = g i) : tot n f = tot n g := by
  induction n with
  | zero => rfl
  | succ n ih => simp only [tot]; rw [ih (fun i hi => h i (by omega)), h n (by omega)]

theorem tot_add (n : Nat) (f g : Nat → Int) : tot n (fun i => f i + g i) = tot n f + tot n g := by
  induction n with
  | zero => rfl
  | succ n ih => simp only [tot, ih]; omega

theorem tot_neg (n : Nat) (f : Nat → Int) : tot n (fun i => - f i) = - tot n f := by
  induction n with
  | zero => rfl
  | succ n ih => simp only [tot, ih]; omega

theorem tot_mul (n : Nat) (a : Int) (f : Nat → Int) : tot n (fun i => a * f i) = a * tot n f := by
  induction n with
  | zero => simp [tot]
  | succ n ih => simp only [tot, ih, Int.mul_add]

theorem tot_mulr (n : Nat) (a : Int) (f : Nat → Int) : tot n (fun i => f i * a) = tot n f * a := by
  induction n with
  | zero => simp [tot]
  | succ n ih => simp only [tot, ih, Int.add_mul]

theorem tot_zero (n : Nat) : tot n (fun _ => 0) = 0 := by
  induction n with
  | zero => rfl
  | succ n ih => simp only [tot, ih]; rfl

theorem tot_head (n : Nat) (f : Nat → Int) : tot (n + 1) f = f 0 + tot n (fun i => f (i + 1)) := by
  induction n with
  | zero => simp [tot]
  | succ n ih => rw [tot, ih]; simp only [tot]; omega

theorem tot_swap (n m : Nat) (f : Nat → Nat → Int) : tot n (fun i => tot m (fun j => f i j)) = tot m (fun j => tot n (fun i => f i j)) := by
  induction n with
  | zero => simp only [tot, tot_zero]
  | succ n ih => simp only [tot, ih, tot_add]

theorem tot_single (n i : Nat) (f : Nat → Int) (hi : i < n) : tot n (fun j => (if j = i then 1 else 0) * f j) = f i := by
  induction n with
  | zero => omega
  | succ n ih =>
    simp only [tot]
    by_cases h : i = n
    · subst h
      have : tot i (fun j => (if j = i then 1 else 0) * f j) = 0 := by
        refine (tot_congr (g := fun _ => 0) ?_).trans (tot_zero i); intro j hj; show (if j = i then (1 : Int) else 0) * f j = 0; rw [if_neg (by omega)]; simp
      simp [this]
    · rw [ih (by omega), if_neg (by omega)]; simp

/- a number p + q u times a list of coefficients -/
def lin (p q : Int) (f : Nat → Int) : Nat → Int
  | 0 => p * f 0
  | k + 1 => p * f (k + 1) + q * f k

theorem lin_zero (p q : Int) (k : Nat) : lin p q (fun _ => 0) k = 0 := by cases k <;> simp [lin]
theorem lin_00 (f : Nat → Int) (k : Nat) : lin 0 0 f k = 0 := by cases k <;> simp [lin]
theorem lin_10 (f : Nat → Int) (k : Nat) : lin 1 0 f k = f k := by cases k <;> simp [lin]
theorem lin_add (p q : Int) (f g : Nat → Int) (k : Nat) : lin p q (fun k => f k + g k) k = lin p q f k + lin p q g k := by
  cases k <;> simp only [lin, Int.mul_add] <;> omega
theorem lin_sub (p q : Int) (f g : Nat → Int) (k : Nat) : lin p q (fun k => f k - g k) k = lin p q f k - lin p q g k := by
  cases k <;> simp only [lin, Int.mul_sub] <;> omega
theorem lin_row (p q p' q' : Int) (f : Nat → Int) (k : Nat) : lin (p + p') (q + q') f k = lin p q f k + lin p' q' f k := by
  cases k <;> simp only [lin, Int.add_mul] <;> omega
theorem lin_comm (p q p' q' : Int) (f : Nat → Int) (k : Nat) : lin p q (lin p' q' f) k = lin p' q' (lin p q f) k := by
  match k with
  | 0 => simp only [lin]; rw [← Int.mul_assoc, ← Int.mul_assoc, Int.mul_comm p p']
  | 1 => simp only [lin, Int.mul_add]; rw [Int.mul_left_comm p p', Int.mul_left_comm p q', Int.mul_left_comm q p']; omega
  | k + 2 => simp only [lin, Int.mul_add]; rw [Int.mul_left_comm p p', Int.mul_left_comm p q', Int.mul_left_comm q p', Int.mul_left_comm q q']; omega

abbrev Rw := Nat → Int × Int

/- one row worked into a form: alternating sum over the columns -/
def pick (v : Rw) (F : List Nat → Nat → Int) : List Nat → Nat → Int
  | [] => fun _ => 0
  | c :: cs => fun k => lin (v c).1 (v c).2 (F cs) k - pick v (fun x => F (c :: x)) cs k

theorem pick_zero (v : Rw) (cs : List Nat) (k : Nat) : pick v (fun _ _ => 0) cs k = 0 := by
  induction cs with
  | nil => rfl
  | cons c cs ih => simp only [pick, lin_zero, ih]; rfl

theorem pick_sub (v : Rw) (cs : List Nat) : ∀ (F G : List Nat → Nat → Int) (k : Nat), pick v (fun x k => F x k - G x k) cs k = pick v F cs k - pick v G cs k := by
  induction cs with
  | nil => intro F G k; rfl
  | cons c cs ih => intro F G k; simp only [pick, lin_sub]; rw [ih (fun x => F (c :: x)) (fun x => G (c :: x))]; omega

theorem pick_add (v : Rw) (cs : List Nat) : ∀ (F G : List Nat → Nat → Int) (k : Nat), pick v (fun x k => F x k + G x k) cs k = pick v F cs k + pick v G cs k := by
  induction cs with
  | nil => intro F G k; rfl
  | cons c cs ih => intro F G k; simp only [pick, lin_add]; rw [ih (fun x => F (c :: x)) (fun x => G (c :: x))]; omega

theorem pick_lin (v : Rw) (p q : Int) (cs : List Nat) : ∀ (F : List Nat → Nat → Int) (k : Nat), pick v (fun x => lin p q (F x)) cs k = lin p q (pick v F cs) k := by
  induction cs with
  | nil => intro F k; simp only [pick, lin_zero]
  | cons c cs ih => intro F k; simp only [pick, lin_sub]; rw [ih (fun x => F (c :: x)), lin_comm]

theorem pick_swap (v w : Rw) (cs : List Nat) : ∀ (F : List Nat → Nat → Int) (k : Nat), pick v (pick w F) cs k + pick w (pick v F) cs k = 0 := by
  induction cs with
  | nil => intro F k; rfl
  | cons c cs ih =>
    intro F k
    have e1 : (fun x => pick w F (c :: x)) = fun x k => lin (w c).1 (w c).2 (F x) k - pick w (fun x => F (c :: x)) x k := rfl
    have e2 : (fun x => pick v F (c :: x)) = fun x k => lin (v c).1 (v c).2 (F x) k - pick v (fun x => F (c :: x)) x k := rfl
    have h1 : pick v (pick w F) (c :: cs) k = lin (v c).1 (v c).2 (pick w F cs) k - pick v (fun x => pick w F (c :: x)) cs k := rfl
    have h2 : pick w (pick v F) (c :: cs) k = lin (w c).1 (w c).2 (pick v F cs) k - pick w (fun x => pick v F (c :: x)) cs k := rfl
    rw [h1, h2, e1, e2, pick_sub, pick_sub]
    have h3 := pick_lin v (w c).1 (w c).2 cs F k
    have h4 := pick_lin w (v c).1 (v c).2 cs F k
    have h5 := ih (fun x => F (c :: x)) k
    have h6 : pick v (fun x => pick w (fun x => F (c :: x)) x) cs k = pick v (pick w (fun x => F (c :: x))) cs k := rfl
    omega

theorem pick_self (v : Rw) (F : List Nat → Nat → Int) (cs : List Nat) (k : Nat) : pick v (pick v F) cs k = 0 := by
  have := pick_swap v v cs F k
  omega

theorem pick_rows (v w : Rw) (cs : List Nat) : ∀ (F : List Nat → Nat → Int) (k : Nat), pick (fun c => ((v c).1 + (w c).1, (v c).2 + (w c).2)) F cs k = pick v F cs k + pick w F cs k := by
  induction cs with
  | nil => intro F k; rfl
  | cons c cs ih => intro F k; simp only [pick, lin_row, ih]; omega

def unitR (j : Nat) : Rw := fun c => (if c = j then 1 else 0, 0)
def atR (j : Nat) (p q : Int) : Rw := fun c => if c = j then (p, q) else (0, 0)

theorem pick_at (j : Nat) (p q : Int) (cs : List Nat) : ∀ (F : List Nat → Nat → Int) (k : Nat), pick (atR j p q) F cs k = lin p q (pick (unitR j) F cs) k := by
  induction cs with
  | nil => intro F k; simp only [pick, lin_zero]
  | cons c cs ih =>
    intro F k
    simp only [pick, lin_sub, ih]
    by_cases h : c = j
    · simp only [atR, unitR, h, if_true, if_pos]
      have : lin 1 0 (F cs) = F cs := funext (fun k => lin_10 _ k)
      rw [this]
    · simp only [atR, unitR, h, if_false, if_neg, not_false_eq_true]
      have : lin 0 0 (F cs) = fun _ => 0 := funext (fun k => lin_00 _ k)
      rw [this, lin_zero]

theorem pick_zrow (v : Rw) (cs : List Nat) (h : ∀ c, c ∈ cs → v c = (0, 0)) : ∀ (F : List Nat → Nat → Int) (k : Nat), pick v F cs k = 0 := by
  induction cs with
  | nil => intro F k; rfl
  | cons c cs ih =>
    intro F k
    simp only [pick]
    rw [ih (fun x hx => h x (List.mem_cons_of_mem _ hx)), h c List.mem_cons_self]
    simp only [lin_00]; rfl

/- the determinant of a list of rows at a list of columns -/
def det : List Rw → List Nat → Nat → Int
  | [] => fun cs k => if cs = [] ∧ k = 0 then 1 else 0
  | v :: vs => pick v (det vs)

theorem det_mem (v : Rw) (vs : List Rw) (h : v ∈ vs) : ∀ (cs : List Nat) (k : Nat), pick v (det vs) cs k = 0 := by
  induction vs with
  | nil => simp at h
  | cons u us ih =>
    intro cs k
    rcases List.mem_cons.mp h with h | h
    · subst h; exact pick_self v (det us) cs k
    · have h1 := pick_swap v u cs (det us) k
      have h2 : pick v (det us) = fun _ _ => 0 := by funext x t; exact ih h x t
      rw [h2, pick_zero] at h1
      show pick v (pick u (det us)) cs k = 0
      omega

theorem det_two (R : List Rw) : ∀ (i l : Nat) (v : Rw), i < l → R[i]? = some v → R[l]? = some v → ∀ (cs : List Nat) (k : Nat), det R cs k = 0 := by
  induction R with
  | nil => intro i l v h1 h2; simp at h2
  | cons u us ih =>
    intro i l v h1 h2 h3 cs k
    match i, l with
    | 0, l + 1 =>
      simp only [List.getElem?_cons_zero, Option.some.injEq] at h2
      subst h2
      simp only [List.getElem?_cons_succ] at h3
      exact det_mem u us (List.mem_of_getElem? h3) cs k
    | i + 1, l + 1 =>
      simp only [List.getElem?_cons_succ] at h2 h3
      have h4 : det us = fun _ _ => 0 := by funext x t; exact ih i l v (by omega) h2 h3 x t
      show pick u (det us) cs k = 0
      rw [h4, pick_zero]
    | i, 0 => omega

theorem det_rows (R : List Rw) : ∀ (i : Nat) (v w : Rw), i < R.length → ∀ (cs : List Nat) (k : Nat),
    det (R.set i (fun c => ((v c).1 + (w c).1, (v c).2 + (w c).2))) cs k = det (R.set i v) cs k + det (R.set i w) cs k := by
  induction R with
  | nil => intro i v w h; simp at h
  | cons u us ih =>
    intro i v w h cs k
    match i with
    | 0 => simp only [List.set_cons_zero, det]; exact pick_rows v w cs _ k
    | i + 1 =>
      simp only [List.set_cons_succ, det]
      have : det (us.set i (fun c => ((v c).1 + (w c).1, (v c).2 + (w c).2))) = fun x k => det (us.set i v) x k + det (us.set i w) x k := by
        funext x t; exact ih i v w (by simpa using h) x t
      rw [this, pick_add]

theorem det_at (R : List Rw) : ∀ (i j : Nat) (p q : Int), i < R.length → ∀ (cs : List Nat) (k : Nat),
    det (R.set i (atR j p q)) cs k = lin p q (det (R.set i (unitR j)) cs) k := by
  induction R with
  | nil => intro i j p q h; simp at h
  | cons u us ih =>
    intro i j p q h cs k
    match i with
    | 0 => simp only [List.set_cons_zero, det]; exact pick_at j p q cs _ k
    | i + 1 =>
      simp only [List.set_cons_succ, det]
      have : det (us.set i (atR j p q)) = fun x => lin p q (det (us.set i (unitR j)) x) := by
        funext x t; exact ih i j p q (by simpa using h) x t
      rw [this, pick_lin]

theorem det_zrow (R : List Rw) : ∀ (i : Nat), i < R.length → ∀ (cs : List Nat) (k : Nat), det (R.set i (fun _ => (0, 0))) cs k = 0 := by
  induction R with
  | nil => intro i h; simp at h
  | cons u us ih =>
    intro i h cs k
    match i with
    | 0 => simp only [List.set_cons_zero, det]; exact pick_zrow _ cs (fun _ _ => rfl) _ k
    | i + 1 =>
      simp only [List.set_cons_succ, det]
      have : det (us.set i (fun _ => (0, 0))) = fun _ _ => 0 := by funext x t; exact ih i (by simpa using h) x t
      rw [this, pick_zero]

def upTo (w : Rw) (m : Nat) : Rw := fun c => if c < m then w c else (0, 0)

theorem det_expand (R : List Rw) (i : Nat) (w : Rw) (h : i < R.length) (cs : List Nat) (k : Nat) : ∀ m : Nat,
    det (R.set i (upTo w m)) cs k = tot m (fun j => lin (w j).1 (w j).2 (det (R.set i (unitR j)) cs) k) := by
  intro m
  induction m with
  | zero =>
    have : upTo w 0 = fun _ => (0, 0) := by funext c; simp [upTo]
    rw [this, det_zrow R i h]; rfl
  | succ m ih =>
    have : upTo w (m + 1) = fun c => ((upTo w m c).1 + (atR m (w m).1 (w m).2 c).1, (upTo w m c).2 + (atR m (w m).1 (w m).2 c).2) := by
      funext c
      by_cases h1 : c < m
      · simp [upTo, atR, h1, Nat.lt_succ_of_lt h1, Nat.ne_of_lt h1]
      · by_cases h2 : c = m
        · subst h2; simp [upTo, atR]
        · simp [upTo, atR, h1, h2]; omega
    rw [this, det_rows R i _ _ h, ih, det_at R i m _ _ h]; rfl

theorem lin_theta (p q : Int) (f : Nat → Int) (k : Nat) : (k : Int) * lin p q f k = lin p q (fun t => (t : Int) * f t) k + lin 0 q f k := by
  match k with
  | 0 => simp [lin]
  | k + 1 =>
    simp only [lin, Int.mul_add]
    rw [Int.mul_left_comm _ p, Int.mul_left_comm _ q]
    have : ((k + 1 : Nat) : Int) = (k : Int) + 1 := by omega
    have h2 : q * (((k + 1 : Nat) : Int) * f k) = q * ((k : Int) * f k) + q * f k := by rw [this, Int.add_mul, Int.mul_add]; simp
    rw [h2]
    simp only [Int.zero_mul]
    omega

def thR (v : Rw) : Rw := fun c => (0, (v c).2)

theorem pick_theta (v : Rw) (cs : List Nat) : ∀ (F : List Nat → Nat → Int) (k : Nat), (k : Int) * pick v F cs k = pick v (fun x t => (t : Int) * F x t) cs k + pick (thR v) F cs k := by
  induction cs with
  | nil => intro F k; simp [pick]
  | cons c cs ih =>
    intro F k
    simp only [pick, Int.mul_sub, lin_theta]
    rw [ih (fun x => F (c :: x)) k]
    simp only [thR]
    omega

theorem pick_tot (v : Rw) (n : Nat) (G : Nat → List Nat → Nat → Int) (cs : List Nat) (k : Nat) : pick v (fun x t => tot n (fun i => G i x t)) cs k = tot n (fun i => pick v (G i) cs k) := by
  induction n with
  | zero => exact pick_zero v cs k
  | succ n ih =>
    simp only [tot]
    rw [pick_add v cs (fun x t => tot n (fun i => G i x t)) (fun x t => G n x t), ih]

theorem det_theta (R : List Rw) : ∀ (cs : List Nat) (k : Nat), (k : Int) * det R cs k = tot R.length (fun i => det (R.set i (thR (R.getD i (fun _ => (0, 0))))) cs k) := by
  induction R with
  | nil =>
    intro cs k
    simp only [det, List.length_nil, tot]
    by_cases h : k = 0
    · subst h; simp
    · simp [h]
  | cons v vs ih =>
    intro cs k
    simp only [List.length_cons]
    rw [tot_head]
    simp only [List.set_cons_zero, List.set_cons_succ, List.getD_cons_zero, List.getD_cons_succ, det]
    rw [pick_theta]
    have : (fun (x : List Nat) (t : Nat) => (t : Int) * det vs x t) = fun x t => tot vs.length (fun i => det (vs.set i (thR (vs.getD i (fun _ => (0, 0))))) x t) := by
      funext x t; exact ih x t
    rw [this, pick_tot v vs.length (fun i => det (vs.set i (thR (vs.getD i (fun _ => (0, 0))))))]
    omega

theorem pick_deg (v : Rw) (m : Nat) (cs : List Nat) : ∀ (F : List Nat → Nat → Int), (∀ x k, m < k → F x k = 0) → ∀ k, m + 1 < k → pick v F cs k = 0 := by
  induction cs with
  | nil => intro F h k hk; rfl
  | cons c cs ih =>
    intro F h k hk
    simp only [pick]
    rw [ih (fun x => F (c :: x)) (fun x t ht => h (c :: x) t ht) k hk]
    match k with
    | k + 1 => simp only [lin]; rw [h cs (k + 1) (by omega), h cs k (by omega)]; simp

theorem det_deg (R : List Rw) : ∀ (cs : List Nat) (k : Nat), R.length < k → det R cs k = 0 := by
  induction R with
  | nil => intro cs k h; simp only [det]; rw [if_neg]; simp at h; omega
  | cons v vs ih => intro cs k h; exact pick_deg v vs.length cs (det vs) ih k (by simpa using h)

/- the last row a unit row at a last column -/
theorem pick_miss (r : Nat) (v : Rw) (xs : List Nat) : ∀ (F : List Nat → Nat → Int), (∀ x, r ∉ x → ∀ k, F x k = 0) → r ∉ xs → ∀ k, pick v F xs k = 0 := by
  induction xs with
  | nil => intro F h h2 k; rfl
  | cons c cs ih =>
    intro F h h2 k
    simp only [List.mem_cons, not_or] at h2
    simp only [pick]
    rw [ih (fun x => F (c :: x)) (fun x hx t => h (c :: x) (by simp only [List.mem_cons, not_or]; exact ⟨h2.1, hx⟩) t) h2.2]
    have : F cs = fun _ => 0 := funext (fun t => h cs h2.2 t)
    rw [this, lin_zero]; rfl

theorem pick_end (r : Nat) (v v' : Rw) (hv : ∀ c, c < r → v c = v' c) (xs : List Nat) : ∀ (F G : List Nat → Nat → Int),
    (∀ x, r ∉ x → ∀ k, F x k = 0) → (∀ x, (∀ c, c ∈ x → c < r) → ∀ k, F (x ++ [r]) k = G x k) → (∀ c, c ∈ xs → c < r) → ∀ k, pick v F (xs ++ [r]) k = pick v' G xs k := by
  induction xs with
  | nil =>
    intro F G h1 h2 h3 k
    simp only [List.nil_append, pick]
    have : F [] = fun _ => 0 := funext (fun t => h1 [] (by simp) t)
    rw [this, lin_zero]; rfl
  | cons c cs ih =>
    intro F G h1 h2 h3 k
    have hc : c < r := h3 c List.mem_cons_self
    have hcs : ∀ x, x ∈ cs → x < r := fun x hx => h3 x (List.mem_cons_of_mem _ hx)
    simp only [List.cons_append, pick]
    rw [ih (fun x => F (c :: x)) (fun x => G (c :: x)) (fun x hx t => h1 (c :: x) (by simp only [List.mem_cons, not_or]; exact ⟨by omega, hx⟩) t)
      (fun x hx t => h2 (c :: x) (by intro y hy; rcases List.mem_cons.mp hy with hy | hy; (· omega); exact hx y hy) t) hcs k, hv c hc]
    have : F (cs ++ [r]) = G cs := funext (fun t => h2 cs hcs t)
    rw [this]

theorem det_miss (r : Nat) (vs : List Rw) : ∀ (x : List Nat), r ∉ x → ∀ k, det (vs ++ [unitR r]) x k = 0 := by
  induction vs with
  | nil =>
    intro x hx k
    simp only [List.nil_append, det]
    apply pick_zrow
    intro c hc
    have : c ≠ r := by intro h; subst h; exact hx hc
    simp [unitR, this]
  | cons v vs ih =>
    intro x hx k
    simp only [List.cons_append, det]
    exact pick_miss r v x _ ih hx k

theorem det_end (r : Nat) (f g : Nat → Rw) (hv : ∀ i c, c < r → f i c = g i c) (is : List Nat) : ∀ (x : List Nat), (∀ c, c ∈ x → c < r) → ∀ k, det (is.map f ++ [unitR r]) (x ++ [r]) k = det (is.map g) x k := by
  induction is with
  | nil =>
    intro x hx k
    match x with
    | [] =>
      simp only [List.map_nil, List.nil_append, det, pick, unitR, if_true, lin_10]
      simp
    | c :: cs =>
      have hc : c < r := hx c List.mem_cons_self
      have h0 : ∀ (x : List Nat), (fun k => det [] (c :: x) k) = fun _ => 0 := by intro x; funext t; simp [det]
      simp only [List.map_nil, List.nil_append, List.cons_append, det, pick]
      have h1 : (fun x => (fun (cs : List Nat) (k : Nat) => if cs = [] ∧ k = 0 then (1 : Int) else 0) (c :: x)) = fun _ _ => 0 := by funext x t; simp
      rw [h1, pick_zero]
      have : c ≠ r := by omega
      simp only [unitR, this, if_false]
      rw [lin_00]; simp
  | cons i is ih =>
    intro x hx k
    simp only [List.map_cons, List.cons_append, det]
    exact pick_end r (f i) (g i) (hv i) x _ _ (det_miss r (is.map f)) ih hx k

/- a bound -/
def nrm : Nat → (Nat → Int) → Nat
  | 0, _ => 0
  | n + 1, f => nrm n f + (f n).natAbs

theorem nrm_le (n k : Nat) (f : Nat → Int) (h : k < n) : (f k).natAbs ≤ nrm n f := by
  induction n with
  | zero => omega
  | succ n ih => simp only [nrm]; by_cases h2 : k = n; (· subst h2; omega); have := ih (by omega); omega

theorem nrm_zero (n : Nat) : nrm n (fun _ => 0) = 0 := by induction n with | zero => rfl | succ n ih => simp [nrm, ih]

theorem nrm_sub (n : Nat) (f g : Nat → Int) : nrm n (fun k => f k - g k) ≤ nrm n f + nrm n g := by
  induction n with
  | zero => simp [nrm]
  | succ n ih => simp only [nrm]; omega

theorem nrm_lin (n : Nat) (p q : Int) (f : Nat → Int) : nrm n (lin p q f) ≤ (p.natAbs + q.natAbs) * nrm n f := by
  have key : nrm n (lin p q f) + (match n with | 0 => 0 | k + 1 => q.natAbs * (f k).natAbs) ≤ (p.natAbs + q.natAbs) * nrm n f := by
    induction n with
    | zero => simp [nrm]
    | succ n ih =>
      match n with
      | 0 => simp only [nrm, lin]; rw [Int.natAbs_mul, Nat.zero_add, Nat.zero_add, Nat.add_mul]; exact Nat.le_refl _
      | m + 1 =>
        have e : nrm (m + 1 + 1) f = nrm (m + 1) f + (f (m + 1)).natAbs := rfl
        have e2 : nrm (m + 1 + 1) (lin p q f) = nrm (m + 1) (lin p q f) + (p * f (m + 1) + q * f m).natAbs := rfl
        rw [e, e2, Nat.mul_add]
        have h1 : (p * f (m + 1) + q * f m).natAbs ≤ p.natAbs * (f (m + 1)).natAbs + q.natAbs * (f m).natAbs := by
          rw [← Int.natAbs_mul, ← Int.natAbs_mul]; omega
        simp only [] at ih ⊢
        rw [Nat.add_mul p.natAbs q.natAbs (f (m + 1)).natAbs]
        omega
  omega

def wt (v : Rw) (c : Nat) : Nat := (v c).1.natAbs + (v c).2.natAbs
def wtL (v : Rw) : List Nat → Nat
  | [] => 0
  | c :: cs => wt v c + wtL v cs

theorem wtL_sub (v : Rw) {xs cs : List Nat} (h : xs.Sublist cs) : wtL v xs ≤ wtL v cs := by
  induction h with
  | slnil => exact Nat.le_refl _
  | cons c _ ih => simp only [wtL]; omega
  | cons_cons c _ ih => simp only [wtL]; omega

theorem pick_nrm (n B : Nat) (v : Rw) (cs : List Nat) : ∀ (F : List Nat → Nat → Int), (∀ xs, xs.Sublist cs → nrm n (F xs) ≤ B) → nrm n (pick v F cs) ≤ wtL v cs * B := by
  induction cs with
  | nil => intro F h; simp only [pick, nrm_zero]; omega
  | cons c cs ih =>
    intro F h
    have h1 := nrm_sub n (lin (v c).1 (v c).2 (F cs)) (pick v (fun x => F (c :: x)) cs)
    have h2 := nrm_lin n (v c).1 (v c).2 (F cs)
    have h3 := ih (fun x => F (c :: x)) (fun xs hx => h (c :: xs) (hx.cons_cons c))
    have h4 : (wt v c) * nrm n (F cs) ≤ wt v c * B := Nat.mul_le_mul_left _ (h cs (List.sublist_cons_self c cs))
    have h5 : nrm n (pick v F (c :: cs)) = nrm n (fun k => lin (v c).1 (v c).2 (F cs) k - pick v (fun x => F (c :: x)) cs k) := rfl
    rw [h5]; simp only [wtL, Nat.add_mul]; unfold wt at *
    omega

def wtP (cs : List Nat) : List Rw → Nat
  | [] => 1
  | v :: vs => wtL v cs * wtP cs vs

theorem det_nrm (n : Nat) (cs : List Nat) (R : List Rw) : ∀ xs, xs.Sublist cs → nrm n (det R xs) ≤ wtP cs R := by
  induction R with
  | nil =>
    intro xs _
    have : ∀ m, nrm m (det [] xs) ≤ 1 := by
      intro m
      have h2 : nrm m (det [] xs) = if m = 0 then 0 else (det [] xs 0).natAbs := by
        induction m with
        | zero => rfl
        | succ m ih =>
          simp only [nrm, ih]
          by_cases h : m = 0
          · subst h; simp
          · simp [det, h]
      rw [h2]; by_cases h : m = 0; (· simp [h]); simp only [h, if_false, det]; split <;> simp
    exact this n
  | cons v vs ih =>
    intro xs hx
    have h1 := pick_nrm n (wtP cs vs) v xs (det vs) (fun ys hy => ih ys (hy.trans hx))
    have h2 : wtL v xs * wtP cs vs ≤ wtL v cs * wtP cs vs := Nat.mul_le_mul_right _ (wtL_sub v hx)
    show nrm n (pick v (det vs) xs) ≤ wtL v cs * wtP cs vs
    omega

def rowM (A : Nat → Nat → Int) (n i : Nat) : Rw := fun c => if c < n then (if c = i then 1 else 0, - A i c) else (0, 0)
def RM (A : Nat → Nat → Int) (n : Nat) : List Rw := (List.range n).map (rowM A n)
/-- the determinant of the unit matrix less u times the table: its number at u^k -/
def dk (A : Nat → Nat → Int) (n k : Nat) : Int := det (RM A n) (List.range n) k
def adj (A : Nat → Nat → Int) (n j l k : Nat) : Int := det ((RM A n).set l (unitR j)) (List.range n) k

theorem RM_len (A : Nat → Nat → Int) (n : Nat) : (RM A n).length = n := by simp [RM]
theorem RM_get (A : Nat → Nat → Int) (n i : Nat) (h : i < n) : (RM A n)[i]? = some (rowM A n i) := by simp [RM, h]
theorem upTo_rowM (A : Nat → Nat → Int) (n i : Nat) : upTo (rowM A n i) n = rowM A n i := by
  funext c; unfold upTo rowM; by_cases h : c < n <;> simp [h]

theorem adj_eq (A : Nat → Nat → Int) (n i l k : Nat) (hi : i < n) (hl : l < n) :
    tot n (fun j => lin (rowM A n i j).1 (rowM A n i j).2 (fun t => adj A n j l t) k) = if i = l then dk A n k else 0 := by
  have h1 := det_expand (RM A n) l (rowM A n i) (by rw [RM_len]; exact hl) (List.range n) k n
  rw [upTo_rowM] at h1
  have h2 : tot n (fun j => lin (rowM A n i j).1 (rowM A n i j).2 (fun t => adj A n j l t) k) = det ((RM A n).set l (rowM A n i)) (List.range n) k := h1.symm
  rw [h2]
  by_cases h : i = l
  · subst h
    rw [if_pos rfl]
    have : (RM A n).set i (rowM A n i) = RM A n := by
      apply List.ext_getElem?
      intro q
      rw [List.getElem?_set]
      by_cases e : i = q
      · subst e; rw [if_pos rfl, if_pos (by rw [RM_len]; exact hi), RM_get A n i hi]
      · rw [if_neg e]
    rw [this]; rfl
  · rw [if_neg h]
    have hl' : ((RM A n).set l (rowM A n i))[l]? = some (rowM A n i) := by rw [List.getElem?_set, if_pos rfl, if_pos (by rw [RM_len]; exact hl)]
    have hi' : ((RM A n).set l (rowM A n i))[i]? = some (rowM A n i) := by rw [List.getElem?_set, if_neg (fun e => h e.symm)]; exact RM_get A n i hi
    rcases Nat.lt_or_gt_of_ne h with h3 | h3
    · exact det_two _ i l _ h3 hi' hl' _ _
    · exact det_two _ l i _ h3 hl' hi' _ _

theorem adj_0 (A : Nat → Nat → Int) (n i l : Nat) (hi : i < n) (hl : l < n) : adj A n i l 0 = if i = l then dk A n 0 else 0 := by
  rw [← adj_eq A n i l 0 hi hl]
  rw [← tot_single n i (fun j => adj A n j l 0) hi]
  apply tot_congr
  intro j hj
  simp only [lin, rowM, hj, if_true]

theorem adj_s (A : Nat → Nat → Int) (n i l k : Nat) (hi : i < n) (hl : l < n) :
    adj A n i l (k + 1) = (if i = l then dk A n (k + 1) else 0) + tot n (fun j => A i j * adj A n j l k) := by
  have h := adj_eq A n i l (k + 1) hi hl
  have h2 : tot n (fun j => lin (rowM A n i j).1 (rowM A n i j).2 (fun t => adj A n j l t) (k + 1)) = tot n (fun j => (if j = i then 1 else 0) * adj A n j l (k + 1)) + tot n (fun j => - (A i j * adj A n j l k)) := by
    rw [← tot_add]
    apply tot_congr
    intro j hj
    simp only [lin, rowM, hj, if_true, Int.neg_mul]
  rw [h2, tot_single n i (fun j => adj A n j l (k + 1)) hi, tot_neg] at h
  omega

theorem dk_theta (A : Nat → Nat → Int) (n k : Nat) : ((k : Int) + 1) * dk A n (k + 1) = - tot n (fun i => tot n (fun j => A i j * adj A n j i k)) := by
  have h := det_theta (RM A n) (List.range n) (k + 1)
  rw [RM_len] at h
  have e : ((k + 1 : Nat) : Int) = (k : Int) + 1 := by omega
  rw [e] at h
  unfold dk
  rw [h, ← tot_neg]
  apply tot_congr
  intro i hi
  have h1 : (RM A n).getD i (fun _ => (0, 0)) = rowM A n i := by simp [List.getD, RM_get A n i hi]
  have h2 : thR (rowM A n i) = upTo (thR (rowM A n i)) n := by
    funext c; unfold upTo thR rowM; by_cases h : c < n <;> simp [h]
  rw [h1, h2, det_expand (RM A n) i (thR (rowM A n i)) (by rw [RM_len]; exact hi) (List.range n) (k + 1) n, ← tot_neg]
  apply tot_congr
  intro j hj
  simp only [lin, thR, rowM, hj, if_true, adj, Int.neg_mul, Int.zero_mul]
  omega

theorem range_s (r : Nat) : List.range (r + 1) = List.range r ++ [r] := List.range_succ

theorem adj_last (A : Nat → Nat → Int) (r k : Nat) : adj A (r + 1) r r k = dk A r k := by
  unfold adj dk RM
  rw [range_s, List.map_append, List.map_cons, List.map_nil]
  have : ((List.range r).map (rowM A (r + 1)) ++ [rowM A (r + 1) r]).set r (unitR r) = (List.range r).map (rowM A (r + 1)) ++ [unitR r] := by
    rw [List.set_append_right _ _ (by simp)]
    simp
  rw [this]
  refine det_end r (rowM A (r + 1)) (rowM A r) ?_ (List.range r) (List.range r) (by intro c hc; simpa using hc) k
  intro i c hc
  unfold rowM
  rw [if_pos hc, if_pos (by omega)]

theorem dk_deg (A : Nat → Nat → Int) (n k : Nat) (h : n < k) : dk A n k = 0 := det_deg (RM A n) (List.range n) k (by rw [RM_len]; exact h)

theorem dk_0 (A : Nat → Nat → Int) (n : Nat) : dk A n 0 = 1 := by
  induction n with
  | zero => simp [dk, RM, det]
  | succ r ih =>
    have h := adj_0 A (r + 1) r r (by omega) (by omega)
    rw [if_pos rfl, adj_last, ih] at h
    exact h.symm

/- the model's way: one row and column more -/
/-- powers of the table of r rows, times the column r -/
def pwE (A : Nat → Nat → Int) (r : Nat) : Nat → Nat → Int
  | 0, i => A i r
  | k + 1, i => tot r (fun j => A i j * pwE A r k j)
def grE (A : Nat → Nat → Int) (r : Nat) : Nat → Int
  | 0 => 1
  | 1 => - A r r
  | t + 2 => - tot r (fun j => A r j * pwE A r t j)

theorem adj_col (A : Nat → Nat → Int) (r : Nat) : ∀ k i, i < r → adj A (r + 1) i r k = tot k (fun t => pwE A r t i * dk A r (k - 1 - t)) := by
  intro k
  induction k with
  | zero => intro i hi; rw [adj_0 A (r + 1) i r (by omega) (by omega), if_neg (by omega)]; rfl
  | succ k ih =>
    intro i hi
    rw [adj_s A (r + 1) i r k (by omega) (by omega), if_neg (by omega), tot_head k (fun t => pwE A r t i * dk A r (k + 1 - 1 - t))]
    simp only [tot]
    rw [adj_last]
    have h1 : tot r (fun j => A i j * adj A (r + 1) j r k) = tot k (fun t => pwE A r (t + 1) i * dk A r (k + 1 - 1 - (t + 1))) := by
      have h2 : tot r (fun j => A i j * adj A (r + 1) j r k) = tot r (fun j => tot k (fun t => A i j * pwE A r t j * dk A r (k - 1 - t))) := by
        apply tot_congr
        intro j hj
        rw [ih j hj, ← tot_mul]
        apply tot_congr
        intro t ht
        rw [Int.mul_assoc]
      rw [h2, tot_swap]
      apply tot_congr
      intro t ht
      rw [tot_mulr]
      have : k + 1 - 1 - (t + 1) = k - 1 - t := by omega
      rw [this]; rfl
    rw [h1]
    simp only [pwE, Nat.add_sub_cancel, Nat.sub_zero]
    omega

theorem dk_s (A : Nat → Nat → Int) (r k : Nat) : dk A (r + 1) k = tot (k + 1) (fun j => grE A r (k - j) * dk A r j) := by
  match k with
  | 0 => simp [tot, grE, dk_0]
  | k + 1 =>
    have h := adj_s A (r + 1) r r k (by omega) (by omega)
    rw [if_pos rfl, adj_last] at h
    simp only [tot] at h ⊢
    rw [adj_last] at h
    have h1 : tot r (fun j => A r j * adj A (r + 1) j r k) = tot k (fun t => - grE A r (t + 2) * dk A r (k - 1 - t)) := by
      have h2 : tot r (fun j => A r j * adj A (r + 1) j r k) = tot r (fun j => tot k (fun t => A r j * pwE A r t j * dk A r (k - 1 - t))) := by
        apply tot_congr
        intro j hj
        rw [adj_col A r k j hj, ← tot_mul]
        apply tot_congr
        intro t ht
        rw [Int.mul_assoc]
      rw [h2, tot_swap]
      apply tot_congr
      intro t ht
      rw [tot_mulr]
      simp only [grE, Int.neg_neg]
    have h3 : ∀ m, tot m (fun t => - grE A r (t + 2) * dk A r (m - 1 - t)) = - tot m (fun j => grE A r (m + 1 - j) * dk A r j) := by
      intro m
      rw [← tot_neg]
      -- read backwards
      have rev : ∀ (n : Nat) (f : Nat → Int), tot n f = tot n (fun i => f (n - 1 - i)) := by
        intro n
        induction n with
        | zero => intro f; rfl
        | succ n ih =>
          intro f
          rw [tot_head, ih]
          simp only [tot]
          have : tot n (fun i => f (n + 1 - 1 - i)) = tot n (fun i => f (n - 1 - i + 1)) := by
            apply tot_congr; intro i hi; congr 1; omega
          rw [this]
          have e : n + 1 - 1 - n = 0 := by omega
          rw [e]; omega
      rw [rev]
      apply tot_congr
      intro j hj
      rw [Int.neg_mul]
      have e1 : m - 1 - j + 2 = m + 1 - j := by omega
      have e2 : m - 1 - (m - 1 - j) = j := by omega
      rw [e1, e2]
    rw [h1, h3] at h
    have e1 : k + 1 - k = 1 := by omega
    have e2 : k + 1 - (k + 1) = 0 := by omega
    rw [e1, e2, show grE A r 0 = 1 from rfl, show grE A r 1 = - A r r from rfl, Int.one_mul, Int.neg_mul]
    omega

/- congruence modulo 2^64 -/
def cg (x y : Int) : Prop := ∃ t : Int, x = y + 18446744073709551616 * t
theorem cg_refl (x : Int) : cg x x := ⟨0, by omega⟩
theorem cg_trans {x y z : Int} : cg x y → cg y z → cg x z := fun ⟨a, h⟩ ⟨b, h2⟩ => ⟨a + b, by omega⟩
theorem cg_add {x y x' y' : Int} : cg x y → cg x' y' → cg (x + x') (y + y') := fun ⟨a, h⟩ ⟨b, h2⟩ => ⟨a + b, by omega⟩
theorem cg_neg {x y : Int} : cg x y → cg (-x) (-y) := fun ⟨a, h⟩ => ⟨-a, by omega⟩
theorem cg_mul {x y x' y' : Int} : cg x y → cg x' y' → cg (x * x') (y * y') := fun ⟨a, h⟩ ⟨b, h2⟩ => ⟨y * b + a * y' + 18446744073709551616 * (a * b), by
  subst h; subst h2
  simp only [Int.add_mul, Int.mul_add]
  rw [Int.mul_assoc 18446744073709551616 a y', Int.mul_left_comm y 18446744073709551616 b, Int.mul_assoc 18446744073709551616 a (18446744073709551616 * b), Int.mul_left_comm a 18446744073709551616 b]
  omega⟩

end Go.Proofs.YtnblhkhdilkbeaaDoor
