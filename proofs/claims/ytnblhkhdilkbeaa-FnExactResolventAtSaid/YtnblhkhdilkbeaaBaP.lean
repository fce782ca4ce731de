/- Determinants of whole numbers, modulo a number, or as they are: minors with one row and column more, and the identity of Sylvester; rows without a pivot; swaps. Plain mathematics. -/
import Derived.Test.YtnblhkhdilkbeaaCoreA
set_option linter.unusedSimpArgs false
set_option linter.unusedVariables false
namespace Go.Proofs.Ytnblhkhdilkbeaa


/- determinants of whole numbers: rows are functions, columns a list -/
def pkZ (v : Nat → Int) (F : List Nat → Int) : List Nat → Int
  | [] => 0
  | c :: cs => v c * F cs - pkZ v (fun x => F (c :: x)) cs
def dt : List (Nat → Int) → List Nat → Int
  | [] => fun cs => if cs = [] then 1 else 0
  | v :: vs => pkZ v (dt vs)

theorem pkZ_zeroF (v : Nat → Int) (cs : List Nat) : pkZ v (fun _ => 0) cs = 0 := by
  induction cs with
  | nil => rfl
  | cons c cs ih => simp only [pkZ, ih]; omega
theorem pkZ_add (v : Nat → Int) (cs : List Nat) : ∀ F G : List Nat → Int, pkZ v (fun x => F x + G x) cs = pkZ v F cs + pkZ v G cs := by
  induction cs with
  | nil => intro F G; rfl
  | cons c cs ih => intro F G; simp only [pkZ, Int.mul_add]; rw [ih (fun x => F (c :: x)) (fun x => G (c :: x))]; omega
theorem pkZ_sub (v : Nat → Int) (cs : List Nat) : ∀ F G : List Nat → Int, pkZ v (fun x => F x - G x) cs = pkZ v F cs - pkZ v G cs := by
  induction cs with
  | nil => intro F G; rfl
  | cons c cs ih => intro F G; simp only [pkZ, Int.mul_sub]; rw [ih (fun x => F (c :: x)) (fun x => G (c :: x))]; omega
theorem pkZ_mul (v : Nat → Int) (a : Int) (cs : List Nat) : ∀ F : List Nat → Int, pkZ v (fun x => a * F x) cs = a * pkZ v F cs := by
  induction cs with
  | nil => intro F; simp [pkZ]
  | cons c cs ih => intro F; simp only [pkZ, Int.mul_sub]; rw [ih (fun x => F (c :: x)), Int.mul_left_comm]
theorem pkZ_rows (v w : Nat → Int) (cs : List Nat) : ∀ F : List Nat → Int, pkZ (fun c => v c + w c) F cs = pkZ v F cs + pkZ w F cs := by
  induction cs with
  | nil => intro F; rfl
  | cons c cs ih => intro F; simp only [pkZ, Int.add_mul, ih]; omega
theorem pkZ_scale (v : Nat → Int) (a : Int) (cs : List Nat) : ∀ F : List Nat → Int, pkZ (fun c => a * v c) F cs = a * pkZ v F cs := by
  induction cs with
  | nil => intro F; simp [pkZ]
  | cons c cs ih => intro F; simp only [pkZ, Int.mul_sub, ih, Int.mul_assoc]
theorem pkZ_swap (v w : Nat → Int) (cs : List Nat) : ∀ F : List Nat → Int, pkZ v (pkZ w F) cs + pkZ w (pkZ v F) cs = 0 := by
  induction cs with
  | nil => intro F; rfl
  | cons c cs ih =>
    intro F
    have e1 : (fun x => pkZ w F (c :: x)) = fun x => w c * F x - pkZ w (fun x => F (c :: x)) x := rfl
    have e2 : (fun x => pkZ v F (c :: x)) = fun x => v c * F x - pkZ v (fun x => F (c :: x)) x := rfl
    have h1 : pkZ v (pkZ w F) (c :: cs) = v c * pkZ w F cs - pkZ v (fun x => pkZ w F (c :: x)) cs := rfl
    have h2 : pkZ w (pkZ v F) (c :: cs) = w c * pkZ v F cs - pkZ w (fun x => pkZ v F (c :: x)) cs := rfl
    rw [h1, h2, e1, e2, pkZ_sub, pkZ_sub, pkZ_mul, pkZ_mul]
    have h5 := ih (fun x => F (c :: x))
    have h6 : pkZ v (fun x => pkZ w (fun x => F (c :: x)) x) cs = pkZ v (pkZ w (fun x => F (c :: x))) cs := rfl
    have h7 : pkZ w (fun x => pkZ v (fun x => F (c :: x)) x) cs = pkZ w (pkZ v (fun x => F (c :: x))) cs := rfl
    omega
theorem pkZ_self (v : Nat → Int) (F : List Nat → Int) (cs : List Nat) : pkZ v (pkZ v F) cs = 0 := by
  have := pkZ_swap v v cs F
  omega
theorem pkZ_congr (v w : Nat → Int) (cs : List Nat) (h : ∀ c, c ∈ cs → v c = w c) : ∀ F : List Nat → Int, pkZ v F cs = pkZ w F cs := by
  induction cs with
  | nil => intro F; rfl
  | cons c cs ih => intro F; simp only [pkZ]; rw [h c List.mem_cons_self, ih (fun x hx => h x (List.mem_cons_of_mem _ hx))]
/-- all parts are 0 -/
theorem pkZ_all0 (v : Nat → Int) (cs : List Nat) : ∀ F : List Nat → Int, (∀ xs c ys, cs = xs ++ c :: ys → v c = 0 ∨ F (xs ++ ys) = 0) → pkZ v F cs = 0 := by
  induction cs with
  | nil => intro F h; rfl
  | cons c cs ih =>
    intro F h
    simp only [pkZ]
    rw [ih (fun x => F (c :: x)) (fun xs d ys e => by have := h (c :: xs) d ys (by rw [e]; rfl); exact this)]
    rcases h [] c cs rfl with h | h
    · rw [h]; simp
    · have h' : F cs = 0 := h
      rw [h']; simp

theorem dt_mem (v : Nat → Int) (vs : List (Nat → Int)) (h : v ∈ vs) : ∀ cs, pkZ v (dt vs) cs = 0 := by
  induction vs with
  | nil => simp at h
  | cons u us ih =>
    intro cs
    rcases List.mem_cons.mp h with h | h
    · subst h; exact pkZ_self v (dt us) cs
    · have h1 := pkZ_swap v u cs (dt us)
      have h2 : pkZ v (dt us) = fun _ => 0 := by funext x; exact ih h x
      rw [h2, pkZ_zeroF] at h1
      show pkZ v (pkZ u (dt us)) cs = 0
      omega
/-- a row that stands twice -/
theorem dt_two (us ws : List (Nat → Int)) (v : Nat → Int) : v ∈ us → ∀ cs, dt (us ++ v :: ws) cs = 0 := by
  induction us with
  | nil => intro h; simp at h
  | cons u us ih =>
    intro h cs
    rcases List.mem_cons.mp h with h | h
    · subst h; exact dt_mem v (us ++ v :: ws) (by simp) cs
    · have : dt (us ++ v :: ws) = fun _ => 0 := funext (ih h)
      show pkZ u (dt (us ++ v :: ws)) cs = 0
      rw [this, pkZ_zeroF]
theorem dt_add (us ws : List (Nat → Int)) (v w : Nat → Int) : ∀ cs, dt (us ++ (fun c => v c + w c) :: ws) cs = dt (us ++ v :: ws) cs + dt (us ++ w :: ws) cs := by
  induction us with
  | nil => intro cs; exact pkZ_rows v w cs _
  | cons u us ih =>
    intro cs
    have : dt (us ++ (fun c => v c + w c) :: ws) = fun x => dt (us ++ v :: ws) x + dt (us ++ w :: ws) x := funext ih
    show pkZ u (dt (us ++ (fun c => v c + w c) :: ws)) cs = _
    rw [this, pkZ_add]; rfl
theorem dt_scale (us ws : List (Nat → Int)) (v : Nat → Int) (a : Int) : ∀ cs, dt (us ++ (fun c => a * v c) :: ws) cs = a * dt (us ++ v :: ws) cs := by
  induction us with
  | nil => intro cs; exact pkZ_scale v a cs _
  | cons u us ih =>
    intro cs
    have : dt (us ++ (fun c => a * v c) :: ws) = fun x => a * dt (us ++ v :: ws) x := funext ih
    show pkZ u (dt (us ++ (fun c => a * v c) :: ws)) cs = _
    rw [this, pkZ_mul]; rfl
theorem dt_next (us ws : List (Nat → Int)) (v w : Nat → Int) : ∀ cs, dt (us ++ v :: w :: ws) cs + dt (us ++ w :: v :: ws) cs = 0 := by
  induction us with
  | nil => intro cs; exact pkZ_swap v w cs _
  | cons u us ih =>
    intro cs
    have : dt (us ++ v :: w :: ws) = fun x => -1 * dt (us ++ w :: v :: ws) x := funext (fun x => by have := ih x; omega)
    show pkZ u (dt (us ++ v :: w :: ws)) cs + pkZ u (dt (us ++ w :: v :: ws)) cs = 0
    rw [this, pkZ_mul]
    have : pkZ u (fun x => dt (us ++ w :: v :: ws) x) cs = pkZ u (dt (us ++ w :: v :: ws)) cs := rfl
    omega
/-- two rows change their places: the other sign -/
theorem dt_swap (us ms ws : List (Nat → Int)) (v w : Nat → Int) : ∀ cs, dt (us ++ v :: (ms ++ w :: ws)) cs + dt (us ++ w :: (ms ++ v :: ws)) cs = 0 := by
  intro cs
  -- the sum of both rows at both places
  have h1 := dt_two (us ++ (fun c => v c + w c) :: ms) ws (fun c => v c + w c) (by simp) cs
  rw [List.append_assoc, List.cons_append] at h1
  rw [dt_add us] at h1
  have e1 : us ++ v :: (ms ++ (fun c => v c + w c) :: ws) = (us ++ v :: ms) ++ (fun c => v c + w c) :: ws := by simp
  have e2 : us ++ w :: (ms ++ (fun c => v c + w c) :: ws) = (us ++ w :: ms) ++ (fun c => v c + w c) :: ws := by simp
  rw [e1, e2, dt_add (us ++ v :: ms), dt_add (us ++ w :: ms)] at h1
  rw [dt_two (us ++ v :: ms) ws v (by simp), dt_two (us ++ w :: ms) ws w (by simp)] at h1
  have e3 : (us ++ v :: ms) ++ w :: ws = us ++ v :: (ms ++ w :: ws) := by simp
  have e4 : (us ++ w :: ms) ++ v :: ws = us ++ w :: (ms ++ v :: ws) := by simp
  rw [e3, e4] at h1
  omega
/-- a multiple of a row that stands ahead, or behind, may be added -/
theorem dt_addmul (us ws : List (Nat → Int)) (v a : Nat → Int) (t : Int) (h : a ∈ us ∨ a ∈ ws) (cs : List Nat) : dt (us ++ (fun c => v c + t * a c) :: ws) cs = dt (us ++ v :: ws) cs := by
  rw [dt_add us ws v (fun c => t * a c), dt_scale]
  have : dt (us ++ a :: ws) cs = 0 := by
    rcases h with h | h
    · exact dt_two us ws a h cs
    · obtain ⟨xs, ys, rfl⟩ := List.append_of_mem h
      have := dt_two (us ++ a :: xs) ys a (by simp) cs
      simpa using this
  rw [this]; omega
theorem dt_pre (us ws ws' : List (Nat → Int)) (h : ∀ cs, dt ws cs = dt ws' cs) (cs : List Nat) : dt (us ++ ws) cs = dt (us ++ ws') cs := by
  have h' : dt ws = dt ws' := funext h
  induction us generalizing cs with
  | nil => exact h cs
  | cons u us ih => show pkZ u (dt (us ++ ws)) cs = pkZ u (dt (us ++ ws')) cs; rw [show dt (us ++ ws) = dt (us ++ ws') from funext ih]

/- a column at the end -/
def cfs : List (Nat → Int) → Nat → List Nat → Int
  | [], _ => fun _ => 0
  | v :: vs, 0 => fun cs => (if cs.length % 2 = 0 then 1 else -1) * dt vs cs
  | v :: vs, i + 1 => pkZ v (cfs vs i)
def lsum : List (Nat → Int) → (Nat → Int) → Nat → Int
  | [], _, _ => 0
  | v :: vs, C, j => C 0 * v j + lsum vs (fun i => C (i + 1)) j
theorem lsum_sub (vs : List (Nat → Int)) (j : Nat) : ∀ C D : Nat → Int, lsum vs (fun i => C i - D i) j = lsum vs C j - lsum vs D j := by
  induction vs with
  | nil => intro C D; rfl
  | cons v vs ih => intro C D; simp only [lsum, Int.sub_mul]; rw [ih (fun i => C (i + 1)) (fun i => D (i + 1))]; omega
theorem lsum_mul (vs : List (Nat → Int)) (j : Nat) (a : Int) : ∀ C : Nat → Int, lsum vs (fun i => a * C i) j = a * lsum vs C j := by
  induction vs with
  | nil => intro C; simp [lsum]
  | cons v vs ih => intro C; simp only [lsum, Int.mul_add]; rw [ih (fun i => C (i + 1)), Int.mul_assoc]
theorem lsum_zero (vs : List (Nat → Int)) (j : Nat) : lsum vs (fun _ => 0) j = 0 := by
  induction vs with
  | nil => rfl
  | cons v vs ih => simp only [lsum, ih]; omega

theorem pkZ_last (v : Nat → Int) (vs : List (Nat → Int)) (j : Nat) (cs : List Nat) : ∀ (F : List Nat → Int) (C : Nat → List Nat → Int),
    (∀ x, F (x ++ [j]) = lsum vs (fun i => C i x) j) → pkZ v F (cs ++ [j]) = (if cs.length % 2 = 0 then 1 else -1) * F cs * v j + lsum vs (fun i => pkZ v (C i) cs) j := by
  induction cs with
  | nil =>
    intro F C h
    simp only [List.nil_append, pkZ, lsum_zero]
    simp [Int.mul_comm]
  | cons c cs ih =>
    intro F C h
    simp only [List.cons_append, pkZ]
    rw [h cs, ih (fun x => F (c :: x)) (fun i x => C i (c :: x)) (fun x => h (c :: x)), lsum_sub, lsum_mul]
    have : (if (c :: cs).length % 2 = 0 then (1 : Int) else -1) = - (if cs.length % 2 = 0 then 1 else -1) := by
      simp only [List.length_cons]
      by_cases h : cs.length % 2 = 0
      · rw [if_pos h, if_neg (by omega)]
      · rw [if_neg h, if_pos (by omega)]; rfl
    rw [this, Int.neg_mul, Int.neg_mul]
    omega
theorem dt_last (vs : List (Nat → Int)) (j : Nat) : ∀ cs, dt vs (cs ++ [j]) = lsum vs (fun i => cfs vs i cs) j := by
  induction vs with
  | nil => intro cs; simp [dt, lsum]
  | cons v vs ih =>
    intro cs
    show pkZ v (dt vs) (cs ++ [j]) = _
    rw [pkZ_last v vs j cs (dt vs) (cfs vs) ih]
    simp only [lsum, cfs]
/-- the last row's number in it -/
theorem cfs_last (vs : List (Nat → Int)) (v : Nat → Int) : ∀ cs, (∀ _ : cs.length = vs.length, cfs (vs ++ [v]) vs.length cs = dt vs cs) := by
  induction vs with
  | nil => intro cs h; simp at h; subst h; simp [cfs, dt]
  | cons u us ih =>
    intro cs h
    show pkZ u (cfs (us ++ [v]) us.length) cs = pkZ u (dt us) cs
    -- only lists of one less matter
    have key : ∀ (xs : List Nat) (F G : List Nat → Int), (∀ x, x.length + 1 = xs.length → F x = G x) → pkZ u F xs = pkZ u G xs := by
      intro xs
      induction xs with
      | nil => intro F G _; rfl
      | cons c cs ih2 =>
        intro F G hh
        simp only [pkZ]
        rw [hh cs (by simp), ih2 (fun x => F (c :: x)) (fun x => G (c :: x)) (fun x hx => hh (c :: x) (by simp at hx ⊢; omega))]
    apply key
    intro x hx
    exact ih x (by simp at h; omega)
theorem lsum_app (us : List (Nat → Int)) (v : Nat → Int) (j : Nat) : ∀ C : Nat → Int, lsum (us ++ [v]) C j = lsum us C j + C us.length * v j := by
  induction us with
  | nil => intro C; simp [lsum]
  | cons u us ih => intro C; simp only [List.cons_append, lsum, List.length_cons]; rw [ih (fun i => C (i + 1))]; omega
theorem dt_zrow (us ws : List (Nat → Int)) (cs : List Nat) : dt (us ++ (fun _ => 0) :: ws) cs = 0 := by
  have := dt_scale us ws (fun _ => 0) 0 cs
  simp at this; exact this
/-- rows that stand ahead count nothing in the last row -/
theorem dt_lsum (us : List (Nat → Int)) (v : Nat → Int) (a : Int) (ts : List (Nat → Int)) (hts : ∀ t, t ∈ ts → t ∈ us) (cs : List Nat) : ∀ C : Nat → Int, dt (us ++ [fun c => lsum ts C c + a * v c]) cs = a * dt (us ++ [v]) cs := by
  induction ts with
  | nil => intro C; simp only [lsum, Int.zero_add]; exact dt_scale us [] v a cs
  | cons t ts ih =>
    intro C
    have e : (fun c => lsum (t :: ts) C c + a * v c) = fun c => (lsum ts (fun i => C (i + 1)) c + a * v c) + C 0 * t c := by funext c; simp only [lsum]; omega
    rw [e, dt_addmul us [] _ t (C 0) (.inl (hts t (by simp)))]
    exact ih (fun t ht => hts t (by simp [ht])) _
/-- a last row that is 0 but at the last column -/
theorem dt_zlast (vs : List (Nat → Int)) (v : Nat → Int) : ∀ cs, (∀ c, c ∈ cs → v c = 0) → dt (vs ++ [v]) cs = 0 := by
  induction vs with
  | nil => intro cs h; exact pkZ_all0 v cs _ (fun xs c ys e => .inl (h c (by rw [e]; simp)))
  | cons u us ih =>
    intro cs h
    refine pkZ_all0 u cs _ (fun xs c ys e => .inr ?_)
    apply ih
    intro d hd
    apply h d
    rw [e]
    simp at hd ⊢
    rcases hd with hd | hd
    · exact .inl hd
    · exact .inr (.inr hd)
theorem dt_end (vs : List (Nat → Int)) (v : Nat → Int) (j : Nat) : ∀ cs, (∀ c, c ∈ cs → v c = 0) → dt (vs ++ [v]) (cs ++ [j]) = v j * dt vs cs := by
  induction vs with
  | nil =>
    intro cs h
    match cs with
    | [] => simp [dt, pkZ]
    | c :: cs =>
      simp only [List.nil_append, List.cons_append, dt, pkZ]
      rw [h c (by simp), pkZ_all0]
      · simp
      · intro xs d ys e; right; simp
  | cons u us ih =>
    intro cs h
    have key : ∀ (cs : List Nat) (F G : List Nat → Int), (∀ c, c ∈ cs → v c = 0) → (∀ x, (∀ c, c ∈ x → v c = 0) → F x = 0) → (∀ x, (∀ c, c ∈ x → v c = 0) → F (x ++ [j]) = v j * G x) → pkZ u F (cs ++ [j]) = v j * pkZ u G cs := by
      intro cs
      induction cs with
      | nil => intro F G h1 h2 h3; simp only [List.nil_append, pkZ]; rw [h2 [] (by simp)]; simp
      | cons c cs ih2 =>
        intro F G h1 h2 h3
        simp only [List.cons_append, pkZ]
        have hcs : ∀ d, d ∈ cs → v d = 0 := fun d hd => h1 d (by simp [hd])
        have hcc : ∀ x, (∀ d, d ∈ x → v d = 0) → ∀ d, d ∈ c :: x → v d = 0 := by
          intro x hx d hd
          rcases List.mem_cons.mp hd with hd | hd
          · rw [hd]; exact h1 c (by simp)
          · exact hx d hd
        rw [h3 cs hcs, ih2 (fun x => F (c :: x)) (fun x => G (c :: x)) hcs (fun x hx => h2 (c :: x) (hcc x hx)) (fun x hx => h3 (c :: x) (hcc x hx))]
        rw [Int.mul_sub, Int.mul_left_comm]
    exact key cs (dt (us ++ [v])) (dt us) h (fun x hx => dt_zlast us v x hx) (fun x hx => ih x hx)
/-- more rows are 0 at some columns than there are others -/
theorem dt_block (q : Nat → Bool) (vs : List (Nat → Int)) (hq : ∀ v, v ∈ vs → ∀ c, q c = false → v c = 0) : ∀ cs : List Nat, cs.countP q < vs.length → dt vs cs = 0 := by
  induction vs with
  | nil => intro cs h; simp at h
  | cons v vs ih =>
    intro cs h
    refine pkZ_all0 v cs _ (fun xs c ys e => ?_)
    by_cases hc : q c = true
    · right
      apply ih (fun u hu => hq u (by simp [hu]))
      rw [e] at h
      simp only [List.countP_append, List.countP_cons, hc, if_true, List.length_cons] at h
      rw [List.countP_append]
      omega
    · left; exact hq v (by simp) c (by simpa using hc)
theorem dt_blocks (q : Nat → Bool) (us vs : List (Nat → Int)) (hq : ∀ v, v ∈ vs → ∀ c, q c = false → v c = 0) : ∀ cs : List Nat, cs.countP q < vs.length → dt (us ++ vs) cs = 0 := by
  induction us with
  | nil => exact dt_block q vs hq
  | cons u us ih =>
    intro cs h
    refine pkZ_all0 u cs _ (fun xs c ys e => .inr ?_)
    apply ih
    rw [e] at h
    simp only [List.countP_append, List.countP_cons] at h
    rw [List.countP_append]
    omega

theorem pkZ_cols (v : Nat → Int) (c d : Nat) (F : List Nat → Int) (ys : List Nat) (hF : ∀ xs ys, F (xs ++ c :: d :: ys) + F (xs ++ d :: c :: ys) = 0) : ∀ xs, pkZ v F (xs ++ c :: d :: ys) + pkZ v F (xs ++ d :: c :: ys) = 0 := by
  have h0 : ∀ F : List Nat → Int, (∀ xs ys, F (xs ++ c :: d :: ys) + F (xs ++ d :: c :: ys) = 0) → pkZ v F (c :: d :: ys) + pkZ v F (d :: c :: ys) = 0 := by
    intro F hF
    simp only [pkZ]
    have : pkZ v (fun x => F (c :: d :: x)) ys = pkZ v (fun x => -1 * F (d :: c :: x)) ys := by
      congr 1; funext x; have := hF [] x; simp only [List.nil_append] at this; omega
    rw [this, pkZ_mul]
    omega
  intro xs
  induction xs generalizing F with
  | nil => exact h0 F hF
  | cons e xs ih =>
    simp only [List.cons_append, pkZ]
    have h1 := hF xs ys
    have h2 := ih (fun x => F (e :: x)) (fun xs ys => hF (e :: xs) ys)
    have h3 : v e * F (xs ++ c :: d :: ys) + v e * F (xs ++ d :: c :: ys) = 0 := by rw [← Int.mul_add, h1, Int.mul_zero]
    omega
theorem dt_cols (vs : List (Nat → Int)) (c d : Nat) : ∀ xs ys, dt vs (xs ++ c :: d :: ys) + dt vs (xs ++ d :: c :: ys) = 0 := by
  induction vs with
  | nil => intro xs ys; simp [dt]
  | cons v vs ih => intro xs ys; exact pkZ_cols v c d (dt vs) ys ih xs
/-- a column that stands twice -/
theorem dt_col2 (vs : List (Nat → Int)) (c : Nat) : ∀ (ys xs zs : List Nat), dt vs (xs ++ c :: (ys ++ c :: zs)) = 0 := by
  intro ys
  induction ys with
  | nil => intro xs zs; have := dt_cols vs c c xs zs; simp only [List.nil_append]; omega
  | cons y ys ih =>
    intro xs zs
    have h1 := dt_cols vs c y xs (ys ++ c :: zs)
    have h2 := ih (xs ++ [y]) zs
    simp only [List.append_assoc, List.cons_append, List.nil_append] at h2 ⊢
    omega

/- rows in an order R; the first k of them with one more row -/
def tp (R : Nat → Nat → Int) (k : Nat) : List (Nat → Int) := (List.range k).map R
def mn (R : Nat → Nat → Int) (k : Nat) (v : Nat → Int) (j : Nat) : Int := dt (tp R k ++ [v]) (List.range k ++ [j])
def pv (R : Nat → Nat → Int) (k : Nat) : Int := dt (tp R k) (List.range k)
theorem tp_len (R : Nat → Nat → Int) (k : Nat) : (tp R k).length = k := by simp [tp]
theorem tp_s (R : Nat → Nat → Int) (k : Nat) : tp R (k + 1) = tp R k ++ [R k] := by simp [tp, List.range_succ]
theorem tp_mem {R : Nat → Nat → Int} {k i : Nat} (h : i < k) : R i ∈ tp R k := by simp only [tp, List.mem_map, List.mem_range]; exact ⟨i, h, rfl⟩
theorem pv_0 (R : Nat → Nat → Int) : pv R 0 = 1 := by simp [pv, tp, dt]
theorem pv_s (R : Nat → Nat → Int) (k : Nat) : pv R (k + 1) = mn R k (R k) k := by unfold pv mn; rw [tp_s, List.range_succ]
theorem mn_lin (R : Nat → Nat → Int) (k j : Nat) (v w : Nat → Int) (a b : Int) : mn R k (fun c => a * v c + b * w c) j = a * mn R k v j + b * mn R k w j := by
  unfold mn
  rw [dt_add (tp R k) [] (fun c => a * v c) (fun c => b * w c), dt_scale, dt_scale]
theorem mn_low (R : Nat → Nat → Int) (k : Nat) (v : Nat → Int) (j : Nat) (h : j < k) : mn R k v j = 0 := by
  unfold mn
  have e : List.range k = List.range j ++ j :: (List.range' (j + 1) (k - (j + 1))) := by
    apply List.ext_getElem
    · simp; omega
    · intro i h1 h2
      simp only [List.getElem_append, List.getElem_range, List.length_range, List.getElem_cons, List.getElem_range']
      split
      · rfl
      · split <;> omega
  rw [e, List.append_assoc, List.cons_append]
  exact dt_col2 _ j _ _ []
theorem mn_old (R : Nat → Nat → Int) (k j i : Nat) (h : i < k) : mn R k (R i) j = 0 := dt_two (tp R k) [] (R i) (tp_mem h) _
def cf (R : Nat → Nat → Int) (k : Nat) (v : Nat → Int) (i : Nat) : Int := cfs (tp R k ++ [v]) i (List.range k)
theorem mn_sum (R : Nat → Nat → Int) (k j : Nat) (v : Nat → Int) : mn R k v j = lsum (tp R k) (cf R k v) j + pv R k * v j := by
  unfold mn pv
  rw [dt_last, lsum_app]
  congr 1
  have := cfs_last (tp R k) v (List.range k) (by simp [tp])
  rw [← this]
theorem syl (R : Nat → Nat → Int) (k j : Nat) (v : Nat → Int) (h : pv R (k + 1) ≠ 0) :
    pv R k * mn R (k + 1) v j = mn R k v j * pv R (k + 1) - mn R k v k * mn R k (R k) j := by
  obtain ⟨a, ha⟩ : ∃ a, a = pv R (k + 1) := ⟨_, rfl⟩
  obtain ⟨b, hb⟩ : ∃ b, b = mn R k v k := ⟨_, rfl⟩
  obtain ⟨w, hw⟩ : ∃ w : Nat → Int, w = fun c => a * v c + (-b) * R k c := ⟨_, rfl⟩
  have hu : ∀ c, mn R k w c = a * mn R k v c - b * mn R k (R k) c := by intro c; rw [hw, mn_lin, Int.neg_mul]; omega
  have hz : ∀ c, c ∈ List.range (k + 1) → mn R k w c = 0 := by
    intro c hc
    have hc' : c < k + 1 := by simpa using hc
    by_cases h1 : c < k
    · exact mn_low R k w c h1
    · obtain rfl : c = k := by omega
      rw [hu, ← pv_s, ← hb, ← ha, Int.mul_comm]; omega
  have h1 : dt (tp R (k + 1) ++ [fun c => mn R k w c]) (List.range (k + 1) ++ [j]) = mn R k w j * pv R (k + 1) := dt_end (tp R (k + 1)) (fun c => mn R k w c) j (List.range (k + 1)) hz
  have h2 : (fun c => mn R k w c) = fun c => lsum (tp R k) (cf R k w) c + pv R k * w c := by funext c; exact mn_sum R k c w
  rw [h2, dt_lsum (tp R (k + 1)) w (pv R k) (tp R k) (by intro t ht; rw [tp_s]; simp [ht])] at h1
  have h3 : dt (tp R (k + 1) ++ [w]) (List.range (k + 1) ++ [j]) = a * mn R (k + 1) v j := by
    have := mn_lin R (k + 1) j v (R k) a (-b)
    rw [mn_old R (k + 1) j k (by omega)] at this
    rw [hw]; unfold mn at this ⊢; rw [this]; omega
  rw [h3, hu, ← ha] at h1
  rw [← ha, ← hb]
  have ha0 : a ≠ 0 := by rw [ha]; exact h
  apply Int.eq_of_mul_eq_mul_left ha0
  have e1 : a * (pv R k * mn R (k + 1) v j) = pv R k * (a * mn R (k + 1) v j) := Int.mul_left_comm _ _ _
  rw [e1, h1, Int.mul_comm, Int.mul_comm a (mn R k v j)]

/- numbers that are congruent modulo q (equal for q = 0) -/
def cq (q x y : Int) : Prop := q ∣ x - y
theorem cq_refl (q x : Int) : cq q x x := by unfold cq; rw [Int.sub_self]; exact Int.dvd_zero q
theorem cq_trans {q x y z : Int} (h : cq q x y) (k : cq q y z) : cq q x z := by
  have := Int.dvd_add h k
  have e : x - y + (y - z) = x - z := by omega
  rw [e] at this; exact this
theorem cq_symm {q x y : Int} (h : cq q x y) : cq q y x := by
  have := Int.dvd_neg.2 h
  have e : -(x - y) = y - x := by omega
  rw [e] at this; exact this
theorem cq_add {q x y x' y' : Int} (h : cq q x y) (k : cq q x' y') : cq q (x + x') (y + y') := by
  have := Int.dvd_add h k
  have e : x - y + (x' - y') = x + x' - (y + y') := by omega
  rw [e] at this; exact this
theorem cq_sub {q x y x' y' : Int} (h : cq q x y) (k : cq q x' y') : cq q (x - x') (y - y') := by
  have := Int.dvd_sub h k
  have e : x - y - (x' - y') = x - x' - (y - y') := by omega
  rw [e] at this; exact this
theorem cq_mul {q x y x' y' : Int} (h : cq q x y) (k : cq q x' y') : cq q (x * x') (y * y') := by
  obtain ⟨a, ha⟩ := h
  obtain ⟨b, hb⟩ := k
  refine ⟨a * x' + y * b, ?_⟩
  have h1 : x = y + q * a := by omega
  rw [Int.mul_add]
  have h2 : y * (q * b) = y * (x' - y') := by rw [hb]
  have e3 : q * (y * b) = y * (q * b) := Int.mul_left_comm _ _ _
  have e4 : q * (a * x') = (x - y) * x' := by rw [ha, Int.mul_assoc]
  rw [e3, h2, e4, Int.sub_mul, Int.mul_sub]
  omega
theorem cq_emod (q x : Int) : cq q (x % q) x := by
  refine ⟨-(x / q), ?_⟩
  have := Int.emod_add_mul_ediv x q
  rw [Int.mul_neg]; omega
theorem cq_iff {q x y : Int} : cq q x y ↔ x % q = y % q := by
  unfold cq; rw [Int.dvd_iff_emod_eq_zero, Int.emod_eq_emod_iff_emod_sub_eq_zero]
theorem pkZ_cq (q : Int) (v w : Nat → Int) (cs : List Nat) (h : ∀ c, c ∈ cs → cq q (v c) (w c)) : ∀ F G : List Nat → Int, (∀ x, (∀ c, c ∈ x → c ∈ cs) → cq q (F x) (G x)) → cq q (pkZ v F cs) (pkZ w G cs) := by
  induction cs with
  | nil => intro F G _; exact cq_refl q _
  | cons c cs ih =>
    intro F G hF
    simp only [pkZ]
    refine cq_sub (cq_mul (h c List.mem_cons_self) (hF cs (fun d hd => List.mem_cons_of_mem _ hd))) (ih (fun x hx => h x (List.mem_cons_of_mem _ hx)) _ _ (fun x hx => hF (c :: x) ?_))
    intro d hd
    rcases List.mem_cons.mp hd with hd | hd
    · rw [hd]; exact List.mem_cons_self
    · exact List.mem_cons_of_mem _ (hx d hd)
/-- the determinant modulo q -/
theorem dt_cq (q : Int) (f g : Nat → Nat → Int) (is : List Nat) : ∀ cs : List Nat, (∀ i, i ∈ is → ∀ c, c ∈ cs → cq q (f i c) (g i c)) → cq q (dt (is.map f) cs) (dt (is.map g) cs) := by
  induction is with
  | nil => intro cs _; exact cq_refl q _
  | cons i is ih =>
    intro cs h
    exact pkZ_cq q (f i) (g i) cs (h i List.mem_cons_self) _ _ (fun x hx => ih x (fun l hl c hc => h l (List.mem_cons_of_mem _ hl) c (hx c hc)))

theorem dt_lsumw (us ws : List (Nat → Int)) (v : Nat → Int) (a : Int) (ts : List (Nat → Int)) (hts : ∀ t, t ∈ ts → t ∈ us) (cs : List Nat) : ∀ C : Nat → Int, dt (us ++ (fun c => lsum ts C c + a * v c) :: ws) cs = a * dt (us ++ v :: ws) cs := by
  induction ts with
  | nil => intro C; simp only [lsum, Int.zero_add]; exact dt_scale us ws v a cs
  | cons t ts ih =>
    intro C
    have e : (fun c => lsum (t :: ts) C c + a * v c) = fun c => (lsum ts (fun i => C (i + 1)) c + a * v c) + C 0 * t c := by funext c; simp only [lsum]; omega
    rw [e, dt_addmul us ws _ t (C 0) (.inl (hts t (by simp)))]
    exact ih (fun t ht => hts t (by simp [ht])) _
theorem clear_rows (R : Nat → Nat → Int) (k : Nat) (cs : List Nat) : ∀ (ws us : List (Nat → Int)), (∀ t, t ∈ tp R k → t ∈ us) → dt (us ++ ws.map (fun w => mn R k w)) cs = pv R k ^ ws.length * dt (us ++ ws) cs := by
  intro ws
  induction ws with
  | nil => intro us h; simp
  | cons w ws ih =>
    intro us h
    have e : (fun c => mn R k w c) = fun c => lsum (tp R k) (cf R k w) c + pv R k * w c := funext (fun c => mn_sum R k c w)
    have e2 : mn R k w = fun c => lsum (tp R k) (cf R k w) c + pv R k * w c := e
    simp only [List.map_cons, List.length_cons]
    rw [e2, dt_lsumw us _ w (pv R k) (tp R k) h]
    have h2 := ih (us ++ [w]) (fun t ht => by simp [h t ht])
    simp only [List.append_assoc, List.cons_append, List.nil_append] at h2
    rw [h2, ← Int.mul_assoc, Int.pow_succ, Int.mul_comm (pv R k)]
theorem tp_split (R : Nat → Nat → Int) (k m : Nat) : tp R (k + m) = tp R k ++ (List.range' k m).map R := by
  unfold tp
  rw [List.range_eq_range', List.range_eq_range', ← List.map_append]
  congr 1
  have := List.range'_append (s := 0) (m := k) (n := m) (step := 1)
  simp at this
  exact this.symm
/-- what can be cancelled modulo q -/
def reg (q a : Int) : Prop := ∀ x, q ∣ a * x → q ∣ x
theorem reg_pow {q a : Int} (h : reg q a) : ∀ (m : Nat) (x : Int), q ∣ a ^ m * x → q ∣ x := by
  intro m
  induction m with
  | zero => intro x hx; simpa using hx
  | succ m ih =>
    intro x hx
    apply h
    apply ih
    rw [Int.pow_succ, Int.mul_assoc] at hx
    exact hx
theorem reg_0 {a : Int} (h : a ≠ 0) : reg 0 a := by
  intro x hx
  have := Int.zero_dvd.1 hx
  rcases Int.mul_eq_zero.1 this with h1 | h1
  · exact absurd h1 h
  · rw [h1]; exact Int.dvd_zero 0
theorem countP_low (k m : Nat) : (List.range (k + 1 + m)).countP (fun c => decide (k < c)) = m := by
  have e : List.range (k + 1 + m) = List.range (k + 1) ++ List.range' (k + 1) m := by
    rw [List.range_eq_range', List.range_eq_range']
    have := List.range'_append (s := 0) (m := k + 1) (n := m) (step := 1)
    simp at this
    exact this.symm
  rw [e, List.countP_append]
  have h1 : (List.range (k + 1)).countP (fun c => decide (k < c)) = 0 := by
    rw [List.countP_eq_zero]; intro c hc; have : c < k + 1 := by simpa using hc
    simp; omega
  have h2 : (List.range' (k + 1) m).countP (fun c => decide (k < c)) = (List.range' (k + 1) m).length := by
    rw [List.countP_eq_length]; intro c hc; have := List.mem_range'_1.1 hc; simp; omega
  rw [h1, h2]; simp
/-- a column without a number other than 0 from its place on -/
theorem no_pivot (q : Int) (R : Nat → Nat → Int) (k m : Nat) (hr : reg q (pv R k)) (h : ∀ i, k ≤ i → i < k + 1 + m → mn R k (R i) k % q = 0) : q ∣ dt (tp R (k + 1 + m)) (List.range (k + 1 + m)) := by
  obtain ⟨N, hN⟩ : ∃ N, N = k + 1 + m := ⟨_, rfl⟩
  have e : k + 1 + m = k + (m + 1) := by omega
  rw [e, tp_split, ← e]
  apply reg_pow hr (List.range' k (m + 1)).length
  have h1 := clear_rows R k (List.range (k + 1 + m)) ((List.range' k (m + 1)).map R) (tp R k) (fun t ht => ht)
  rw [List.length_map] at h1
  rw [← h1]
  have e2 : tp R k ++ ((List.range' k (m + 1)).map R).map (fun w => mn R k w) = (List.range (k + (m + 1))).map (fun i => if i < k then R i else mn R k (R i)) := by
    have := tp_split (fun i => if i < k then R i else mn R k (R i)) k (m + 1)
    unfold tp at this ⊢
    rw [this]
    congr 1
    · apply List.map_congr_left; intro i hi; have : i < k := by simpa using hi
      rw [if_pos this]
    · rw [List.map_map]; apply List.map_congr_left; intro i hi; have := List.mem_range'_1.1 hi
      rw [if_neg (by omega)]; rfl
  rw [e2]
  have h2 := dt_cq q (fun i => if i < k then R i else mn R k (R i)) (fun i => if i < k then R i else fun c => if c ≤ k then 0 else mn R k (R i) c) (List.range (k + (m + 1))) (List.range (k + 1 + m)) (by
    intro i hi c hc
    have hi' : i < k + (m + 1) := by simpa using hi
    have hc' : c < k + 1 + m := by simpa using hc
    by_cases h1 : i < k
    · rw [if_pos h1, if_pos h1]; exact cq_refl q _
    · rw [if_neg h1, if_neg h1]
      by_cases h2 : c ≤ k
      · simp only [if_pos h2]
        by_cases h3 : c < k
        · rw [mn_low R k (R i) c h3]; exact cq_refl q _
        · obtain rfl : c = k := by omega
          rw [cq_iff, h i (by omega) (by omega)]; simp
      · simp only [if_neg h2]; exact cq_refl q _)
  have h3 : dt ((List.range (k + (m + 1))).map (fun i => if i < k then R i else fun c => if c ≤ k then 0 else mn R k (R i) c)) (List.range (k + 1 + m)) = 0 := by
    have h4 := tp_split (fun i => if i < k then R i else fun c => if c ≤ k then 0 else mn R k (R i) c) k (m + 1)
    unfold tp at h4
    rw [h4]
    apply dt_blocks (fun c => decide (k < c))
    · intro v hv c hc
      obtain ⟨i, hi, rfl⟩ := List.mem_map.1 hv
      have := List.mem_range'_1.1 hi
      have hc' : c ≤ k := by simp at hc; omega
      rw [if_neg (by omega)]; simp only [if_pos hc']
    · rw [countP_low]; simp
  rw [h3] at h2
  unfold cq at h2
  simpa using h2

/-- two rows change their places, one with the other sign -/
def swn (R : Nat → Nat → Int) (a b : Nat) : Nat → Nat → Int := fun i => if i = a then fun c => - R b c else if i = b then R a else R i
theorem tp_cut (R : Nat → Nat → Int) (a d e : Nat) : tp R (a + 1 + d + 1 + e) = tp R a ++ R a :: ((List.range' (a + 1) d).map R ++ R (a + 1 + d) :: (List.range' (a + 1 + d + 1) e).map R) := by
  have e1 : a + 1 + d + 1 + e = a + (1 + (d + (1 + e))) := by omega
  rw [e1, tp_split]
  congr 1
  have h : ∀ s n m : Nat, List.range' s (n + m) = List.range' s n ++ List.range' (s + n) m := by
    intro s n m
    have := List.range'_append (s := s) (m := n) (n := m) (step := 1)
    rw [Nat.one_mul] at this
    exact this.symm
  rw [h a 1, h (a + 1) d, h (a + 1 + d) 1]
  simp
theorem swn_dt (R : Nat → Nat → Int) (a b N : Nat) (hab : a < b) (hb : b < N) (cs : List Nat) : dt (tp (swn R a b) N) cs = dt (tp R N) cs := by
  obtain ⟨d, rfl⟩ : ∃ d, b = a + 1 + d := ⟨b - (a + 1), by omega⟩
  obtain ⟨e, rfl⟩ : ∃ e, N = a + 1 + d + 1 + e := ⟨N - (a + 1 + d + 1), by omega⟩
  rw [tp_cut, tp_cut R]
  have e1 : tp (swn R a (a + 1 + d)) a = tp R a := by
    unfold tp; apply List.map_congr_left; intro i hi; have : i < a := by simpa using hi
    unfold swn; rw [if_neg (by omega), if_neg (by omega)]
  have e2 : (List.range' (a + 1) d).map (swn R a (a + 1 + d)) = (List.range' (a + 1) d).map R := by
    apply List.map_congr_left; intro i hi; have := List.mem_range'_1.1 hi
    unfold swn; rw [if_neg (by omega), if_neg (by omega)]
  have e3 : (List.range' (a + 1 + d + 1) e).map (swn R a (a + 1 + d)) = (List.range' (a + 1 + d + 1) e).map R := by
    apply List.map_congr_left; intro i hi; have := List.mem_range'_1.1 hi
    unfold swn; rw [if_neg (by omega), if_neg (by omega)]
  have e4 : swn R a (a + 1 + d) a = fun c => (-1) * R (a + 1 + d) c := by unfold swn; rw [if_pos rfl]; funext c; omega
  have e5 : swn R a (a + 1 + d) (a + 1 + d) = R a := by unfold swn; rw [if_neg (by omega), if_pos rfl]
  rw [e1, e2, e3, e4, e5, dt_scale]
  have := dt_swap (tp R a) ((List.range' (a + 1) d).map R) ((List.range' (a + 1 + d + 1) e).map R) (R a) (R (a + 1 + d)) cs
  omega
theorem swn_mn (R : Nat → Nat → Int) (a b : Nat) (hab : a < b) (v : Nat → Int) (j : Nat) : mn (swn R a b) a v j = mn R a v j := by
  unfold mn
  congr 2
  unfold tp; apply List.map_congr_left; intro i hi; have : i < a := by simpa using hi
  unfold swn; rw [if_neg (by omega), if_neg (by omega)]
theorem swn_pv (R : Nat → Nat → Int) (a b : Nat) (hab : a < b) : pv (swn R a b) a = pv R a := by
  unfold pv
  congr 1
  unfold tp; apply List.map_congr_left; intro i hi; have : i < a := by simpa using hi
  unfold swn; rw [if_neg (by omega), if_neg (by omega)]
theorem mn_neg (R : Nat → Nat → Int) (k : Nat) (v : Nat → Int) (j : Nat) : mn R k (fun c => - v c) j = - mn R k v j := by
  have := mn_lin R k j v v (-1) 0
  have e : (fun c => -1 * v c + 0 * v c) = fun c => - v c := by funext c; omega
  rw [e] at this
  omega

end Go.Proofs.Ytnblhkhdilkbeaa
