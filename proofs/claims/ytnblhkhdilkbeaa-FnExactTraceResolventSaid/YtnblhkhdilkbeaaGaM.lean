/- Elimination modulo a prime: steps on rows, and the rule of Cramer. Plain mathematics. -/
import Derived.Test.YtnblhkhdilkbeaaBaR
set_option linter.unusedSimpArgs false
set_option linter.unusedVariables false
namespace Go.Proofs.Ytnblhkhdilkbeaa


/- the rows of Gauss: each step keeps the determinants at any columns, times what has been taken out -/
def eqOff (n m : Nat) (T T' : Nat → Nat → Int) : Prop := ∀ i, i < n → i ≠ m → T' i = T i
theorem tp_at (T : Nat → Nat → Int) (m e : Nat) : tp T (m + (1 + e)) = tp T m ++ T m :: (List.range' (m + 1) e).map T := by
  rw [tp_split]
  congr 1
  have := List.range'_append (s := m) (m := 1) (n := e) (step := 1)
  rw [Nat.one_mul] at this
  rw [← this]; simp
theorem tp_off {n m e : Nat} {T T' : Nat → Nat → Int} (hn : n = m + (1 + e)) (h : eqOff n m T T') : tp T' m = tp T m ∧ (List.range' (m + 1) e).map T' = (List.range' (m + 1) e).map T := by
  constructor
  · unfold tp; apply List.map_congr_left; intro i hi; have hi' : i < m := by simpa using hi
    exact h i (by omega) (by omega)
  · apply List.map_congr_left; intro i hi; have := List.mem_range'_1.1 hi
    exact h i (by omega) (by omega)
theorem ga_row (T T' : Nat → Nat → Int) (n m : Nat) (hm : m < n) (h : eqOff n m T T') (hr : T' m = T m) (cs : List Nat) : dt (tp T' n) cs = dt (tp T n) cs := by
  congr 1
  unfold tp; apply List.map_congr_left; intro i hi; have hi' : i < n := by simpa using hi
  by_cases e : i = m
  · subst e; exact hr
  · exact h i hi' e
theorem ga_cq (p : Int) (T T' : Nat → Nat → Int) (n : Nat) (cs : List Nat) (h : ∀ i c, i < n → c ∈ cs → cq p (T' i c) (T i c)) : cq p (dt (tp T' n) cs) (dt (tp T n) cs) :=
  dt_cq p T' T (List.range n) cs (fun i hi c hc => h i c (by simpa using hi) hc)
def setRw (T : Nat → Nat → Int) (m : Nat) (v : Nat → Int) : Nat → Nat → Int := fun i => if i = m then v else T i
theorem setRw_off (n : Nat) (T : Nat → Nat → Int) (m : Nat) (v : Nat → Int) : eqOff n m T (setRw T m v) := fun i _ h => by unfold setRw; rw [if_neg h]
theorem ga_scale (p : Int) (T T' : Nat → Nat → Int) (n m : Nat) (a : Int) (hm : m < n) (h : eqOff n m T T') (cs : List Nat) (hr : ∀ c, c ∈ cs → cq p (T' m c) (a * T m c)) : cq p (dt (tp T' n) cs) (a * dt (tp T n) cs) := by
  obtain ⟨e, rfl⟩ : ∃ e, n = m + (1 + e) := ⟨n - (m + 1), by omega⟩
  have h1 : cq p (dt (tp T' (m + (1 + e))) cs) (dt (tp (setRw T m (fun c => a * T m c)) (m + (1 + e))) cs) := ga_cq p _ _ _ cs (by
    intro i c hi hc
    by_cases e1 : i = m
    · subst e1; unfold setRw; rw [if_pos rfl]; exact hr c hc
    · rw [h i hi e1, setRw_off (m + (1 + e)) T m _ i hi e1]; exact cq_refl p _)
  refine cq_trans h1 ?_
  obtain ⟨o1, o2⟩ := tp_off (e := e) rfl (setRw_off (m + (1 + e)) T m (fun c => a * T m c))
  rw [tp_at, tp_at, o1, o2]
  have : setRw T m (fun c => a * T m c) m = fun c => a * T m c := by unfold setRw; rw [if_pos rfl]
  rw [this, dt_scale]; exact cq_refl p _
theorem ga_add (p : Int) (T T' : Nat → Nat → Int) (n m l : Nat) (t : Int) (hm : m < n) (hl : l < n) (hml : l ≠ m) (h : eqOff n m T T') (cs : List Nat) (hr : ∀ c, c ∈ cs → cq p (T' m c) (T m c + t * T l c)) : cq p (dt (tp T' n) cs) (dt (tp T n) cs) := by
  obtain ⟨e, rfl⟩ : ∃ e, n = m + (1 + e) := ⟨n - (m + 1), by omega⟩
  have h1 : cq p (dt (tp T' (m + (1 + e))) cs) (dt (tp (setRw T m (fun c => T m c + t * T l c)) (m + (1 + e))) cs) := ga_cq p _ _ _ cs (by
    intro i c hi hc
    by_cases e1 : i = m
    · subst e1; unfold setRw; rw [if_pos rfl]; exact hr c hc
    · rw [h i hi e1, setRw_off (m + (1 + e)) T m _ i hi e1]; exact cq_refl p _)
  refine cq_trans h1 ?_
  obtain ⟨o1, o2⟩ := tp_off (e := e) rfl (setRw_off (m + (1 + e)) T m (fun c => T m c + t * T l c))
  rw [tp_at, tp_at, o1, o2]
  have : setRw T m (fun c => T m c + t * T l c) m = fun c => T m c + t * T l c := by unfold setRw; rw [if_pos rfl]
  rw [this, dt_addmul]
  · exact cq_refl p _
  · by_cases h2 : l < m
    · exact .inl (tp_mem h2)
    · exact .inr (List.mem_map.2 ⟨l, List.mem_range'_1.2 ⟨by omega, by omega⟩, rfl⟩)
def swp (T : Nat → Nat → Int) (a b : Nat) : Nat → Nat → Int := fun i => if i = a then T b else if i = b then T a else T i
theorem swp_dt (R : Nat → Nat → Int) (a b N : Nat) (hab : a < b) (hb : b < N) (cs : List Nat) : dt (tp (swp R a b) N) cs = - dt (tp R N) cs := by
  have h1 := swn_dt R a b N hab hb cs
  have h2 := ga_scale 0 (swp R a b) (swn R a b) N a (-1) (by omega) (fun i hi ha => by unfold swp swn; rw [if_neg ha, if_neg ha]) cs (fun c hc => by
    unfold swp swn; rw [if_pos rfl, if_pos rfl, Int.neg_one_mul]; exact cq_refl 0 _)
  have := Int.zero_dvd.1 h2
  omega
theorem dt_unit (T : Nat → Nat → Int) (n : Nat) : ∀ m, m ≤ n → (∀ i c, i < n → c < n → T i c = if i = c then 1 else 0) → dt (tp T m) (List.range m) = 1 := by
  intro m
  induction m with
  | zero => intro _ _; simp [tp, dt]
  | succ m ih =>
    intro hm h
    rw [tp_s, List.range_succ, dt_end]
    · rw [h m m (by omega) (by omega), if_pos rfl, ih (by omega) h]; rfl
    · intro c hc
      have : c < m := by simpa using hc
      rw [h m c (by omega) (by omega), if_neg (by omega)]
/-- a column with zeros from its place on, behind columns of the unit matrix -/
theorem ga_none (T : Nat → Nat → Int) (n c : Nat) (hc : c < n) (h : ∀ i l, i < n → l < c → T i l = if i = l then 1 else 0) (hz : ∀ i, c ≤ i → i < n → T i c = 0) : dt (tp T n) (List.range n) = 0 := by
  obtain ⟨m, rfl⟩ : ∃ m, n = c + 1 + m := ⟨n - (c + 1), by omega⟩
  have e : c + 1 + m = c + (m + 1) := by omega
  have h1 : tp T (c + 1 + m) = tp T c ++ (List.range' c (m + 1)).map T := by rw [e, tp_split]
  rw [h1]
  apply dt_blocks (fun l => decide (c < l) || decide (c + 1 + m ≤ l))
  · intro v hv l hl
    obtain ⟨i, hi, rfl⟩ := List.mem_map.1 hv
    have hi' := List.mem_range'_1.1 hi
    simp at hl
    by_cases e1 : l = c
    · subst e1; exact hz i (by omega) (by omega)
    · rw [h i l (by omega) (by omega), if_neg (by omega)]
  · have h2 : (List.range (c + 1 + m)).countP (fun l => decide (c < l) || decide (c + 1 + m ≤ l)) = (List.range (c + 1 + m)).countP (fun l => decide (c < l)) := by
      apply List.countP_congr
      intro x hx
      have : x < c + 1 + m := by simpa using hx
      simp; omega
    rw [h2, countP_low]; simp
/- moving a row, and a column, to the end -/
theorem row_move (v : Nat → Int) : ∀ (ws us : List (Nat → Int)) (cs : List Nat), dt (us ++ v :: ws) cs = sgN ws.length * dt (us ++ ws ++ [v]) cs := by
  intro ws
  induction ws with
  | nil => intro us cs; simp [sgN]
  | cons w ws ih =>
    intro us cs
    have h1 := dt_next us ws v w cs
    have h2 := ih (us ++ [w]) cs
    simp only [List.append_assoc, List.cons_append, List.nil_append] at h2 ⊢
    simp only [List.length_cons, sgN, Int.neg_mul]
    omega
theorem col_move (vs : List (Nat → Int)) (c : Nat) : ∀ (ys xs : List Nat), dt vs (xs ++ c :: ys) = sgN ys.length * dt vs (xs ++ ys ++ [c]) := by
  intro ys
  induction ys with
  | nil => intro xs; simp [sgN]
  | cons y ys ih =>
    intro xs
    have h1 := dt_cols vs c y xs ys
    have h2 := ih (xs ++ [y])
    simp only [List.append_assoc, List.cons_append, List.nil_append] at h2 ⊢
    simp only [List.length_cons, sgN, Int.neg_mul]
    omega
theorem sgN_sq (n : Nat) : sgN n * sgN n = 1 := by
  induction n with
  | zero => rfl
  | succ n ih => simp only [sgN, Int.neg_mul_neg]; exact ih
theorem dt_units (T : Nat → Nat → Int) : ∀ is : List Nat, is.Pairwise (· < ·) → (∀ i c, i ∈ is → c ∈ is → T i c = if i = c then 1 else 0) → dt (is.map T) is = 1 := by
  intro is
  generalize hn : is.length = n
  induction n generalizing is with
  | zero => intro _ _; have := List.length_eq_zero_iff.1 hn; subst this; simp [dt]
  | succ n ih =>
    intro hp h
    have hne : is ≠ [] := by intro e; subst e; simp at hn
    obtain ⟨xs, x, rfl⟩ : ∃ xs x, is = xs ++ [x] := ⟨is.dropLast, is.getLast hne, (List.dropLast_concat_getLast hne).symm⟩
    have hlt : ∀ c, c ∈ xs → c < x := fun c hc => (List.pairwise_append.1 hp).2.2 c hc x (by simp)
    rw [List.map_append, List.map_cons, List.map_nil, dt_end]
    · rw [h x x (by simp) (by simp), if_pos rfl, ih xs (by simpa using hn) (List.pairwise_append.1 hp).1 (fun i c hi hc => h i c (by simp [hi]) (by simp [hc]))]; rfl
    · intro c hc
      rw [h x c (by simp) (by simp [hc]), if_neg (by have := hlt c hc; omega)]
/-- the unit matrix with another column at e -/
theorem dt_cramer (T : Nat → Nat → Int) (n e z : Nat) (he : e < n) (hz : n ≤ z) (h : ∀ i c, i < n → c < n → T i c = if i = c then 1 else 0) :
    dt (tp T n) ((List.range n).map (fun c => if c = e then z else c)) = T e z := by
  obtain ⟨m, rfl⟩ : ∃ m, n = e + (1 + m) := ⟨n - (e + 1), by omega⟩
  have hc : (List.range (e + (1 + m))).map (fun c => if c = e then z else c) = List.range e ++ z :: List.range' (e + 1) m := by
    have h1 : ∀ g : Nat → Nat, (List.range (e + (1 + m))).map g = (List.range e).map g ++ g e :: (List.range' (e + 1) m).map g := by
      intro g
      rw [List.range_eq_range', List.range_eq_range']
      have h2 := List.range'_append (s := 0) (m := e) (n := 1 + m) (step := 1)
      have h3 := List.range'_append (s := e) (m := 1) (n := m) (step := 1)
      rw [Nat.one_mul, Nat.zero_add] at h2
      rw [Nat.one_mul] at h3
      rw [← h2, ← h3]; simp
    rw [h1]
    congr 1
    · conv => rhs; rw [← List.map_id (List.range e)]
      apply List.map_congr_left; intro i hi; have hi' : i < e := by simpa using hi
      simp; omega
    · congr 1
      · simp
      · conv => rhs; rw [← List.map_id (List.range' (e + 1) m)]
        apply List.map_congr_left; intro i hi; have := List.mem_range'_1.1 hi
        simp; omega
  rw [hc, tp_at, row_move, col_move, dt_end]
  · have e1 : tp T e ++ (List.range' (e + 1) m).map T = (List.range e ++ List.range' (e + 1) m).map T := by unfold tp; rw [List.map_append]
    rw [e1, dt_units]
    · simp only [List.length_map, List.length_range']
      have := sgN_sq m
      rw [Int.mul_one, ← Int.mul_assoc, this, Int.one_mul]
    · rw [List.pairwise_append]
      refine ⟨List.pairwise_lt_range, List.pairwise_lt_range', ?_⟩
      intro a ha b hb
      have h1 : a < e := by simpa using ha
      have h2 := List.mem_range'_1.1 hb
      omega
    · have hin : ∀ x, x ∈ List.range e ++ List.range' (e + 1) m → x < e + (1 + m) := by
        intro x hx
        rcases List.mem_append.1 hx with h1 | h1
        · have : x < e := by simpa using h1
          omega
        · have := List.mem_range'_1.1 h1; omega
      intro i c hi hc
      exact h i c (hin i hi) (hin c hc)
  · intro c hc
    rcases List.mem_append.1 hc with h1 | h1
    · have : c < e := by simpa using h1
      rw [h e c (by omega) (by omega), if_neg (by omega)]
    · have := List.mem_range'_1.1 h1
      rw [h e c (by omega) (by omega), if_neg (by omega)]
theorem dt_relabel (f : Nat → Nat → Int) (g : Nat → Nat) (is : List Nat) : ∀ cs, dt (is.map f) (cs.map g) = dt (is.map (fun i c => f i (g c))) cs := by
  have key : ∀ (v : Nat → Int) (cs : List Nat) (F G : List Nat → Int), (∀ x, F (x.map g) = G x) → pkZ v F (cs.map g) = pkZ (fun c => v (g c)) G cs := by
    intro v cs
    induction cs with
    | nil => intro F G _; rfl
    | cons c cs ih =>
      intro F G h
      simp only [List.map_cons, pkZ]
      rw [h cs, ih (fun x => F (g c :: x)) (fun x => G (c :: x)) (fun x => h (c :: x))]
  induction is with
  | nil => intro cs; simp [dt]
  | cons i is ih => intro cs; exact key (f i) cs _ _ (fun x => ih x)

end Go.Proofs.Ytnblhkhdilkbeaa
