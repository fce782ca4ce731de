/- Minors of edge rows are at most 2^30, in any order of the rows and with any signs. -/
import Derived.Test.YtnblhkhdilkbeaaBaR
import Derived.Test.YtnblhkhdilkbeaaEdF
set_option linter.unusedSimpArgs false
set_option linter.unusedVariables false
namespace Go.Proofs.Ytnblhkhdilkbeaa


theorem nL_sum (v : Nat → Int) (cs : List Nat) : nL v cs = sumL (fun c => (v c).natAbs) cs := by
  induction cs with
  | nil => rfl
  | cons c cs ih => simp only [nL, sumL, ih]
noncomputable def rowF (hd : Nat → Nat) (f : Nat → Nat → Int) (m i : Nat) : Nat → Int := if i < m ∧ ¬ isP hd i then fun c => f i c + (-1) * f (piv hd i) c else f i
theorem rowF_dt (hd : Nat → Nat) (f : Nat → Nat → Int) (n : Nat) (cs : List Nat) : ∀ m, m ≤ n → dt (tp (rowF hd f m) n) cs = dt (tp f n) cs := by
  intro m
  induction m with
  | zero =>
    intro _
    have : rowF hd f 0 = f := by funext i; unfold rowF; rw [if_neg (by omega)]
    rw [this]
  | succ m ih =>
    intro hm
    rw [← ih (by omega)]
    by_cases hp : isP hd m
    · have : rowF hd f (m + 1) = rowF hd f m := by
        funext i
        unfold rowF
        by_cases e : i = m
        · subst e; rw [if_neg (fun x => x.2 hp), if_neg (fun x => x.2 hp)]
        · have : (i < m + 1 ∧ ¬ isP hd i) ↔ (i < m ∧ ¬ isP hd i) := by constructor <;> (intro h; exact ⟨by omega, h.2⟩)
          simp only [this]
      rw [this]
    · obtain ⟨h1, h2, h3⟩ := piv_spec hd m hp
      obtain ⟨e, rfl⟩ : ∃ e, n = m + (1 + e) := ⟨n - (m + 1), by omega⟩
      have hs : ∀ g : Nat → Nat → Int, tp g (m + (1 + e)) = tp g m ++ g m :: (List.range' (m + 1) e).map g := by
        intro g
        rw [tp_split]
        congr 1
        have := List.range'_append (s := m) (m := 1) (n := e) (step := 1)
        rw [Nat.one_mul] at this
        rw [← this]; simp
      rw [hs, hs]
      have e1 : tp (rowF hd f (m + 1)) m = tp (rowF hd f m) m := by
        unfold tp; apply List.map_congr_left; intro i hi; have hi' : i < m := by simpa using hi
        unfold rowF
        have : (i < m + 1 ∧ ¬ isP hd i) ↔ (i < m ∧ ¬ isP hd i) := by constructor <;> (intro h; exact ⟨by omega, h.2⟩)
        simp only [this]
      have e2 : (List.range' (m + 1) e).map (rowF hd f (m + 1)) = (List.range' (m + 1) e).map (rowF hd f m) := by
        apply List.map_congr_left; intro i hi; have := List.mem_range'_1.1 hi
        unfold rowF; rw [if_neg (by omega), if_neg (by omega)]
      have e3 : rowF hd f (m + 1) m = fun c => rowF hd f m m c + (-1) * f (piv hd m) c := by
        unfold rowF; rw [if_pos ⟨by omega, hp⟩, if_neg (by omega)]
      have e4 : f (piv hd m) = rowF hd f m (piv hd m) := by unfold rowF; rw [if_neg (fun x => x.2 h3)]
      rw [e1, e2, e3]
      apply dt_addmul
      left
      rw [e4]
      exact tp_mem h1
theorem sumL_indd (a : Nat) (d : Nat → Nat) (cs : List Nat) (hn : cs.Nodup) (ha : a ∈ cs) : sumL (fun v => ind a v * d v) cs = d a := by
  induction cs with
  | nil => simp at ha
  | cons c cs ih =>
    simp only [List.nodup_cons] at hn
    simp only [sumL]
    have hno : ∀ xs : List Nat, a ∉ xs → sumL (fun v => ind a v * d v) xs = 0 := by
      intro xs
      induction xs with
      | nil => intro _; rfl
      | cons x xs ih2 =>
        intro h
        simp only [List.mem_cons, not_or] at h
        simp only [sumL]
        rw [ih2 h.2]
        have : ind a x = 0 := by unfold ind; rw [if_neg (fun e => h.1 e.symm)]
        rw [this]; simp
    by_cases e : c = a
    · subst e
      rw [hno cs hn.1]
      simp [ind]
    · have ha' : a ∈ cs := by rcases List.mem_cons.1 ha with h | h; (· exact absurd h.symm e); exact h
      rw [ih hn.2 ha']
      have : ind a c = 0 := by unfold ind; rw [if_neg e]
      rw [this]; simp
theorem sumP_le (hd : Nat → Nat) (d : Nat → Nat) : ∀ n, (∀ i, i < n → hd i < 8) → sN n (fun i => if isP hd i then d (hd i) else 0) ≤ sumL (fun v => seenN hd n v * d v) (List.range 8) := by
  intro n
  induction n with
  | zero => intro _; exact Nat.zero_le _
  | succ n ih =>
    intro h
    have h1 := ih fun i hi => h i (by omega)
    have h2 : sumL (fun v => seenN hd n v * d v + (if isP hd n then ind (hd n) v * d v else 0)) (List.range 8) ≤ sumL (fun v => seenN hd (n + 1) v * d v) (List.range 8) := by
      refine sumL_mono _ fun v _ => ?_
      by_cases s1 : seen hd n v
      · have s2 : seen hd (n + 1) v := by obtain ⟨i, hi, e⟩ := s1; exact ⟨i, by omega, e⟩
        have e1 : seenN hd n v = 1 := by unfold seenN; rw [if_pos s1]
        have e2 : seenN hd (n + 1) v = 1 := by unfold seenN; rw [if_pos s2]
        rw [e1, e2]
        by_cases hp : isP hd n
        · rw [if_pos hp]
          have : ¬ v = hd n := fun e => by obtain ⟨i, hi, e3⟩ := s1; exact hp i hi (by rw [e3, e])
          simp [ind, this]
        · rw [if_neg hp]; omega
      · have e1 : seenN hd n v = 0 := by unfold seenN; rw [if_neg s1]
        rw [e1]
        by_cases hp : isP hd n
        · rw [if_pos hp]
          by_cases e : v = hd n
          · have e2 : seenN hd (n + 1) v = 1 := by unfold seenN; rw [if_pos ⟨n, by omega, e.symm⟩]
            rw [e2]; simp [ind, e]
          · simp [ind, e]
        · rw [if_neg hp]; omega
    by_cases hp : isP hd n
    · simp only [hp, if_true] at h2
      rw [sumL_add, sumL_indd (hd n) d _ List.nodup_range (by simpa using h n (by omega))] at h2
      simp only [sN, hp, if_true]; omega
    · simp only [hp, if_false, Nat.add_zero] at h2
      simp only [sN, hp, if_false]
      omega
/-- squares of weights, row by row -/
theorem nP_rows (cs : List Nat) (f : Nat → Nat → Int) (x : Nat → Nat) (n : Nat) (h : ∀ i, i < n → nL (f i) cs * nL (f i) cs ≤ 4 * 2 ^ x i) : nP cs (tp f n) * nP cs (tp f n) ≤ 4 ^ n * 2 ^ sN n x := by
  induction n with
  | zero => simp [tp, nP, sN]
  | succ n ih =>
    rw [tp_s, nP_app]
    have e : nP cs [f n] = nL (f n) cs := by simp [nP]
    rw [e]
    have ih' := ih (fun i hi => h i (by omega))
    have hn := h n (by omega)
    simp only [sN]
    generalize nP cs (tp f n) = P at *
    generalize nL (f n) cs = y at *
    have h1 := Nat.mul_le_mul ih' hn
    have e1 : P * y * (P * y) = P * P * (y * y) := by rw [Nat.mul_mul_mul_comm]
    have e2 : 4 ^ (n + 1) * 2 ^ (sN n x + x n) = 4 ^ n * 2 ^ sN n x * (4 * 2 ^ x n) := by
      rw [Nat.pow_succ, Nat.pow_add, Nat.mul_mul_mul_comm]
    rw [e1, e2]; exact h1
/-- rows that lead to columns of their end -/
structure likeF (E : Nat → Nat → Int) (N : Nat) (hd bk tl : Nat → Nat) : Prop where
  like : likeE E N hd bk
  tail : ∀ c, c < N → tl c < 8
  only : ∀ i c, i < N → c < N → E i c ≠ 0 → tl c = hd i
theorem ind_sum8 (a : Nat) (h : a < 8) : sumL (fun v => ind a v) (List.range 8) = 1 := by
  have := sumL_ind a (List.range 8) List.nodup_range
  rw [if_pos (by simpa using h)] at this
  exact this
theorem dn_sum (tl : Nat → Nat) (cs : List Nat) (h : ∀ c, c ∈ cs → tl c < 8) : sumL (fun v => sumL (fun c => ind (tl c) v) cs) (List.range 8) = cs.length := by
  induction cs with
  | nil => simp [sumL]; rfl
  | cons c cs ih =>
    simp only [sumL, List.length_cons]
    rw [sumL_add, ih (fun c hc => h c (by simp [hc])), ind_sum8 _ (h c (by simp))]
    omega
theorem like_nP {E : Nat → Nat → Int} {N : Nat} {hd bk tl : Nat → Nat} (h : likeF E N hd bk tl) (hN : N ≤ 20) (g : Nat → Nat) (n : Nat) (hn : n ≤ 20) (hg : ∀ i, i < n → g i < N) (xs : List Nat) (hx : xs.Sublist (List.range N)) :
    (dt (tp (fun i => E (g i)) n) xs).natAbs ≤ 2 ^ 30 := by
  rw [← rowF_dt (fun i => hd (g i)) (fun i => E (g i)) n xs n (Nat.le_refl _)]
  refine Nat.le_trans (dt_nP (List.range N) _ xs hx) ?_
  apply lt_of_sq
  have hdg : ∀ i, i < n → hd (g i) < 8 := fun i hi => h.like.head (g i) (hg i hi)
  have h1 := nP_rows (List.range N) (rowF (fun i => hd (g i)) (fun i => E (g i)) n) (fun i => if isP (fun i => hd (g i)) i then (sumL (fun c => ind (tl c) (hd (g i))) (List.range N)) else 0) n (by
    intro i hi
    have hgi := hg i hi
    by_cases hp : isP (fun i => hd (g i)) i
    · simp only [hp, if_true]
      have e : rowF (fun i => hd (g i)) (fun i => E (g i)) n i = E (g i) := by unfold rowF; rw [if_neg (fun x => x.2 hp)]
      rw [e]
      have hle : nL (E (g i)) (List.range N) ≤ sumL (fun c => ind (tl c) (hd (g i))) (List.range N) := by
        rw [nL_sum]
        refine sumL_mono _ fun c hc => ?_
        have hc : c < N := by simpa using hc
        by_cases e0 : E (g i) c = 0
        · rw [e0]; exact Nat.zero_le _
        · have := h.only (g i) c hgi hc e0
          have h2 := h.like.small (g i) c hgi hc
          unfold ind; rw [if_pos this.symm]; exact h2
      refine Nat.le_trans (sqle4 _) (Nat.mul_le_mul_left 4 (Nat.pow_le_pow_right (by decide) hle))
    · simp only [hp, if_false]
      obtain ⟨p1, p2, p3⟩ := piv_spec (fun i => hd (g i)) i hp
      have e : rowF (fun i => hd (g i)) (fun i => E (g i)) n i = fun c => E (g i) c + (-1) * E (g (piv (fun i => hd (g i)) i)) c := by unfold rowF; rw [if_pos ⟨hi, hp⟩]
      rw [e]
      have hgl := hg (piv (fun i => hd (g i)) i) (by omega)
      generalize g (piv (fun i => hd (g i)) i) = l at *
      have p2' : hd l = hd (g i) := p2
      have hle : nL (fun c => E (g i) c + (-1) * E l c) (List.range N) ≤ 2 := by
        rw [nL_sum]
        have h4 : sumL (fun c => (E (g i) c + (-1) * E l c).natAbs) (List.range N) ≤ sumL (fun c => ind (bk (g i)) c + ind (bk l) c) (List.range N) := by
          refine sumL_mono _ fun c hc => ?_
          have hc : c < N := by simpa using hc
          have hnr := h.like.near (g i) l c hgi hgl hc p2'.symm
          have hsm := h.like.same (g i) l c hgi hgl hc p2'.symm
          unfold ind
          by_cases e1 : c = bk (g i)
          · rw [if_pos e1]; omega
          · by_cases e2 : c = bk l
            · rw [if_pos e2]; omega
            · rw [hsm e1 e2]; omega
        rw [sumL_add] at h4
        have g3 := sumL_ind_le (bk (g i)) _ (List.nodup_range (n := N))
        have g4 := sumL_ind_le (bk l) _ (List.nodup_range (n := N))
        omega
      have := Nat.mul_le_mul hle hle
      simpa using this)
  refine Nat.le_trans h1 ?_
  have h2 := sumP_le (fun i => hd (g i)) (fun v => sumL (fun c => ind (tl c) v) (List.range N)) n hdg
  have h3 : sumL (fun v => seenN (fun i => hd (g i)) n v * sumL (fun c => ind (tl c) v) (List.range N)) (List.range 8) ≤ sumL (fun v => sumL (fun c => ind (tl c) v) (List.range N)) (List.range 8) := by
    refine sumL_mono _ fun v _ => ?_
    have : seenN (fun i => hd (g i)) n v ≤ 1 := by unfold seenN; split <;> omega
    have := Nat.mul_le_mul_right (sumL (fun c => ind (tl c) v) (List.range N)) this
    omega
  rw [dn_sum tl (List.range N) (fun c hc => h.tail c (by simpa using hc)), List.length_range] at h3
  have h4 : sN n (fun i => if isP (fun i => hd (g i)) i then (sumL (fun c => ind (tl c) (hd (g i))) (List.range N)) else 0) ≤ 20 := Nat.le_trans h2 (Nat.le_trans h3 hN)
  have h5 : 4 ^ n ≤ 4 ^ 20 := Nat.pow_le_pow_right (by decide) hn
  have h6 := Nat.pow_le_pow_right (n := 2) (by decide) h4
  exact Nat.le_trans (Nat.mul_le_mul h5 h6) (by decide)
/-- rows of E in any order, each with a sign -/
def signed (E : Nat → Nat → Int) (N : Nat) (R : Nat → Nat → Int) : Prop := ∀ i, i < N → ∃ e s, e < N ∧ (s = 1 ∨ s = -1) ∧ R i = fun c => s * E e c
theorem signed_swn {E : Nat → Nat → Int} {N : Nat} {R : Nat → Nat → Int} (h : signed E N R) (a b : Nat) (ha : a < N) (hb : b < N) : signed E N (swn R a b) := by
  intro i hi
  unfold swn
  by_cases e1 : i = a
  · rw [if_pos e1]
    obtain ⟨e, s, he, hs, hR⟩ := h b hb
    refine ⟨e, -s, he, by omega, ?_⟩
    rw [hR]; funext c; rw [Int.neg_mul]
  · rw [if_neg e1]
    by_cases e2 : i = b
    · rw [if_pos e2]; exact h a ha
    · rw [if_neg e2]; exact h i hi
theorem signed_dt {E : Nat → Nat → Int} {N : Nat} (n : Nat) (R : Nat → Nat → Int) (h : ∀ i, i < n → ∃ e s, e < N ∧ (s = 1 ∨ s = -1) ∧ R i = fun c => s * E e c) :
    ∃ g : Nat → Nat, (∀ i, i < n → g i < N) ∧ ∀ xs, (dt (tp R n) xs).natAbs = (dt (tp (fun i => E (g i)) n) xs).natAbs := by
  have key : ∀ (n : Nat) (ws : List (Nat → Int)), (∀ i, i < n → ∃ e s, e < N ∧ (s = 1 ∨ s = -1) ∧ R i = fun c => s * E e c) → ∃ g : Nat → Nat, (∀ i, i < n → g i < N) ∧ ∀ xs, (dt (tp R n ++ ws) xs).natAbs = (dt (tp (fun i => E (g i)) n ++ ws) xs).natAbs := by
    intro n
    induction n with
    | zero => intro ws _; exact ⟨fun _ => 0, fun i hi => by omega, fun xs => rfl⟩
    | succ n ih =>
      intro ws h
      obtain ⟨e, s, he, hs, hR⟩ := h n (by omega)
      obtain ⟨g, hg, hd⟩ := ih (E e :: ws) (fun i hi => h i (by omega))
      refine ⟨fun i => if i < n then g i else e, fun i hi => ?_, fun xs => ?_⟩
      · by_cases h1 : i < n
        · simp only [h1, if_true]; exact hg i h1
        · simp only [h1, if_false]; exact he
      · rw [tp_s, tp_s, List.append_assoc, List.append_assoc]
        simp only [List.cons_append, List.nil_append, Nat.lt_irrefl, if_false]
        rw [hR, dt_scale]
        have e2 : tp (fun i => E (if i < n then g i else e)) n = tp (fun i => E (g i)) n := by
          unfold tp; apply List.map_congr_left; intro i hi; have hi' : i < n := by simpa using hi
          simp only [hi', if_true]
        rw [e2, ← hd xs, Int.natAbs_mul]
        rcases hs with rfl | rfl <;> simp
  obtain ⟨g, hg, hd⟩ := key n [] h
  refine ⟨g, hg, fun xs => ?_⟩
  have := hd xs
  rw [List.append_nil, List.append_nil] at this
  exact this
theorem mn_tp (R : Nat → Nat → Int) (k : Nat) (v : Nat → Int) (j : Nat) : mn R k v j = dt (tp (fun l => if l < k then R l else v) (k + 1)) (List.range k ++ [j]) := by
  unfold mn
  rw [tp_s]
  congr 2
  · unfold tp; apply List.map_congr_left; intro i hi; have hi' : i < k := by simpa using hi
    rw [if_pos hi']
  · rw [if_neg (Nat.lt_irrefl _)]
theorem sub_cols {k j N : Nat} (h : k ≤ j) (hj : j < N) : (List.range k ++ [j]).Sublist (List.range N) := by
  have h1 : (List.range k).Sublist (List.range j) := List.range_sublist.2 h
  have h2 : (List.range k ++ [j]).Sublist (List.range j ++ [j]) := h1.append (List.Sublist.refl _)
  rw [← List.range_succ] at h2
  exact h2.trans (List.range_sublist.2 hj)
theorem signed_mn {E : Nat → Nat → Int} {N : Nat} {hd bk tl : Nat → Nat} (hE : likeF E N hd bk tl) (hN : N ≤ 20) {R : Nat → Nat → Int} (h : signed E N R) (k i j : Nat) (hk : k ≤ i) (hi : i < N) (hj : j < N) : (mn R k (R i) j).natAbs ≤ 2 ^ 30 := by
  by_cases hkj : k ≤ j
  · rw [mn_tp]
    obtain ⟨g, hg, hd⟩ := signed_dt (E := E) (N := N) (k + 1) (fun l => if l < k then R l else R i) (by
      intro l hl
      by_cases h1 : l < k
      · simp only [h1, if_true]; exact h l (by omega)
      · simp only [h1, if_false]; exact h i hi)
    rw [hd]
    exact like_nP hE hN g (k + 1) (by omega) hg _ (sub_cols hkj hj)
  · rw [mn_low R k (R i) j (by omega)]; simp

end Go.Proofs.Ytnblhkhdilkbeaa
