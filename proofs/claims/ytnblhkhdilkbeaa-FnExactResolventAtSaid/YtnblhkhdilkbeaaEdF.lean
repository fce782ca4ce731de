/- The numbers of an edge matrix's determinant fit: rows with the same end differ in two places. -/
import Derived.Test.YtnblhkhdilkbeaaDetB
import Derived.Test.YtnblhkhdilkbeaaCoreC
set_option linter.unusedSimpArgs false
set_option linter.unusedVariables false
namespace Go.Proofs.Ytnblhkhdilkbeaa
open Go.RowKit

theorem det_minus (R : List Rw) (i l : Nat) (hil : i ≠ l) (hi : i < R.length) (hl : l < R.length) (u v d : Rw) (hu : R[i]? = some u) (hv : R[l]? = some v) (hd : ∀ c, u c = ((d c).1 + (v c).1, (d c).2 + (v c).2)) (cs : List Nat) (k : Nat) :
    det (R.set i d) cs k = det R cs k := by
  have h1 := det_rows R i d v hi cs k
  have e : (fun c => ((d c).1 + (v c).1, (d c).2 + (v c).2)) = u := by funext c; exact (hd c).symm
  rw [e] at h1
  have h2 : R.set i u = R := by
    apply List.ext_getElem?
    intro q
    rw [List.getElem?_set]
    by_cases e : i = q
    · subst e; rw [if_pos rfl, if_pos hi, hu]
    · rw [if_neg e]
  have h3 : det (R.set i v) cs k = 0 := by
    have e1 : (R.set i v)[i]? = some v := by rw [List.getElem?_set, if_pos rfl, if_pos hi]
    have e2 : (R.set i v)[l]? = some v := by rw [List.getElem?_set, if_neg hil]; exact hv
    rcases Nat.lt_or_gt_of_ne hil with h | h
    · exact det_two _ i l v h e1 e2 cs k
    · exact det_two _ l i v h e2 e1 cs k
  rw [h2, h3] at h1
  omega

def sumL (g : Nat → Nat) : List Nat → Nat
  | [] => 0
  | c :: cs => g c + sumL g cs
theorem sumL_add (g h : Nat → Nat) (cs : List Nat) : sumL (fun c => g c + h c) cs = sumL g cs + sumL h cs := by
  induction cs with
  | nil => rfl
  | cons c cs ih => simp only [sumL, ih]; omega
theorem sumL_mono {g h : Nat → Nat} (cs : List Nat) (H : ∀ c, c ∈ cs → g c ≤ h c) : sumL g cs ≤ sumL h cs := by
  induction cs with
  | nil => exact Nat.le_refl _
  | cons c cs ih =>
    have h1 := H c List.mem_cons_self
    have h2 := ih fun x hx => H x (List.mem_cons_of_mem _ hx)
    simp only [sumL]; omega
theorem sumL_one (cs : List Nat) : sumL (fun _ => 1) cs = cs.length := by
  induction cs with
  | nil => rfl
  | cons c cs ih => simp only [sumL, ih, List.length_cons]; omega
def ind (i c : Nat) : Nat := if c = i then 1 else 0
theorem sumL_no (i : Nat) (cs : List Nat) (h : i ∉ cs) : sumL (ind i) cs = 0 := by
  induction cs with
  | nil => rfl
  | cons c cs ih =>
    simp only [List.mem_cons, not_or] at h
    have : ¬ c = i := fun e => h.1 e.symm
    simp only [sumL, ind, this, if_false, ih h.2]
theorem sumL_ind (i : Nat) (cs : List Nat) (hn : cs.Nodup) : sumL (ind i) cs = if i ∈ cs then 1 else 0 := by
  induction cs with
  | nil => rfl
  | cons c cs ih =>
    have hn' := List.nodup_cons.mp hn
    by_cases e : c = i
    · subst e
      simp only [sumL, ind, if_true, List.mem_cons, true_or]
      rw [show sumL (ind c) cs = 0 from sumL_no c cs hn'.1]
    · have e' : ¬ i = c := fun x => e x.symm
      simp only [sumL, List.mem_cons, e', false_or]
      rw [ih hn'.2]
      simp [ind, e]
theorem sumL_ind_le (i : Nat) (cs : List Nat) (hn : cs.Nodup) : sumL (ind i) cs ≤ 1 := by
  rw [sumL_ind i cs hn]; split <;> omega
theorem wtL_sum (v : Rw) (cs : List Nat) : wtL v cs = sumL (wt v) cs := by
  induction cs with
  | nil => rfl
  | cons c cs ih => simp only [wtL, sumL, ih]

/-- rows with the same end differ in two places, by 1 at most -/
structure likeE (M : Nat → Nat → Int) (N : Nat) (hd : Nat → Nat) (bk : Nat → Nat) : Prop where
  small : ∀ i c, i < N → c < N → (M i c).natAbs ≤ 1
  back : ∀ i, i < N → bk i < N ∧ M i (bk i) = 0
  head : ∀ i, i < N → hd i < 8
  same : ∀ i l c, i < N → l < N → c < N → hd i = hd l → c ≠ bk i → c ≠ bk l → M i c = M l c
  near : ∀ i l c, i < N → l < N → c < N → hd i = hd l → (M i c - M l c).natAbs ≤ 1

def isP (hd : Nat → Nat) (i : Nat) : Prop := ∀ l, l < i → hd l ≠ hd i
instance (hd : Nat → Nat) (i : Nat) : Decidable (isP hd i) := by unfold isP; infer_instance
theorem piv_ex (hd : Nat → Nat) : ∀ n i, i < n → ¬ isP hd i → ∃ l, l < i ∧ hd l = hd i ∧ isP hd l := by
  intro n
  induction n with
  | zero => intro i hi; omega
  | succ n ih =>
    intro i hi hp
    have : ∃ l, l < i ∧ hd l = hd i := Classical.byContradiction fun hx => hp fun l hl e => hx ⟨l, hl, e⟩
    obtain ⟨l, hl, e⟩ := this
    by_cases hpl : isP hd l
    · exact ⟨l, hl, e, hpl⟩
    · obtain ⟨l2, h1, h2, h3⟩ := ih l (by omega) hpl
      exact ⟨l2, by omega, by rw [h2, e], h3⟩
noncomputable def piv (hd : Nat → Nat) (i : Nat) : Nat := if h : isP hd i then i else Classical.choose (piv_ex hd (i + 1) i (by omega) h)
theorem piv_spec (hd : Nat → Nat) (i : Nat) (h : ¬ isP hd i) : piv hd i < i ∧ hd (piv hd i) = hd i ∧ isP hd (piv hd i) := by
  unfold piv
  rw [dif_neg h]
  exact Classical.choose_spec (piv_ex hd (i + 1) i (by omega) h)

noncomputable def rowD (M : Nat → Nat → Int) (N : Nat) (hd : Nat → Nat) (m i : Nat) : Rw := if i < m ∧ ¬ isP hd i then fun c => ((rowM M N i c).1 - (rowM M N (piv hd i) c).1, (rowM M N i c).2 - (rowM M N (piv hd i) c).2) else rowM M N i

theorem rowD_det (M : Nat → Nat → Int) (N : Nat) (hd : Nat → Nat) (cs : List Nat) (k : Nat) : ∀ m, m ≤ N → det ((List.range N).map (rowD M N hd m)) cs k = det (RM M N) cs k := by
  intro m
  induction m with
  | zero =>
    intro _
    have : rowD M N hd 0 = rowM M N := by funext i; unfold rowD; rw [if_neg (by omega)]
    rw [this]; rfl
  | succ m ih =>
    intro hm
    rw [← ih (by omega)]
    by_cases hp : isP hd m
    · have : (List.range N).map (rowD M N hd (m + 1)) = (List.range N).map (rowD M N hd m) := by
        refine List.map_congr_left fun i hi => ?_
        unfold rowD
        by_cases e : i = m
        · subst e; rw [if_neg (fun x => x.2 hp), if_neg (fun x => x.2 hp)]
        · have : (i < m + 1 ∧ ¬ isP hd i) ↔ (i < m ∧ ¬ isP hd i) := by constructor <;> (intro h; exact ⟨by omega, h.2⟩)
          simp only [this]
      rw [this]
    · obtain ⟨h1, h2, h3⟩ := piv_spec hd m hp
      have e1 : ((List.range N).map (rowD M N hd m))[m]? = some (rowM M N m) := by
        simp only [List.getElem?_map, List.getElem?_range (show m < N by omega), Option.map_some]
        unfold rowD; rw [if_neg (by omega)]
      have e2 : ((List.range N).map (rowD M N hd m))[piv hd m]? = some (rowM M N (piv hd m)) := by
        simp only [List.getElem?_map, List.getElem?_range (show piv hd m < N by omega), Option.map_some]
        unfold rowD; rw [if_neg (fun x => x.2 h3)]
      have hset : (List.range N).map (rowD M N hd (m + 1)) = ((List.range N).map (rowD M N hd m)).set m (rowD M N hd (m + 1) m) := by
        apply List.ext_getElem?
        intro q
        rw [List.getElem?_set]
        by_cases e : m = q
        · subst e
          rw [if_pos rfl, if_pos (by simp; omega)]
          simp [List.getElem?_range (show m < N by omega)]
        · rw [if_neg e]
          simp only [List.getElem?_map]
          by_cases hq : q < N
          · simp only [List.getElem?_range hq, Option.map_some]
            unfold rowD
            have : (q < m + 1 ∧ ¬ isP hd q) ↔ (q < m ∧ ¬ isP hd q) := by constructor <;> (intro h; exact ⟨by omega, h.2⟩)
            simp only [this]
          · rw [List.getElem?_eq_none (by simp; omega)]; rfl
      rw [hset]
      refine det_minus _ m (piv hd m) (by omega) (by simp; omega) (by simp; omega) _ _ _ e1 e2 (fun c => ?_) cs k
      unfold rowD
      rw [if_pos ⟨by omega, hp⟩]
      apply Prod.ext <;> (simp only []; omega)

theorem rowD_wt {M : Nat → Nat → Int} {N : Nat} {hd bk : Nat → Nat} (h : likeE M N hd bk) (hN : N ≤ 20) {i : Nat} (hi : i < N) : wtL (rowD M N hd N i) (List.range N) ≤ if isP hd i then 20 else 4 := by
  rw [wtL_sum]
  by_cases hp : isP hd i
  · rw [if_pos hp]
    have e : rowD M N hd N i = rowM M N i := by unfold rowD; rw [if_neg (fun x => x.2 hp)]
    rw [e]
    obtain ⟨hb, hz⟩ := h.back i hi
    have h1 : sumL (fun c => wt (rowM M N i) c + ind (bk i) c) (List.range N) ≤ sumL (fun c => ind i c + 1) (List.range N) := by
      refine sumL_mono _ fun c hc => ?_
      have hc : c < N := by simpa using hc
      have hs := h.small i c hi hc
      simp only [wt, rowM, hc, if_true, ind]
      by_cases e1 : c = bk i
      · subst e1
        rw [hz]
        by_cases e2 : bk i = i
        · rw [if_pos e2]; simp [e2]
        · rw [if_neg e2]; simp [e2]
      · by_cases e2 : c = i
        · have e3 : ¬ i = bk i := fun x => e1 (by rw [e2]; exact x)
          have hs2 : (M i i).natAbs ≤ 1 := by rw [e2] at hs; exact hs
          rw [if_pos e2, e2, if_pos rfl, if_neg e3]
          have : ((1 : Int)).natAbs = 1 := rfl
          omega
        · rw [if_neg e2]; simp [e1, e2]; omega
    rw [sumL_add, sumL_add, sumL_one, sumL_ind (bk i) _ List.nodup_range, if_pos (by simpa using hb), List.length_range] at h1
    have h2 := sumL_ind_le i _ (List.nodup_range (n := N))
    omega
  · rw [if_neg hp]
    obtain ⟨h1, h2, h3⟩ := piv_spec hd i hp
    have hl : piv hd i < N := by omega
    have e : rowD M N hd N i = fun c => ((rowM M N i c).1 - (rowM M N (piv hd i) c).1, (rowM M N i c).2 - (rowM M N (piv hd i) c).2) := by unfold rowD; rw [if_pos ⟨hi, hp⟩]
    rw [e]
    generalize piv hd i = l at *
    have h4 : sumL (wt fun c => ((rowM M N i c).1 - (rowM M N l c).1, (rowM M N i c).2 - (rowM M N l c).2)) (List.range N) ≤ sumL (fun c => (ind i c + ind l c) + (ind (bk i) c + ind (bk l) c)) (List.range N) := by
      refine sumL_mono _ fun c hc => ?_
      have hc : c < N := by simpa using hc
      have hn := h.near i l c hi hl hc h2.symm
      have hsm := h.same i l c hi hl hc h2.symm
      simp only [wt, rowM, hc, if_true, ind]
      have hA : ((if c = i then (1 : Int) else 0) - (if c = l then 1 else 0)).natAbs ≤ (if c = i then 1 else 0) + (if c = l then 1 else 0) := by split <;> split <;> decide
      have hB : (- M i c - - M l c).natAbs ≤ (if c = bk i then 1 else 0) + (if c = bk l then 1 else 0) := by
        by_cases e1 : c = bk i
        · simp only [e1, if_true]; rw [← e1]; omega
        · by_cases e2 : c = bk l
          · simp only [e2, if_true]; rw [← e2]; omega
          · rw [hsm e1 e2]; simp [e1, e2]
      omega
    rw [sumL_add, sumL_add, sumL_add] at h4
    have g1 := sumL_ind_le i _ (List.nodup_range (n := N))
    have g2 := sumL_ind_le l _ (List.nodup_range (n := N))
    have g3 := sumL_ind_le (bk i) _ (List.nodup_range (n := N))
    have g4 := sumL_ind_le (bk l) _ (List.nodup_range (n := N))
    omega

/-- how many least rows there are -/
def cntP (hd : Nat → Nat) : Nat → Nat
  | 0 => 0
  | n + 1 => cntP hd n + (if isP hd n then 1 else 0)
def seen (hd : Nat → Nat) (n v : Nat) : Prop := ∃ i, i < n ∧ hd i = v
noncomputable def seenN (hd : Nat → Nat) (n v : Nat) : Nat := @ite _ (seen hd n v) (Classical.propDecidable _) 1 0
theorem cntP_le (hd : Nat → Nat) : ∀ n, (∀ i, i < n → hd i < 8) → cntP hd n ≤ sumL (seenN hd n) (List.range 8) := by
  intro n
  induction n with
  | zero => intro _; exact Nat.zero_le _
  | succ n ih =>
    intro h
    have h1 := ih fun i hi => h i (by omega)
    have h2 : sumL (fun v => seenN hd n v + (if isP hd n then ind (hd n) v else 0)) (List.range 8) ≤ sumL (seenN hd (n + 1)) (List.range 8) := by
      refine sumL_mono _ fun v _ => ?_
      by_cases s1 : seen hd n v
      · have s2 : seen hd (n + 1) v := by obtain ⟨i, hi, e⟩ := s1; exact ⟨i, by omega, e⟩
        have e1 : seenN hd n v = 1 := by unfold seenN; rw [if_pos s1]
        have e2 : seenN hd (n + 1) v = 1 := by unfold seenN; rw [if_pos s2]
        rw [e1, e2]
        by_cases hp : isP hd n
        · rw [if_pos hp]
          have : ¬ v = hd n := fun e => by obtain ⟨i, hi, e3⟩ := s1; exact hp i hi (by rw [e3, e])
          simp [ind, this]
        · rw [if_neg hp]; omega
      · have e1 : seenN hd n v = 0 := by unfold seenN; rw [if_neg s1]
        rw [e1]
        by_cases hp : isP hd n
        · rw [if_pos hp]
          by_cases e : v = hd n
          · have e2 : seenN hd (n + 1) v = 1 := by unfold seenN; rw [if_pos ⟨n, by omega, e.symm⟩]
            rw [e2]; simp [ind, e]
          · simp [ind, e]
        · rw [if_neg hp]; omega
    by_cases hp : isP hd n
    · simp only [hp, if_true] at h2
      rw [sumL_add, sumL_ind (hd n) _ List.nodup_range, if_pos (by simpa using h n (by omega))] at h2
      simp only [cntP, hp, if_true]; omega
    · simp only [hp, if_false, Nat.add_zero] at h2
      simp only [cntP, hp, if_false]
      have : sumL (fun v => seenN hd n v) (List.range 8) = sumL (seenN hd n) (List.range 8) := rfl
      omega
theorem cntP_8 (hd : Nat → Nat) (n : Nat) (h : ∀ i, i < n → hd i < 8) : cntP hd n ≤ 8 := by
  have h1 := cntP_le hd n h
  have h2 : sumL (seenN hd n) (List.range 8) ≤ sumL (fun _ => 1) (List.range 8) := sumL_mono _ fun v _ => by unfold seenN; split <;> omega
  rw [sumL_one, List.length_range] at h2
  omega
theorem wtP_snoc (cs : List Nat) (R : List Rw) (v : Rw) : wtP cs (R ++ [v]) = wtP cs R * wtL v cs := by
  induction R with
  | nil => simp [wtP]
  | cons u us ih => simp only [List.cons_append, wtP, ih, Nat.mul_assoc]
theorem wtP_rows (cs : List Nat) (f : Nat → Rw) (hd : Nat → Nat) (N : Nat) : ∀ n, n ≤ N → (∀ i, i < N → wtL (f i) cs ≤ if isP hd i then 20 else 4) → wtP cs ((List.range n).map f) ≤ 4 ^ n * 5 ^ cntP hd n := by
  intro n
  induction n with
  | zero => intro _ _; exact Nat.le_refl _
  | succ n ih =>
    intro hn h
    rw [List.range_succ, List.map_append, List.map_cons, List.map_nil, wtP_snoc]
    have h1 := ih (by omega) h
    have h2 := h n (by omega)
    have h3 : wtL (f n) cs ≤ 4 * 5 ^ (if isP hd n then 1 else 0) := by
      by_cases hp : isP hd n
      · simp only [hp, if_true] at h2 ⊢; omega
      · simp only [hp, if_false] at h2 ⊢; omega
    have h4 := Nat.mul_le_mul h1 h3
    have e : 4 ^ (n + 1) * 5 ^ cntP hd (n + 1) = 4 ^ n * 5 ^ cntP hd n * (4 * 5 ^ (if isP hd n then 1 else 0)) := by
      simp only [cntP, Nat.pow_succ, Nat.pow_add]
      rw [Nat.mul_mul_mul_comm]
    rw [e]; exact h4
theorem fits_like {M : Nat → Nat → Int} {N : Nat} {hd bk : Nat → Nat} (h : likeE M N hd bk) (hN : N ≤ 20) : fits M N := by
  intro k hk
  have h1 := det_nrm (k + 1) (List.range N) ((List.range N).map (rowD M N hd N)) (List.range N) (List.Sublist.refl _)
  have h2 := nrm_le (k + 1) k (det ((List.range N).map (rowD M N hd N)) (List.range N)) (by omega)
  rw [rowD_det M N hd (List.range N) k N (Nat.le_refl _)] at h2
  have h3 := wtP_rows (List.range N) (rowD M N hd N) hd N N (Nat.le_refl _) (fun i hi => rowD_wt h hN hi)
  have h4 := cntP_8 hd N h.head
  have h5 : (4 : Nat) ^ N ≤ 4 ^ 20 := Nat.pow_le_pow_right (by omega) hN
  have h6 : (5 : Nat) ^ cntP hd N ≤ 5 ^ 8 := Nat.pow_le_pow_right (by omega) h4
  have h7 : (4 : Nat) ^ N * 5 ^ cntP hd N ≤ 4 ^ 20 * 5 ^ 8 := Nat.mul_le_mul h5 h6
  have h8 : (dk M N k).natAbs ≤ 4 ^ 20 * 5 ^ 8 := Nat.le_trans (Nat.le_trans h2 h1) (Nat.le_trans h3 h7)
  have h9 : (4 ^ 20 * 5 ^ 8 * 21 : Nat) ≤ 9223372036854775807 := by decide
  exact Nat.le_trans (Nat.mul_le_mul h8 (by omega : N + 1 ≤ 21)) h9

/-- the edge matrix, with numbers of -1 to 1 at its columns -/
def edgeS (ds : List (Int × Int)) (x : Nat → Int) : Nat → Nat → Int := fun i j => edgeM ds i j * x j

theorem edgeM_bool (ds : List (Int × Int)) (i j : Nat) : edgeM ds i j = 0 ∨ edgeM ds i j = 1 := by unfold edgeM; split <;> simp
theorem edgeM_eq {ds : List (Int × Int)} (h20 : ds.length ≤ 20) {i l c : Nat} (hi : i < ds.length) (hl : l < ds.length) (hh : (ds.getD i (0, 0)).2 = (ds.getD l (0, 0)).2) (h1 : (c : Int) ≠ rv (i : Int)) (h2 : (c : Int) ≠ rv (l : Int)) : edgeM ds i c = edgeM ds l c := by
  have : stepQ ds i c = stepQ ds l c := by
    unfold stepQ
    simp only [Int.toNat_natCast]
    rw [hh]
    have a1 : ((c : Int) != rv (i : Int)) = true := by simpa using h1
    have a2 : ((c : Int) != rv (l : Int)) = true := by simpa using h2
    simp [h1, h2, hi, hl, a1, a2]
  unfold edgeM
  rw [this]
theorem edgeS_like {ds : List (Int × Int)} {x : Nat → Int} (h20 : ds.length ≤ 20) (hev : ds.length % 2 = 0) (hb : ∀ i, i < ds.length → 0 ≤ (ds.getD i (0, 0)).2 ∧ (ds.getD i (0, 0)).2 < 8) (hx : ∀ c, (x c).natAbs ≤ 1) :
    likeE (edgeS ds x) ds.length (fun i => (ds.getD i (0, 0)).2.toNat) (fun i => (rv (i : Int)).toNat) where
  small := fun i c hi hc => by
    have := hx c
    unfold edgeS
    rcases edgeM_bool ds i c with e | e <;> rw [e] <;> omega
  back := fun i hi => by
    have hr := rv_is (i : Int) (by omega) (by omega)
    refine ⟨by show (rv (i : Int)).toNat < _; omega, ?_⟩
    have : stepQ ds (i : Int) (((rv (i : Int)).toNat : Nat) : Int) = false := by
      have e : (((rv (i : Int)).toNat : Nat) : Int) = rv (i : Int) := by omega
      rw [e]
      unfold stepQ
      simp
    unfold edgeS edgeM
    simp only [this]
    simp
  head := fun i hi => by have := hb i hi; show (ds.getD i (0, 0)).2.toNat < 8; omega
  same := fun i l c hi hl hc hh h1 h2 => by
    have hr := rv_is (i : Int) (by omega) (by omega)
    have hr2 := rv_is (l : Int) (by omega) (by omega)
    have b1 := hb i hi
    have b2 := hb l hl
    unfold edgeS
    rw [edgeM_eq h20 hi hl (by have hh' : (ds.getD i (0, 0)).2.toNat = (ds.getD l (0, 0)).2.toNat := hh; omega) (by have h1' : c ≠ (rv (i : Int)).toNat := h1; omega) (by have h2' : c ≠ (rv (l : Int)).toNat := h2; omega)]
  near := fun i l c hi hl hc hh => by
    have := hx c
    unfold edgeS
    rcases edgeM_bool ds i c with e | e <;> rcases edgeM_bool ds l c with e2 | e2 <;> rw [e, e2] <;> omega

end Go.Proofs.Ytnblhkhdilkbeaa
