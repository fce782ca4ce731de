/- SignedNumber, both sides. -/
import Derived.Test.YtmhnckjcpdnabaaSgE
import Derived.Test.YtmhnckjcpdnabaaEdd
set_option linter.unusedSimpArgs false
set_option linter.unusedVariables false
set_option maxRecDepth 100000
namespace Go.Proofs.Ytmhnckjcpdnabaa
open Go.RowKit

def totN (S : Nat) (R : Nat → Nat → Int) : Nat := sN S (fun i => nL (R i) (List.range S))
theorem sN_congr {f g : Nat → Nat} : ∀ n, (∀ i, i < n → f i = g i) → sN n f = sN n g := by
  intro n
  induction n with
  | zero => intro _; rfl
  | succ n ih => intro h; simp only [sN]; rw [ih (fun i hi => h i (by omega)), h n (by omega)]
theorem sN_set (f g : Nat → Nat) (a : Nat) (hg : ∀ i, i ≠ a → g i = f i) : ∀ n, a < n → sN n g + f a = sN n f + g a := by
  intro n
  induction n with
  | zero => intro h; omega
  | succ n ih =>
    intro h
    simp only [sN]
    by_cases e : a = n
    · subst e
      rw [sN_congr (f := g) (g := f) a (fun i hi => hg i (by omega))]; omega
    · have := ih (by omega)
      rw [hg n (fun e2 => e e2.symm)]; omega
theorem nL_neg (v : Nat → Int) (cs : List Nat) : nL (fun c => - v c) cs = nL v cs := by
  induction cs with
  | nil => rfl
  | cons c cs ih => simp only [nL, ih, Int.natAbs_neg]
theorem totN_swn (S : Nat) (R : Nat → Nat → Int) (a b : Nat) (hab : a < b) (hb : b < S) : totN S (swn R a b) = totN S R := by
  unfold totN
  have h1 := sN_set (fun i => nL (R i) (List.range S)) (fun i => if i = a then nL (R b) (List.range S) else nL (R i) (List.range S)) a (fun i hi => if_neg hi) S (by omega)
  have h2 := sN_set (fun i => if i = a then nL (R b) (List.range S) else nL (R i) (List.range S)) (fun i => nL (swn R a b i) (List.range S)) b (fun i hi => by
    unfold swn
    by_cases e : i = a
    · rw [if_pos e, if_pos e, nL_neg]
    · rw [if_neg e, if_neg e, if_neg hi]) S hb
  have h3 : nL (swn R a b b) (List.range S) = nL (R a) (List.range S) := by
    unfold swn; rw [if_neg (by omega), if_pos rfl]
  simp only [if_pos, show ¬ b = a by omega, if_false] at h1 h2
  rw [h3] at h2
  omega
theorem sN_mono (f : Nat → Nat) {k n : Nat} (h : k ≤ n) : sN k f ≤ sN n f := by
  induction n with
  | zero => have : k = 0 := by omega
            subst this; exact Nat.le_refl _
  | succ n ih =>
    by_cases e : k = n + 1
    · subst e; exact Nat.le_refl _
    · have := ih (by omega)
      simp only [sN]; omega
theorem tot_bd {S : Nat} (hS : S ≤ 8) {R : Nat → Nat → Int} (h : totN S R ≤ 40) (k i j : Nat) (hk : k ≤ i) (hi : i < S) (hj : j < S) : (mn R k (R i) j).natAbs ≤ 2 ^ 30 := by
  by_cases hkj : k ≤ j
  · rw [mn_tp]
    refine Nat.le_trans (dt_nP (List.range S) _ _ (sub_cols hkj hj)) ?_
    apply lt_of_sq
    refine Nat.le_trans (nP_sum (List.range S) _ (k + 1)) ?_
    have h1 : sN (k + 1) (fun l => nL (if l < k then R l else R i) (List.range S)) ≤ 40 := by
      simp only [sN, Nat.lt_irrefl, if_false]
      rw [sN_congr (g := fun l => nL (R l) (List.range S)) k (fun l hl => by simp only [hl, if_true])]
      have h2 : sN (i + 1) (fun l => nL (R l) (List.range S)) ≤ totN S R := sN_mono _ (by omega)
      have h3 := sN_mono (fun l => nL (R l) (List.range S)) hk
      simp only [sN] at h2
      omega
    have h5 : 4 ^ (k + 1) ≤ 4 ^ 8 := Nat.pow_le_pow_right (by decide) (by omega)
    have h6 := Nat.pow_le_pow_right (n := 2) (by decide) h1
    exact Nat.le_trans (Nat.mul_le_mul h5 h6) (by decide)
  · rw [mn_low R k (R i) j (by omega)]; simp
theorem nL_put (v w : Nat → Int) (b : Nat) (hw : ∀ c, c ≠ b → w c = v c) (hb : (w b).natAbs ≤ (v b).natAbs + 1) : ∀ cs : List Nat, cs.Nodup → nL w cs ≤ nL v cs + (if b ∈ cs then 1 else 0) := by
  intro cs
  induction cs with
  | nil => intro _; simp [nL]
  | cons c cs ih =>
    intro h
    simp only [List.nodup_cons] at h
    have := ih h.2
    simp only [nL]
    by_cases e : c = b
    · subst e
      rw [if_neg h.1] at this
      simp only [List.mem_cons, true_or, if_true]; omega
    · rw [hw c e]
      have e2 : (b ∈ c :: cs) ↔ b ∈ cs := by simp; intro h; exact absurd h.symm e
      simp only [e2]; omega
theorem totN_ad1 (S : Nat) (f : Nat → Nat → Int) (a b : Nat) {y : Int} (hy : -1 ≤ y ∧ y ≤ 1) : totN S (ad1 f a b y) ≤ totN S f + 1 := by
  by_cases ha : a < S
  · unfold totN
    have h1 := sN_set (fun i => nL (f i) (List.range S)) (fun i => nL (ad1 f a b y i) (List.range S)) a (fun i hi => by
      congr 1
      funext c
      unfold ad1 put; rw [if_neg (fun e => hi e.1)]) S ha
    have h2 := nL_put (f a) (ad1 f a b y a) b (fun c hc => by unfold ad1 put; rw [if_neg (fun e => hc e.2)]) (by unfold ad1 put; rw [if_pos ⟨rfl, rfl⟩]; omega) (List.range S) List.nodup_range
    have h3 : (if b ∈ List.range S then 1 else 0) ≤ 1 := by split <;> omega
    have h1' : sN S (fun i => nL (ad1 f a b y i) (List.range S)) + nL (f a) (List.range S) = sN S (fun i => nL (f i) (List.range S)) + nL (ad1 f a b y a) (List.range S) := h1
    omega
  · have : totN S (ad1 f a b y) = totN S f := by
      unfold totN
      apply sN_congr
      intro i hi
      congr 1
      funext c
      unfold ad1 put; rw [if_neg (fun e => by omega)]
    omega
theorem slS_tot {es : List (Int × Int)} {ys : List Int} (hy : ∀ q, -1 ≤ ys.getD q 0 ∧ ys.getD q 0 ≤ 1) (S : Nat) : ∀ q, q ≤ 10 → totN S (slS es ys q) ≤ 4 * q := by
  intro q
  induction q with
  | zero =>
    intro _
    have h0 : ∀ cs : List Nat, nL (fun _ => (0 : Int)) cs = 0 := by intro cs; induction cs with | nil => rfl | cons c cs ih => simp [nL, ih]
    have : totN S (slS es ys 0) = 0 := by
      unfold totN
      have h1 : ∀ n, sN n (fun i => nL (slS es ys 0 i) (List.range S)) = 0 := by
        intro n
        induction n with
        | zero => rfl
        | succ n ih => simp only [sN, ih]; show 0 + nL (fun _ => (0 : Int)) _ = 0; rw [h0]
      exact h1 S
    omega
  | succ q ih =>
    intro hq
    have hi := ih (by omega)
    obtain ⟨hb, _⟩ := slS_is (es := es) hy q (by omega)
    have hyq := hy q
    rw [slS_step]
    generalize (es.getD q (0, 0)).1.toNat = a
    generalize (es.getD q (0, 0)).2.toNat = b
    have e1 := up1_ad hb (by omega) a a
    have b1 := ad1_bd hb a a (y := 1) (by omega)
    have e2 := up1_ad b1 (by omega) b b
    have b2 := ad1_bd b1 b b (y := 1) (by omega)
    have e3 := sb1_ad b2 (by omega) a b hyq
    have b3 := ad1_bd b2 a b (y := -(ys.getD q 0)) (by omega)
    have e4 := sb1_ad b3 (by omega) b a hyq
    rw [e1, e2, e3, e4]
    have t1 := totN_ad1 S (slS es ys q) a a (y := 1) (by omega)
    have t2 := totN_ad1 S (ad1 (slS es ys q) a a 1) b b (y := 1) (by omega)
    have t3 := totN_ad1 S (ad1 (ad1 (slS es ys q) a a 1) b b 1) a b (y := -(ys.getD q 0)) (by omega)
    have t4 := totN_ad1 S (ad1 (ad1 (ad1 (slS es ys q) a a 1) b b 1) a b (-(ys.getD q 0))) b a (y := -(ys.getD q 0)) (by omega)
    omega
theorem tot_BaH {S : Nat} (hS : S ≤ 8) : BaH 0 (fun R => totN S R ≤ 40) S := by
  refine ⟨fun R a b h1 h2 h => by show totN S (swn R a b) ≤ 40; rw [totN_swn S R a b h1 h2]; exact h, fun R h k i j h1 h2 h3 => ?_, fun x hx => reg_0 (by simpa using hx)⟩
  have := tot_bd hS h k i j h1 h2 h3
  have e : (2 : Nat) ^ 30 = 1073741824 := by decide
  rw [e] at this
  rw [Int.emod_zero]
  omega
theorem sq1_le (x : Nat) : (x + 1) * (x + 1) ≤ 4 * 2 ^ x := by
  have := sqle4 (x + 1)
  match x, this with
  | 0, _ => decide
  | 1, _ => decide
  | 2, _ => decide
  | x + 3, _ =>
    have key : ∀ x : Nat, (x + 4) * (x + 4) ≤ 4 * 2 ^ (x + 3) := by
      intro x
      induction x with
      | zero => decide
      | succ x ih =>
        have e : 2 ^ (x + 1 + 3) = 2 * 2 ^ (x + 3) := by rw [show x + 1 + 3 = (x + 3) + 1 by omega, Nat.pow_succ]; omega
        rw [e]
        have e2 : (x + 1 + 4) * (x + 1 + 4) = (x + 4) * (x + 4) + 2 * (x + 4) + 1 := by simp only [Nat.add_mul, Nat.mul_add]; omega
        have h2 : 2 * (x + 4) + 1 ≤ (x + 4) * (x + 4) := by
          have h3 : 4 * (x + 4) ≤ (x + 4) * (x + 4) := Nat.mul_le_mul_right _ (by omega)
          omega
        omega
    exact key x
theorem tot_fits {S : Nat} (hS : S ≤ 8) {A : Nat → Nat → Int} (h : totN S A ≤ 40) : fits A S := by
  apply fits_of
  have hrow : ∀ i, i < S → wtL (rowM A S i) (List.range S) ≤ nL (A i) (List.range S) + 1 := by
    intro i hi
    rw [wtL_sum, nL_sum]
    have h1 : sumL (wt (rowM A S i)) (List.range S) ≤ sumL (fun c => (A i c).natAbs + ind i c) (List.range S) := by
      refine sumL_mono _ fun c hc => ?_
      have hc : c < S := by simpa using hc
      simp only [wt, rowM, hc, if_true, ind, Int.natAbs_neg]
      split <;> simp <;> omega
    rw [sumL_add] at h1
    have h2 := sumL_ind_le i _ (List.nodup_range (n := S))
    omega
  have hsq : ∀ n, n ≤ S → wtP (List.range S) ((List.range n).map (rowM A S)) * wtP (List.range S) ((List.range n).map (rowM A S)) ≤ 4 ^ n * 2 ^ sN n (fun i => nL (A i) (List.range S)) := by
    intro n
    induction n with
    | zero => intro _; simp [wtP, sN]
    | succ n ih =>
      intro hn
      rw [List.range_succ, List.map_append, List.map_cons, List.map_nil, wtP_snoc]
      have ih' := ih (by omega)
      have hr := hrow n (by omega)
      simp only [sN]
      generalize wtP (List.range S) ((List.range n).map (rowM A S)) = P at *
      generalize wtL (rowM A S n) (List.range S) = y at *
      generalize nL (A n) (List.range S) = x at *
      have h1 := Nat.mul_le_mul ih' (Nat.le_trans (Nat.mul_le_mul hr hr) (sq1_le x))
      have e1 : P * y * (P * y) = P * P * (y * y) := by rw [Nat.mul_mul_mul_comm]
      have e2 : 4 ^ (n + 1) * 2 ^ (sN n (fun i => nL (A i) (List.range S)) + x) = 4 ^ n * 2 ^ sN n (fun i => nL (A i) (List.range S)) * (4 * 2 ^ x) := by
        rw [Nat.pow_succ, Nat.pow_add, Nat.mul_mul_mul_comm]
      rw [e1, e2]; exact h1
  have h1 := hsq S (Nat.le_refl _)
  have h5 : 4 ^ S ≤ 4 ^ 8 := Nat.pow_le_pow_right (by decide) hS
  have h6 := Nat.pow_le_pow_right (n := 2) (by decide) (show sN S (fun i => nL (A i) (List.range S)) ≤ 40 from h)
  have h7 : wtP (List.range S) (RM A S) ≤ 2 ^ 30 := lt_of_sq (Nat.le_trans h1 (Nat.le_trans (Nat.mul_le_mul h5 h6) (by decide)))
  exact Nat.le_trans (Nat.mul_le_mul h7 (show S + 1 ≤ 9 by omega)) (by decide)

def snO (s : Int) (xss : List (List Int)) (ys : List Int) : Int := dt (tp (smS (pairs xss) ys (dgM xss) xss.length) s.toNat) (List.range s.toNat)
def snOf (s : Int) (xss : List (List Int)) (ys : List Int) : Int × Int := if dblCode s xss ys = 0 then (snO s xss ys, 0) else (0, dblCode s xss ys)
theorem sm_tot {S : Nat} {xss : List (List Int)} {ys : List Int} (hd : dblCode (S : Int) xss ys = 0) : totN S (smS (pairs xss) ys (dgM xss) xss.length) ≤ 40 := by
  obtain ⟨hg, hyl, hys, _⟩ := dbl_ok hd
  have hg4 := grB_iff hg
  have hy : ∀ q, -1 ≤ ys.getD q 0 ∧ ys.getD q 0 ≤ 1 := by
    intro q
    by_cases h : q < ys.length
    · rcases sgB_iff (hys q h) with e | e <;> rw [e] <;> decide
    · have : ys.getD q 0 = 0 := by simp [List.getD, List.getElem?_eq_none (show ys.length ≤ q by omega)]
      rw [this]; decide
  rw [← sgl_eq hd]
  have := slS_tot (es := pairs xss) hy S xss.length hg4.2.2.1
  have := hg4.2.2.1
  omega
theorem sgN_mod (S : Nat) : sgN S = if S % 2 = 1 then -1 else 1 := by
  induction S with
  | zero => rfl
  | succ S ih =>
    unfold sgN; rw [ih]
    by_cases h : S % 2 = 1
    · rw [if_pos h, if_neg (by omega)]; rfl
    · rw [if_neg h, if_pos (by omega)]

set_option maxHeartbeats 1600000 in
theorem implSn {lo hi lo' hi' : Nat} (s : Int) (a : Option Addr) (n c : Nat) (xss : List (List Int)) (aS : Option Addr) (nS cS : Nat) (ys : List Int) (w : World) (h : RdR lo hi w (.slice a n c) xss) (hn : xss.length = n) (hS : RdI lo' hi' w (.slice aS nS cS) ys) (hnS : ys.length = nS) :
    Calls Try.prog 32 #[.agg #[.int .i64 s, .slice a n c], .slice aS nS cS] w fun e w' => e = .returned (.tuple #[.int .i64 (snOf s xss ys).1, .int .i64 (snOf s xss ys).2]) ∧ Below w.heap.size w w' := by
  have hb0 : ∀ o, Below w.heap.size w (w.alloc o) := fun o => (Below.refl _ _).alloc (Nat.le_refl _) o
  have HI := Lib.hid (fun W (hB : Below w.heap.size w W) => implSgl s a n c xss aS nS cS ys W (h.below hB) hn (hS.below hB) hnS)
  by_cases hd : dblCode s xss ys = 0
  · have hg4 := grB_iff (dbl_ok hd).1
    obtain ⟨S, rfl⟩ : ∃ S : Nat, s = (S : Int) := ⟨s.toNat, by omega⟩
    have e : sglOf (S : Int) xss ys = (tab S (smS (pairs xss) ys (dgM xss) xss.length), 0) := by unfold sglOf; rw [if_pos hd, Int.toNat_natCast]
    rw [e] at HI
    simp only [tab_len] at HI
    have e2 : snOf (S : Int) xss ys = (dt (tp (smS (pairs xss) ys (dgM xss) xss.length) S) (List.range S), 0) := by unfold snOf; rw [if_pos hd]; unfold snO; rw [Int.toNat_natCast]
    rw [e2]
    have htot := sm_tot hd
    generalize smS (pairs xss) ys (dgM xss) xss.length = F at HI htot ⊢
    have HD := Lib.hid (fun (L H : Nat) (a2 : Option Addr) (c2 : Nat) (W : World) (ho : OwR L H W (.slice a2 S c2) (tab S F)) (hL : L ≤ W.heap.size) => detWa (by omega) a2 c2 _ W ho hL _ (tot_BaH (S := S) (by omega)) htot)
    clear h hn hS hnS hd e e2 hg4 htot
    go_enter Try.func32, Try.ntmps32
    go_wp2_with fail
    refine calls_gen (fun W => Below w.heap.size w W) (hb0 _) ?_
    rintro W hB
    refine (HI.out W hB).mono ?_
    rintro e w1 ⟨a1, c1, rfl, o1, b1⟩
    have HC := Lib.hid (HD.out W.heap.size _ a1 c1 w1 o1 b1.size)
    have HB := Lib.hid (fun (w2 : World) (b : Below W.heap.size w1 w2) => hB.next (b1.trans b))
    clear hB o1 b1 HI HD
    go_wp2_with fail
    refine HC.out.mono ?_
    rintro e w2 ⟨rfl, b2⟩
    have HF := Lib.hid (HB.out w2 b2)
    clear b2 HC HB
    go_wp2
    go_ret2
    exact ⟨rfl, HF.out⟩
  · have e : sglOf s xss ys = ([], dblCode s xss ys) := by unfold sglOf; rw [if_neg hd]
    have e2 : snOf s xss ys = (0, dblCode s xss ys) := by unfold snOf; rw [if_neg hd]
    rw [e] at HI
    rw [e2]
    have hcb : (dblCode s xss ys == 0) = false := by simpa using hd
    have hcb2 : (dblCode s xss ys != 0) = true := by simpa using hd
    generalize dblCode s xss ys = cd at HI hcb hcb2 ⊢
    clear h hn hS hnS hd e e2
    go_enter Try.func32, Try.ntmps32
    go_wp2_with fail
    refine calls_gen (fun W => Below w.heap.size w W) (hb0 _) ?_
    rintro W hB
    refine (HI.out W hB).mono ?_
    rintro e w1 ⟨a1, c1, rfl, o1, b1⟩
    replace hB := hB.next b1
    clear b1 o1 HI
    go_wp2
    go_ret2
    exact ⟨rfl, hB⟩

set_option maxHeartbeats 1600000 in
theorem specSn {lo hi lo' hi' : Nat} (s : Int) (a : Option Addr) (n c : Nat) (xss : List (List Int)) (aS : Option Addr) (nS cS : Nat) (ys : List Int) (w : World) (h : RdR lo hi w (.slice a n c) xss) (hn : xss.length = n) (hS : RdI lo' hi' w (.slice aS nS cS) ys) (hnS : ys.length = nS) :
    Calls Try.prog 31 #[.agg #[.int .i64 s, .slice a n c], .slice aS nS cS] w fun e w' => e = .returned (.tuple #[.int .i64 (snOf s xss ys).1, .int .i64 (snOf s xss ys).2]) ∧ Below w.heap.size w w' := by
  have hb0 : ∀ o, Below w.heap.size w (w.alloc o) := fun o => (Below.refl _ _).alloc (Nat.le_refl _) o
  have HI := Lib.hid (fun W (hB : Below w.heap.size w W) => l04Signs s a n c xss aS nS cS ys W (h.below hB) hn (hS.below hB) hnS)
  by_cases hd : dblCode s xss ys = 0
  · have hg4 := grB_iff (dbl_ok hd).1
    obtain ⟨S, rfl⟩ : ∃ S : Nat, s = (S : Int) := ⟨s.toNat, by omega⟩
    have e2 : snOf (S : Int) xss ys = (dt (tp (smS (pairs xss) ys (dgM xss) n) S) (List.range S), 0) := by unfold snOf; rw [if_pos hd]; unfold snO; rw [Int.toNat_natCast, hn]
    rw [e2]
    rw [hd] at HI
    have htot := sm_tot hd
    rw [hn] at htot
    have HR := Lib.hid (fun W (hB : Below w.heap.size w W) => l10Signed S a n c xss aS nS cS ys W (h.below hB) hn (hS.below hB) hnS hd)
    generalize smS (pairs xss) ys (dgM xss) n = F at HR htot ⊢
    have hft := tot_fits (by omega) htot
    have HBK := Lib.hid (fun (a2 : Option Addr) (c2 : Nat) (W : World) (lo hi : Nat) (hr : RdR lo hi W (.slice a2 S c2) (tab S F)) => specBkD' S F a2 c2 W hr (by omega) hft)
    have htop := dk_top F S
    have hlen : (trim (dkL F S)).length ≤ S + 1 := by
      have h1 : (trim (dkL F S)).length ≤ (dkL F S).length := by unfold trim; rw [List.length_take]; omega
      have h2 : (dkL F S).length = S + 1 := by simp [dkL]
      omega
    have HY := Lib.hid (show ((trim (dkL F S)).length ≠ S + 1 → dt (tp F S) (List.range S) = 0) ∧ (trim (dkL F S)).getD S 0 = sgN S * dt (tp F S) (List.range S) from ⟨fun h1 => by
      have := dk_trim0 (A := F) (n := S) S (by omega) (by omega)
      rw [this] at htop
      rcases Int.mul_eq_zero.1 htop.symm with h3 | h3
      · rw [sgN_mod] at h3; split at h3 <;> simp at h3
      · exact h3, by rw [dk_trim _ (by omega), htop]⟩)
    have hI64 : -9223372036854775807 ≤ dt (tp F S) (List.range S) ∧ dt (tp F S) (List.range S) ≤ 9223372036854775807 := by
      have h1 := hft S (Nat.le_refl S)
      rw [htop, Int.natAbs_mul] at h1
      have h2 : (sgN S).natAbs = 1 := by rw [sgN_mod]; split <;> rfl
      rw [h2, Nat.one_mul] at h1
      have h3 : (dt (tp F S) (List.range S)).natAbs * 1 ≤ (dt (tp F S) (List.range S)).natAbs * (S + 1) := Nat.mul_le_mul_left _ (by omega)
      omega
    generalize trim (dkL F S) = ys2 at HBK HY
    generalize dt (tp F S) (List.range S) = D at HY hI64 ⊢
    have HI6 := Lib.hid hI64
    have HS8 := Lib.hid (show 1 ≤ S ∧ S ≤ 8 by omega)
    clear h hn hS hnS hd e2 hg4 htot htop hlen hft hI64
    go_enter Try.func31, Try.ntmps31
    go_wp2_with fail
    refine calls_gen (fun W => Below w.heap.size w W ∧ W.cell? ⟨w.heap.size, 0, none⟩ = some (.int .i64 (S : Int)) ∧ W.cell? ⟨w.heap.size, 1, none⟩ = some (.slice a n c)) ⟨hb0 _, by go_simp, by go_simp⟩ ?_
    rintro W ⟨hB, k0, k1⟩
    refine (HI.out W hB).mono ?_
    rintro e w1 ⟨rfl, b1⟩
    replace hB := hB.next b1
    replace k0 := b1.keep k0
    replace k1 := b1.keep k1
    clear b1 HI
    go_wp2_with fail
    refine (HR.out w1 hB).mono ?_
    rintro e w2 ⟨a2, c2, rfl, o2, b2⟩
    replace hB := hB.next b2
    replace k0 := b2.keep k0
    replace k1 := b2.keep k1
    have HC := Lib.hid (HBK.out a2 c2 w2 _ _ o2.rd)
    clear b2 o2 HR HBK
    go_wp2_with fail
    refine HC.out.mono ?_
    rintro e w3 ⟨a3, c3, rfl, o3, b3⟩
    have HF := Lib.hid (hB.next b3)
    replace k0 := b3.keep k0
    clear k1 b3 HC hB
    have hw1 : IntKind.i64.wrap ((S : Int) + 1) = (S : Int) + 1 := IntWalk.i64_in _ (by have := HS8.out; omega)
    have hw2 : wrap64 ((S : Int) + 1) = (S : Int) + 1 := IntWalk.wrap64_in _ (by have := HS8.out; clear hw1; omega)
    by_cases hle : ys2.length = S + 1
    · have hb : ((ys2.length : Int) != (S : Int) + 1) = false := by simp; omega
      obtain ⟨b, off, rfl, h1⟩ := o3.rd.at rfl S (by omega)
      rw [HY.out.2, sgN_mod] at h1
      have hS0 : (0 : Int) ≤ (S : Int) := by omega
      have hS1 : (S : Int) < (ys2.length : Int) := by omega
      have H64 := HI6.out
      clear HY o3 hle HI6
      by_cases hod : S % 2 = 1
      · rw [if_pos hod, Int.neg_one_mul] at h1
        have hr2 : (S : Int) % 2 = 1 := by omega
        have hr1 : Int.tmod (S : Int) 2 = 1 := by rw [Int.tmod_eq_emod_of_nonneg hS0]; exact hr2
        have n1 : IntKind.i64.wrap (-(-D)) = D := by rw [Int.neg_neg]; exact IntWalk.i64_in _ (by clear hw1 hw2 hr1; omega)
        have n2 : wrap64 (-(-D)) = D := by rw [Int.neg_neg]; exact IntWalk.wrap64_in _ (by clear hw1 hw2 n1 hr1; omega)
        have n3 : -(-D) = D := Int.neg_neg D
        have n4 : wrap64 D = D := IntWalk.wrap64_in _ (by clear hw1 hw2 n1 n2 hr1; omega)
        have n5 : IntKind.i64.wrap D = D := IntWalk.i64_in _ (by clear hw1 hw2 n1 n2 n4 hr1; omega)
        clear H64
        go_wp2
        go_ret2
        exact ⟨rfl, HF.out⟩
      · rw [if_neg hod, Int.one_mul] at h1
        have hr2 : (S : Int) % 2 = 0 := by omega
        have hr1 : Int.tmod (S : Int) 2 = 0 := by rw [Int.tmod_eq_emod_of_nonneg hS0]; exact hr2
        clear H64
        go_wp2
        go_ret2
        exact ⟨rfl, HF.out⟩
    · have hb : ((ys2.length : Int) != (S : Int) + 1) = true := by simp; omega
      have HD0 := Lib.hid (HY.out.1 hle)
      clear HY o3 hle
      go_wp2
      go_ret2
      exact ⟨by rw [HD0.out]; rfl, HF.out⟩
  · have e2 : snOf s xss ys = (0, dblCode s xss ys) := by unfold snOf; rw [if_neg hd]
    rw [e2]
    have hcb : (dblCode s xss ys == 0) = false := by simpa using hd
    have hcb2 : (dblCode s xss ys != 0) = true := by simpa using hd
    generalize dblCode s xss ys = cd at HI hcb hcb2 ⊢
    clear h hn hS hnS hd e2
    go_enter Try.func31, Try.ntmps31
    go_wp2_with fail
    refine calls_gen (fun W => Below w.heap.size w W) (hb0 _) ?_
    rintro W hB
    refine (HI.out W hB).mono ?_
    rintro e w1 ⟨rfl, b1⟩
    replace hB := hB.next b1
    clear b1 HI
    go_wp2
    go_ret2
    exact ⟨rfl, hB⟩
end Go.Proofs.Ytmhnckjcpdnabaa
