/- EigenAbove, EigenAt, SignsOfSpectrum, both sides. -/
import Derived.Test.YtkhfhdmhhkfehaaShC
import Derived.Test.YtkhfhdmhhkfehaaDw
set_option linter.unusedSimpArgs false
set_option linter.unusedVariables false
set_option maxRecDepth 100000
namespace Go.Proofs.Ytkhfhdmhhkfehaa
open Go.RowKit

/-- the first place from k on where the numbers are not 0 -/
def zm (f : Nat → Int) : Nat → Nat → Nat
  | 0, k => k
  | n + 1, k => if f k = 0 then zm f n (k + 1) else k
theorem zm_spec (f : Nat → Int) : ∀ n k j, k ≤ j → j < k + n → f j ≠ 0 → k ≤ zm f n k ∧ zm f n k ≤ j ∧ f (zm f n k) ≠ 0 ∧ ∀ i, k ≤ i → i < zm f n k → f i = 0
  | 0, k, j, h1, h2, _ => by omega
  | n + 1, k, j, h1, h2, h3 => by
    unfold zm
    by_cases h : f k = 0
    · rw [if_pos h]
      have hkj : k ≠ j := fun e => h3 (by rw [← e]; exact h)
      obtain ⟨a1, a2, a3, a4⟩ := zm_spec f n (k + 1) j (by omega) (by omega) h3
      refine ⟨by omega, a2, a3, fun i hi1 hi2 => ?_⟩
      by_cases e : i = k
      · rw [e]; exact h
      · exact a4 i (by omega) hi2
    · rw [if_neg h]
      exact ⟨Nat.le_refl _, h1, h, fun i hi1 hi2 => by omega⟩
/-- how often c is a root of the characteristic polynomial of n rows -/
def atN (A : Nat → Nat → Int) (n : Nat) (c : Int) : Nat := zm (rk (chL A n) c (n + 1)) (n + 1) 0
theorem atN_spec {A : Nat → Nat → Int} {n : Nat} (h : fits A n) (c : Int) : atN A n c < n + 1 ∧ (∀ k, k < atN A n c → rk (chL A n) c (n + 1) k = 0) ∧ ¬ rk (chL A n) c (n + 1) (atN A n c) = 0 := by
  have htop : rk (chL A n) c (n + 1) n ≠ 0 := by
    rw [rk_hQ (chL_I64 h) (by omega), hQ_top (chL A n) c (n + 1) n (by omega)]
    have e : (chL A n).getD (n + 1 - 1) 0 = 1 := by rw [chL_get (by omega), show n - (n + 1 - 1) = 0 by omega, dk_0]
    rw [e, wrap_of (by unfold I64; omega)]; omega
  obtain ⟨a1, a2, a3, a4⟩ := zm_spec (rk (chL A n) c (n + 1)) (n + 1) 0 n (Nat.zero_le _) (by omega) htop
  exact ⟨by unfold atN; omega, fun k hk => a4 k (Nat.zero_le _) hk, a3⟩
def eiCode (s : Int) (xss : List (List Int)) (c : Int) : Int := if grB s xss = true then (if -30 ≤ c ∧ c ≤ 30 then 0 else 2) else 1
def eaR (s : Int) (xss : List (List Int)) (c : Int) : Int := (chK (rk (chL (adF xss) s.toNat) c (s.toNat + 1)) (s.toNat + 1)).1
def etR (s : Int) (xss : List (List Int)) (c : Int) : Int := (atN (adF xss) s.toNat c : Int)
def eaOf (s : Int) (xss : List (List Int)) (c : Int) : Int × Int := if eiCode s xss c = 0 then (eaR s xss c, 0) else (0, eiCode s xss c)
def etOf (s : Int) (xss : List (List Int)) (c : Int) : Int × Int := if eiCode s xss c = 0 then (etR s xss c, 0) else (0, eiCode s xss c)

set_option maxHeartbeats 1600000 in
theorem l07Code {lo hi : Nat} (s : Int) (a : Option Addr) (n c : Nat) (xss : List (List Int)) (k : Int) (w : World) (h : RdR lo hi w (.slice a n c) xss) (hn : xss.length = n) :
    Calls Try.prog 74 #[.agg #[.int .i64 s, .slice a n c], .int .i64 k] w fun e w' => e = .returned (.int .i64 (eiCode s xss k)) ∧ Below w.heap.size w w' := by
  have hb0 : ∀ o, Below w.heap.size w (w.alloc o) := fun o => (Below.refl _ _).alloc (Nat.le_refl _) o
  have HI := Lib.hid (fun W (hB : Below w.heap.size w W) => l01Is s a n c xss W (h.below hB) hn)
  obtain ⟨P, hP⟩ : ∃ P, P = eiCode s xss k := ⟨_, rfl⟩
  rw [← hP]
  unfold eiCode at hP
  clear h hn
  cases hg : grB s xss with
  | false =>
    rw [hg] at HI
    rw [hg, if_neg (by simp)] at hP
    subst hP
    clear hg
    go_enter Try.func74, Try.ntmps74
    go_wp2_with fail
    refine calls_gen (fun W => Below w.heap.size w W) (hb0 _) ?_
    rintro W hB
    refine (HI.out W hB).mono ?_
    rintro e w1 ⟨rfl, b1⟩
    replace hB := hB.next b1
    clear b1 HI
    go_wp2
    go_ret
    exact ⟨rfl, hB⟩
  | true =>
    rw [hg] at HI
    rw [hg, if_pos rfl] at hP
    clear hg
    by_cases hr : -30 ≤ k ∧ k ≤ 30
    · have hb : (decide (-30 ≤ k) && decide (k ≤ 30)) = true := by simp [hr]
      rw [if_pos hr] at hP
      subst hP
      clear hr
      go_enter Try.func74, Try.ntmps74
      go_wp2_with fail
      refine calls_gen (fun W => Below w.heap.size w W) (hb0 _) ?_
      rintro W hB
      refine (HI.out W hB).mono ?_
      rintro e w1 ⟨rfl, b1⟩
      replace hB := hB.next b1
      clear b1 HI
      go_wp2_with fail
      refine (l01In k (-30) 30 w1).mono ?_
      rw [hb]
      rintro e w2 ⟨rfl, q2⟩
      replace hB := hB.qt q2
      clear q2 hb
      go_wp2
      go_ret
      exact ⟨rfl, hB⟩
    · have hb : (decide (-30 ≤ k) && decide (k ≤ 30)) = false := by
        cases hh : (decide (-30 ≤ k) && decide (k ≤ 30)) with
        | false => rfl
        | true => simp at hh; exact absurd hh hr
      rw [if_neg hr] at hP
      subst hP
      clear hr
      go_enter Try.func74, Try.ntmps74
      go_wp2_with fail
      refine calls_gen (fun W => Below w.heap.size w W) (hb0 _) ?_
      rintro W hB
      refine (HI.out W hB).mono ?_
      rintro e w1 ⟨rfl, b1⟩
      replace hB := hB.next b1
      clear b1 HI
      go_wp2_with fail
      refine (l01In k (-30) 30 w1).mono ?_
      rw [hb]
      rintro e w2 ⟨rfl, q2⟩
      replace hB := hB.qt q2
      clear q2 hb
      go_wp2
      go_ret
      exact ⟨rfl, hB⟩

theorem eaOf_no {s : Int} {xss : List (List Int)} {k : Int} (h : grB s xss = false) : eaOf s xss k = (0, 1) := by unfold eaOf eiCode; rw [h]; rfl
theorem eaOf_out {s : Int} {xss : List (List Int)} {k : Int} (h : grB s xss = true) (hr : ¬ (-30 ≤ k ∧ k ≤ 30)) : eaOf s xss k = (0, 2) := by unfold eaOf eiCode; rw [if_pos h, if_neg hr]; rfl
theorem eaOf_yes {s : Int} {xss : List (List Int)} {k : Int} (h : grB s xss = true) (hr : -30 ≤ k ∧ k ≤ 30) : eaOf s xss k = (eaR s xss k, 0) := by unfold eaOf eiCode; rw [if_pos h, if_pos hr]; rfl

set_option maxHeartbeats 3200000 in
theorem countEa {lo hi : Nat} (s : Int) (a : Option Addr) (n c : Nat) (xss : List (List Int)) (k : Int) (w : World) (h : RdR lo hi w (.slice a n c) xss) (hn : xss.length = n) :
    Calls Try.prog 75 #[.agg #[.int .i64 s, .slice a n c], .int .i64 k, (.func (Fn.func 72) #[] #[])] w fun e w' => e = .returned (.tuple #[.int .i64 (eaOf s xss k).1, .int .i64 (eaOf s xss k).2]) ∧ Below w.heap.size w w' := by
  have hb0 : ∀ o, Below w.heap.size w (w.alloc o) := fun o => (Below.refl _ _).alloc (Nat.le_refl _) o
  have HC := Lib.hid (fun W (hB : Below w.heap.size w W) => implCha s a n c xss W (h.below hB) hn)
  cases hg : grB s xss with
  | false =>
    rw [chaOf_no hg] at HC
    rw [eaOf_no hg]
    clear h hn hg
    go_enter Try.func75, Try.ntmps75
    go_wp2_with fail
    refine calls_gen (fun W => Below w.heap.size w W) (hb0 _) ?_
    rintro W hB
    refine (HC.out W hB).mono ?_
    rintro e w1 ⟨a1, c1, rfl, o1, b1⟩
    replace hB := hB.next b1
    clear o1 b1 HC
    go_wp2
    go_ret2
    exact ⟨rfl, hB⟩
  | true =>
    have hg4 := grB_iff hg
    obtain ⟨S, hS⟩ : ∃ S : Nat, s = (S : Int) := ⟨s.toNat, by omega⟩
    subst hS
    rw [chaOf_yes hg] at HC
    have HLN := Lib.hid (chL_len (adF xss) S)
    have HRT := Lib.hid (fun (a1 : Option Addr) (cap1 lo1 hi1 : Nat) (W : World) (hW : RdI lo1 hi1 W (.slice a1 (S + 1) cap1) (chL (adF xss) S)) => rootsAbove (S + 1) cap1 a1 (chL (adF xss) S) k W hW (chL_len _ _) (by omega))
    have hRS : eaR (S : Int) xss k = (chK (rk (chL (adF xss) S) k (S + 1)) (S + 1)).1 := by unfold eaR; rw [Int.toNat_natCast]
    rw [← hRS] at HRT
    by_cases hr : -30 ≤ k ∧ k ≤ 30
    · have hb : (decide (-30 ≤ k) && decide (k ≤ 30)) = true := by simp [hr]
      rw [eaOf_yes hg hr]
      generalize eaR (S : Int) xss k = r at HRT ⊢
      clear h hn hg hg4 hr hRS
      go_enter Try.func75, Try.ntmps75
      go_wp2_with fail
      refine calls_gen (fun W => Below w.heap.size w W) (hb0 _) ?_
      rintro W hB
      refine (HC.out W hB).mono ?_
      rintro e w1 ⟨a1, c1, rfl, o1, b1⟩
      rw [HLN.out] at o1 ⊢
      have HB := Lib.hid (hB.next b1)
      have HO := Lib.hid o1.rd
      clear o1 b1 HC hB
      go_wp2_with fail
      refine (isWithinL k 30 (by omega) (by omega) w1).mono ?_
      rw [hb]
      rintro e w2 ⟨rfl, q2⟩
      have HR2 := Lib.hid (HRT.out a1 c1 _ _ w2 (HO.out.qt q2))
      have HB2 := Lib.hid (HB.out.qt q2)
      clear q2 hb HRT
      go_wp2_with fail
      refine HR2.out.mono ?_
      rintro e w3 ⟨rfl, b3⟩
      have HF := Lib.hid (HB2.out.next b3)
      clear b3 HR2
      go_wp2
      go_ret2
      exact ⟨rfl, HF.out⟩
    · have hb : (decide (-30 ≤ k) && decide (k ≤ 30)) = false := by
        cases hh : (decide (-30 ≤ k) && decide (k ≤ 30)) with
        | false => rfl
        | true => simp at hh; exact absurd hh hr
      rw [eaOf_out hg hr]
      clear h hn hg hg4 hr hRS HRT
      go_enter Try.func75, Try.ntmps75
      go_wp2_with fail
      refine calls_gen (fun W => Below w.heap.size w W) (hb0 _) ?_
      rintro W hB
      refine (HC.out W hB).mono ?_
      rintro e w1 ⟨a1, c1, rfl, o1, b1⟩
      have HB := Lib.hid (hB.next b1)
      clear o1 b1 HC hB
      go_wp2_with fail
      refine (isWithinL k 30 (by omega) (by omega) w1).mono ?_
      rw [hb]
      rintro e w2 ⟨rfl, q2⟩
      have HF := Lib.hid (HB.out.qt q2)
      clear q2 hb
      go_wp2
      go_ret2
      exact ⟨rfl, HF.out⟩

set_option maxHeartbeats 1600000 in
theorem implEa {lo hi : Nat} (s : Int) (a : Option Addr) (n c : Nat) (xss : List (List Int)) (k : Int) (w : World) (h : RdR lo hi w (.slice a n c) xss) (hn : xss.length = n) :
    Calls Try.prog 41 #[.agg #[.int .i64 s, .slice a n c], .int .i64 k] w fun e w' => e = .returned (.tuple #[.int .i64 (eaOf s xss k).1, .int .i64 (eaOf s xss k).2]) ∧ Below w.heap.size w w' := by
  have hb0 : ∀ o, Below w.heap.size w (w.alloc o) := fun o => (Below.refl _ _).alloc (Nat.le_refl _) o
  have HC := Lib.hid (fun W (hB : Below w.heap.size w W) => countEa s a n c xss k W (h.below hB) hn)
  generalize eaOf s xss k = P at HC ⊢
  clear h hn
  go_enter Try.func41, Try.ntmps41
  go_wp2_with fail
  refine calls_gen (fun W => Below w.heap.size w W) (hb0 _) ?_
  rintro W hB
  refine (HC.out W hB).mono ?_
  rintro e w1 ⟨rfl, b1⟩
  have HF := Lib.hid (hB.next b1)
  clear b1 HC hB
  go_wp2
  go_ret2
  exact ⟨rfl, HF.out⟩

set_option maxHeartbeats 3200000 in
theorem specEa {lo hi : Nat} (s : Int) (a : Option Addr) (n c : Nat) (xss : List (List Int)) (k : Int) (w : World) (h : RdR lo hi w (.slice a n c) xss) (hn : xss.length = n) :
    Calls Try.prog 40 #[.agg #[.int .i64 s, .slice a n c], .int .i64 k] w fun e w' => e = .returned (.tuple #[.int .i64 (eaOf s xss k).1, .int .i64 (eaOf s xss k).2]) ∧ Below w.heap.size w w' := by
  have hb0 : ∀ o, Below w.heap.size w (w.alloc o) := fun o => (Below.refl _ _).alloc (Nat.le_refl _) o
  have HI := Lib.hid (fun W (hB : Below w.heap.size w W) => l07Code s a n c xss k W (h.below hB) hn)
  by_cases hc : eiCode s xss k = 0
  · have hgr : grB s xss = true ∧ (-30 ≤ k ∧ k ≤ 30) := by
      unfold eiCode at hc
      split at hc
      · rename_i h1
        split at hc
        · rename_i h2; exact ⟨h1, h2⟩
        · omega
      · omega
    obtain ⟨hg, hr⟩ := hgr
    rw [hc] at HI
    rw [eaOf_yes hg hr]
    have hk64 : I64 k := by unfold I64; omega
    have hg4 := grB_iff hg
    obtain ⟨S, hS⟩ : ∃ S : Nat, s = (S : Int) := ⟨s.toNat, by omega⟩
    subst hS
    have HR := Lib.hid (fun W (hB : Below w.heap.size w W) => l01Adjacency S a n c xss W (h.below hB) hn hg)
    have HC := Lib.hid (fun (a1 : Option Addr) (c1 lo1 hi1 : Nat) (W : World) (hW : RdR lo1 hi1 W (.slice a1 S c1) (tab S (adF xss))) => l07Of S (adF xss) a1 c1 W hW (by omega) (adF_fits hg))
    have HN := Lib.hid hn
    have HT := Lib.hid (adZ_tab hg S)
    have HRT := Lib.hid (fun (a1 : Option Addr) (cap1 lo1 hi1 : Nat) (W : World) (hW : RdI lo1 hi1 W (.slice a1 (S + 1) cap1) (chL (adF xss) S)) => l07Above (S + 1) cap1 a1 (chL (adF xss) S) k W hW (chL_len _ _) (by omega) hk64)
    have hRS : eaR (S : Int) xss k = (chK (rk (chL (adF xss) S) k (S + 1)) (S + 1)).1 := by unfold eaR; rw [Int.toNat_natCast]
    rw [← hRS] at HRT
    generalize eaR (S : Int) xss k = r at HRT ⊢
    clear h hn hg hg4 hr hRS hc hk64
    go_enter Try.func40, Try.ntmps40
    go_wp2_with fail
    refine calls_gen (fun W => Below w.heap.size w W ∧ W.cell? ⟨w.heap.size, 0, none⟩ = some (.int .i64 (S : Int)) ∧ W.cell? ⟨w.heap.size, 1, none⟩ = some (.slice a n c)) ⟨hb0 _, by go_simp, by go_simp⟩ ?_
    rintro W ⟨hB, k0, k1⟩
    refine (HI.out W hB).mono ?_
    rintro e w0 ⟨rfl, b0⟩
    replace hB := hB.next b0
    replace k0 := b0.keep k0
    replace k1 := b0.keep k1
    clear b0 HI
    go_wp2_with fail
    refine (HR.out w0 hB).mono ?_
    rintro e w1 ⟨a1, c1, rfl, o1, b1⟩
    have ho : RdR w0.heap.size w1.heap.size w1 (.slice a1 S c1) (tab S (adF xss)) := by
      have := o1.rd
      rw [← HN.out, HT.out] at this
      exact this
    have HC1 := Lib.hid (HC.out a1 c1 _ _ w1 ho)
    have HB := Lib.hid (hB.next b1)
    clear hB o1 b1 ho HC HR k0 k1
    go_wp2_with fail
    refine HC1.out.mono ?_
    rintro e w2 ⟨a2, c2, rfl, o2, b2⟩
    have HR2 := Lib.hid (HRT.out a2 c2 _ _ w2 o2.rd)
    have HB2 := Lib.hid (HB.out.next b2)
    clear o2 b2 HC1 HRT
    go_wp2_with fail
    refine HR2.out.mono ?_
    rintro e w3 ⟨rfl, b3⟩
    have HF := Lib.hid (HB2.out.next b3)
    clear b3 HR2
    go_wp2
    go_ret2
    exact ⟨rfl, HF.out⟩
  · have e1 : eaOf s xss k = (0, eiCode s xss k) := by unfold eaOf; rw [if_neg hc]
    rw [e1]
    generalize eiCode s xss k = cd at HI hc ⊢
    have hcb : (cd != 0) = true := by simpa using hc
    clear h hn hc e1
    go_enter Try.func40, Try.ntmps40
    go_wp2_with fail
    refine calls_gen (fun W => Below w.heap.size w W) (hb0 _) ?_
    rintro W hB
    refine (HI.out W hB).mono ?_
    rintro e w1 ⟨rfl, b1⟩
    replace hB := hB.next b1
    clear b1 HI
    go_wp2
    go_ret2
    exact ⟨rfl, hB⟩

theorem etOf_no {s : Int} {xss : List (List Int)} {k : Int} (h : grB s xss = false) : etOf s xss k = (0, 1) := by unfold etOf eiCode; rw [h]; rfl
theorem etOf_out {s : Int} {xss : List (List Int)} {k : Int} (h : grB s xss = true) (hr : ¬ (-30 ≤ k ∧ k ≤ 30)) : etOf s xss k = (0, 2) := by unfold etOf eiCode; rw [if_pos h, if_neg hr]; rfl
theorem etOf_yes {s : Int} {xss : List (List Int)} {k : Int} (h : grB s xss = true) (hr : -30 ≤ k ∧ k ≤ 30) : etOf s xss k = (etR s xss k, 0) := by unfold etOf eiCode; rw [if_pos h, if_pos hr]; rfl

set_option maxHeartbeats 3200000 in
theorem countEt {lo hi : Nat} (s : Int) (a : Option Addr) (n c : Nat) (xss : List (List Int)) (k : Int) (w : World) (h : RdR lo hi w (.slice a n c) xss) (hn : xss.length = n) :
    Calls Try.prog 75 #[.agg #[.int .i64 s, .slice a n c], .int .i64 k, (.func (Fn.func 73) #[] #[])] w fun e w' => e = .returned (.tuple #[.int .i64 (etOf s xss k).1, .int .i64 (etOf s xss k).2]) ∧ Below w.heap.size w w' := by
  have hb0 : ∀ o, Below w.heap.size w (w.alloc o) := fun o => (Below.refl _ _).alloc (Nat.le_refl _) o
  have HC := Lib.hid (fun W (hB : Below w.heap.size w W) => implCha s a n c xss W (h.below hB) hn)
  cases hg : grB s xss with
  | false =>
    rw [chaOf_no hg] at HC
    rw [etOf_no hg]
    clear h hn hg
    go_enter Try.func75, Try.ntmps75
    go_wp2_with fail
    refine calls_gen (fun W => Below w.heap.size w W) (hb0 _) ?_
    rintro W hB
    refine (HC.out W hB).mono ?_
    rintro e w1 ⟨a1, c1, rfl, o1, b1⟩
    replace hB := hB.next b1
    clear o1 b1 HC
    go_wp2
    go_ret2
    exact ⟨rfl, hB⟩
  | true =>
    have hg4 := grB_iff hg
    obtain ⟨S, hS⟩ : ∃ S : Nat, s = (S : Int) := ⟨s.toNat, by omega⟩
    subst hS
    rw [chaOf_yes hg] at HC
    have HLN := Lib.hid (chL_len (adF xss) S)
    have HRT := Lib.hid (fun (a1 : Option Addr) (cap1 lo1 hi1 : Nat) (W : World) (hW : RdI lo1 hi1 W (.slice a1 (S + 1) cap1) (chL (adF xss) S)) => rootsAt (S + 1) cap1 (atN (adF xss) S k) a1 (chL (adF xss) S) k W hW (chL_len _ _) (by omega) (atN_spec (adF_fits hg) k).1 (atN_spec (adF_fits hg) k).2.1 (atN_spec (adF_fits hg) k).2.2)
    have hRS : etR (S : Int) xss k = (atN (adF xss) S k : Int) := by unfold etR; rw [Int.toNat_natCast]
    rw [← hRS] at HRT
    by_cases hr : -30 ≤ k ∧ k ≤ 30
    · have hb : (decide (-30 ≤ k) && decide (k ≤ 30)) = true := by simp [hr]
      rw [etOf_yes hg hr]
      generalize etR (S : Int) xss k = r at HRT ⊢
      clear h hn hg hg4 hr hRS
      go_enter Try.func75, Try.ntmps75
      go_wp2_with fail
      refine calls_gen (fun W => Below w.heap.size w W) (hb0 _) ?_
      rintro W hB
      refine (HC.out W hB).mono ?_
      rintro e w1 ⟨a1, c1, rfl, o1, b1⟩
      rw [HLN.out] at o1 ⊢
      have HB := Lib.hid (hB.next b1)
      have HO := Lib.hid o1.rd
      clear o1 b1 HC hB
      go_wp2_with fail
      refine (isWithinL k 30 (by omega) (by omega) w1).mono ?_
      rw [hb]
      rintro e w2 ⟨rfl, q2⟩
      have HR2 := Lib.hid (HRT.out a1 c1 _ _ w2 (HO.out.qt q2))
      have HB2 := Lib.hid (HB.out.qt q2)
      clear q2 hb HRT
      go_wp2_with fail
      refine HR2.out.mono ?_
      rintro e w3 ⟨rfl, b3⟩
      have HF := Lib.hid (HB2.out.next b3)
      clear b3 HR2
      go_wp2
      go_ret2
      exact ⟨rfl, HF.out⟩
    · have hb : (decide (-30 ≤ k) && decide (k ≤ 30)) = false := by
        cases hh : (decide (-30 ≤ k) && decide (k ≤ 30)) with
        | false => rfl
        | true => simp at hh; exact absurd hh hr
      rw [etOf_out hg hr]
      clear h hn hg hg4 hr hRS HRT
      go_enter Try.func75, Try.ntmps75
      go_wp2_with fail
      refine calls_gen (fun W => Below w.heap.size w W) (hb0 _) ?_
      rintro W hB
      refine (HC.out W hB).mono ?_
      rintro e w1 ⟨a1, c1, rfl, o1, b1⟩
      have HB := Lib.hid (hB.next b1)
      clear o1 b1 HC hB
      go_wp2_with fail
      refine (isWithinL k 30 (by omega) (by omega) w1).mono ?_
      rw [hb]
      rintro e w2 ⟨rfl, q2⟩
      have HF := Lib.hid (HB.out.qt q2)
      clear q2 hb
      go_wp2
      go_ret2
      exact ⟨rfl, HF.out⟩

set_option maxHeartbeats 1600000 in
theorem implEt {lo hi : Nat} (s : Int) (a : Option Addr) (n c : Nat) (xss : List (List Int)) (k : Int) (w : World) (h : RdR lo hi w (.slice a n c) xss) (hn : xss.length = n) :
    Calls Try.prog 43 #[.agg #[.int .i64 s, .slice a n c], .int .i64 k] w fun e w' => e = .returned (.tuple #[.int .i64 (etOf s xss k).1, .int .i64 (etOf s xss k).2]) ∧ Below w.heap.size w w' := by
  have hb0 : ∀ o, Below w.heap.size w (w.alloc o) := fun o => (Below.refl _ _).alloc (Nat.le_refl _) o
  have HC := Lib.hid (fun W (hB : Below w.heap.size w W) => countEt s a n c xss k W (h.below hB) hn)
  generalize etOf s xss k = P at HC ⊢
  clear h hn
  go_enter Try.func43, Try.ntmps43
  go_wp2_with fail
  refine calls_gen (fun W => Below w.heap.size w W) (hb0 _) ?_
  rintro W hB
  refine (HC.out W hB).mono ?_
  rintro e w1 ⟨rfl, b1⟩
  have HF := Lib.hid (hB.next b1)
  clear b1 HC hB
  go_wp2
  go_ret2
  exact ⟨rfl, HF.out⟩

set_option maxHeartbeats 3200000 in
theorem specEt {lo hi : Nat} (s : Int) (a : Option Addr) (n c : Nat) (xss : List (List Int)) (k : Int) (w : World) (h : RdR lo hi w (.slice a n c) xss) (hn : xss.length = n) :
    Calls Try.prog 42 #[.agg #[.int .i64 s, .slice a n c], .int .i64 k] w fun e w' => e = .returned (.tuple #[.int .i64 (etOf s xss k).1, .int .i64 (etOf s xss k).2]) ∧ Below w.heap.size w w' := by
  have hb0 : ∀ o, Below w.heap.size w (w.alloc o) := fun o => (Below.refl _ _).alloc (Nat.le_refl _) o
  have HI := Lib.hid (fun W (hB : Below w.heap.size w W) => l07Code s a n c xss k W (h.below hB) hn)
  by_cases hc : eiCode s xss k = 0
  · have hgr : grB s xss = true ∧ (-30 ≤ k ∧ k ≤ 30) := by
      unfold eiCode at hc
      split at hc
      · rename_i h1
        split at hc
        · rename_i h2; exact ⟨h1, h2⟩
        · omega
      · omega
    obtain ⟨hg, hr⟩ := hgr
    rw [hc] at HI
    rw [etOf_yes hg hr]
    have hk64 : I64 k := by unfold I64; omega
    have hg4 := grB_iff hg
    obtain ⟨S, hS⟩ : ∃ S : Nat, s = (S : Int) := ⟨s.toNat, by omega⟩
    subst hS
    have HR := Lib.hid (fun W (hB : Below w.heap.size w W) => l01Adjacency S a n c xss W (h.below hB) hn hg)
    have HC := Lib.hid (fun (a1 : Option Addr) (c1 lo1 hi1 : Nat) (W : World) (hW : RdR lo1 hi1 W (.slice a1 S c1) (tab S (adF xss))) => l07Of S (adF xss) a1 c1 W hW (by omega) (adF_fits hg))
    have HN := Lib.hid hn
    have HT := Lib.hid (adZ_tab hg S)
    have HRT := Lib.hid (fun (a1 : Option Addr) (cap1 lo1 hi1 : Nat) (W : World) (hW : RdI lo1 hi1 W (.slice a1 (S + 1) cap1) (chL (adF xss) S)) => l07At (S + 1) cap1 (atN (adF xss) S k) a1 (chL (adF xss) S) k W hW (chL_len _ _) (by omega) hk64 (atN_spec (adF_fits hg) k).1 (atN_spec (adF_fits hg) k).2.1 (atN_spec (adF_fits hg) k).2.2)
    have hRS : etR (S : Int) xss k = (atN (adF xss) S k : Int) := by unfold etR; rw [Int.toNat_natCast]
    rw [← hRS] at HRT
    generalize etR (S : Int) xss k = r at HRT ⊢
    clear h hn hg hg4 hr hRS hc hk64
    go_enter Try.func42, Try.ntmps42
    go_wp2_with fail
    refine calls_gen (fun W => Below w.heap.size w W ∧ W.cell? ⟨w.heap.size, 0, none⟩ = some (.int .i64 (S : Int)) ∧ W.cell? ⟨w.heap.size, 1, none⟩ = some (.slice a n c)) ⟨hb0 _, by go_simp, by go_simp⟩ ?_
    rintro W ⟨hB, k0, k1⟩
    refine (HI.out W hB).mono ?_
    rintro e w0 ⟨rfl, b0⟩
    replace hB := hB.next b0
    replace k0 := b0.keep k0
    replace k1 := b0.keep k1
    clear b0 HI
    go_wp2_with fail
    refine (HR.out w0 hB).mono ?_
    rintro e w1 ⟨a1, c1, rfl, o1, b1⟩
    have ho : RdR w0.heap.size w1.heap.size w1 (.slice a1 S c1) (tab S (adF xss)) := by
      have := o1.rd
      rw [← HN.out, HT.out] at this
      exact this
    have HC1 := Lib.hid (HC.out a1 c1 _ _ w1 ho)
    have HB := Lib.hid (hB.next b1)
    clear hB o1 b1 ho HC HR k0 k1
    go_wp2_with fail
    refine HC1.out.mono ?_
    rintro e w2 ⟨a2, c2, rfl, o2, b2⟩
    have HR2 := Lib.hid (HRT.out a2 c2 _ _ w2 o2.rd)
    have HB2 := Lib.hid (HB.out.next b2)
    clear o2 b2 HC1 HRT
    go_wp2_with fail
    refine HR2.out.mono ?_
    rintro e w3 ⟨rfl, b3⟩
    have HF := Lib.hid (HB2.out.next b3)
    clear b3 HR2
    go_wp2
    go_ret2
    exact ⟨rfl, HF.out⟩
  · have e1 : etOf s xss k = (0, eiCode s xss k) := by unfold etOf; rw [if_neg hc]
    rw [e1]
    generalize eiCode s xss k = cd at HI hc ⊢
    have hcb : (cd != 0) = true := by simpa using hc
    clear h hn hc e1
    go_enter Try.func42, Try.ntmps42
    go_wp2_with fail
    refine calls_gen (fun W => Below w.heap.size w W) (hb0 _) ?_
    rintro W hB
    refine (HI.out W hB).mono ?_
    rintro e w1 ⟨rfl, b1⟩
    replace hB := hB.next b1
    clear b1 HI
    go_wp2
    go_ret2
    exact ⟨rfl, hB⟩

end Go.Proofs.Ytkhfhdmhhkfehaa
