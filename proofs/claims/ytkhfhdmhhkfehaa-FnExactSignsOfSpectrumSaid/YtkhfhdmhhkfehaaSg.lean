/- SignsOfSpectrum, both sides. -/
import Derived.Test.YtkhfhdmhhkfehaaEig
set_option linter.unusedSimpArgs false
set_option linter.unusedVariables false
set_option maxRecDepth 100000
namespace Go.Proofs.Ytkhfhdmhhkfehaa
open Go.RowKit

def sgL (A Z s : Int) : List Int := [A, Z, s - A - Z]
def sgOf (s : Int) (xss : List (List Int)) : List Int × Int := if grB s xss = true then (sgL (eaR s xss 0) (etR s xss 0) s, 0) else ([], 1)
theorem sgOf_no {s : Int} {xss : List (List Int)} (h : grB s xss = false) : sgOf s xss = ([], 1) := by unfold sgOf; rw [h]; rfl
theorem sgOf_yes {s : Int} {xss : List (List Int)} (h : grB s xss = true) : sgOf s xss = (sgL (eaR s xss 0) (etR s xss 0) s, 0) := by unfold sgOf; rw [if_pos h]
theorem own3 (w : World) (A Z D : Int) (hA : I64 A) (hZ : I64 Z) (hD : I64 D) : OwI w.heap.size (w.alloc (.cells #[.int .i64 A, .int .i64 Z, .int .i64 D] 2)).heap.size (w.alloc (.cells #[.int .i64 A, .int .i64 Z, .int .i64 D] 2)) (.slice (some ⟨w.heap.size, 0, none⟩) 3 3) [A, Z, D] := by
  have hl := World.ownsRow_lit (base := w.heap.size) (e := 2) (size := 1) w #[.int .i64 A, .int .i64 Z, .int .i64 D] 3 (Nat.le_refl _) (by unfold maxLen; omega) rfl
  exact OwI.mk hl (by omega) (fun x hx => by
    simp only [List.mem_cons, List.not_mem_nil, or_false] at hx
    rcases hx with rfl | rfl | rfl
    · exact hA
    · exact hZ
    · exact hD)

set_option maxHeartbeats 3200000 in
theorem implSg {lo hi : Nat} (s : Int) (a : Option Addr) (n c : Nat) (xss : List (List Int)) (w : World) (h : RdR lo hi w (.slice a n c) xss) (hn : xss.length = n) :
    Calls Try.prog 37 #[.agg #[.int .i64 s, .slice a n c]] w fun e w' => ∃ a' c', e = .returned (.tuple #[.slice a' (sgOf s xss).1.length c', .int .i64 (sgOf s xss).2]) ∧ OwI w.heap.size w'.heap.size w' (.slice a' (sgOf s xss).1.length c') (sgOf s xss).1 ∧ Below w.heap.size w w' := by
  have hb0 : ∀ o, Below w.heap.size w (w.alloc o) := fun o => (Below.refl _ _).alloc (Nat.le_refl _) o
  obtain ⟨P, hP⟩ : ∃ P, P = sgOf s xss := ⟨_, rfl⟩
  rw [← hP]
  cases hg : grB s xss with
  | true =>
    have hg4 := grB_iff hg
    obtain ⟨S, hS⟩ : ∃ S : Nat, s = (S : Int) := ⟨s.toNat, by omega⟩
    subst hS
    have HC := Lib.hid (fun W (hB : Below w.heap.size w W) => implCha (S : Int) a n c xss W (h.below hB) hn)
    rw [chaOf_yes hg] at HC
    have HLN := Lib.hid (chL_len (adF xss) S)
    have HS8 := Lib.hid (show 1 ≤ S ∧ S ≤ 8 by omega)
    have HFT := Lib.hid (adF_fits hg)
    rw [sgOf_yes hg] at hP
    have HP := Lib.hid hP
    clear hP
    clear h hn hg hg4
    go_enter Try.func37, Try.ntmps37
    go_wp2_with fail
    refine calls_gen (fun W => Below w.heap.size w W ∧ w.heap.size < W.heap.size ∧ W.cell? ⟨w.heap.size, 0, none⟩ = some (.int .i64 (S : Int)) ∧ W.cell? ⟨w.heap.size, 1, none⟩ = some (.slice a n c)) ⟨hb0 _, by simp, by go_simp, by go_simp⟩ ?_
    rintro W ⟨hB, hzW, k0, k1⟩
    refine (HC.out W hB).mono ?_
    rintro e w2 ⟨a2, c2, rfl, o2, b2⟩
    rw [HLN.out] at o2 ⊢
    have HF := Lib.hid (⟨OwI.mono o2 hB.size (Nat.le_refl _), hB.next b2⟩ : OwI w.heap.size w2.heap.size w2 (.slice a2 (S + 1) c2) (chL (adF xss) S) ∧ Below w.heap.size w w2)
    replace k0 := b2.keep k0
    replace k1 := b2.keep k1
    have HK := Lib.hid (⟨k0, k1⟩ : _ ∧ _)
    clear o2 b2 HC hB hzW k0 k1
    have HRA := Lib.hid (fun (a1 : Option Addr) (cap1 lo1 hi1 : Nat) (W : World) (hW : RdI lo1 hi1 W (.slice a1 (S + 1) cap1) (chL (adF xss) S)) => rootsAbove (S + 1) cap1 a1 (chL (adF xss) S) 0 W hW (chL_len _ _) (by have := HS8.out; omega))
    have HRT := Lib.hid (fun (a1 : Option Addr) (cap1 lo1 hi1 : Nat) (W : World) (hW : RdI lo1 hi1 W (.slice a1 (S + 1) cap1) (chL (adF xss) S)) => rootsAt (S + 1) cap1 (atN (adF xss) S 0) a1 (chL (adF xss) S) 0 W hW (chL_len _ _) (by have := HS8.out; omega) (atN_spec HFT.out 0).1 (atN_spec HFT.out 0).2.1 (atN_spec HFT.out 0).2.2)
    have hbA := chK_bd (rk (chL (adF xss) S) 0 (S + 1)) (S + 1)
    have hbZ := (atN_spec HFT.out 0).1
    have hP := HP.out
    have eA : eaR (S : Int) xss 0 = (chK (rk (chL (adF xss) S) 0 (S + 1)) (S + 1)).1 := by unfold eaR; rw [Int.toNat_natCast]
    have eZ : etR (S : Int) xss 0 = (atN (adF xss) S 0 : Int) := by unfold etR; rw [Int.toNat_natCast]
    rw [eA, eZ] at hP
    generalize (chK (rk (chL (adF xss) S) 0 (S + 1)) (S + 1)).1 = A at HRA hbA hP
    obtain ⟨Z, hZ⟩ : ∃ Z : Int, Z = (atN (adF xss) S 0 : Int) := ⟨_, rfl⟩
    rw [← hZ] at HRT hP
    have hZ0 : 0 ≤ Z ∧ Z ≤ 9 := by have := HS8.out; omega
    have hA0 : 0 ≤ A ∧ A ≤ 9 := by have := HS8.out; omega
    have HPP := Lib.hid hP
    have hS8 := HS8.out
    have m1 : IntKind.i64.wrap ((S : Int) - A) = (S : Int) - A := IntWalk.i64_in _ (by omega)
    have m2 : wrap64 ((S : Int) - A) = (S : Int) - A := IntWalk.wrap64_in _ (by clear m1; omega)
    have m3 : IntKind.i64.wrap ((S : Int) - A - Z) = (S : Int) - A - Z := IntWalk.i64_in _ (by clear m1 m2; omega)
    have m4 : wrap64 ((S : Int) - A - Z) = (S : Int) - A - Z := IntWalk.wrap64_in _ (by clear m1 m2 m3; omega)
    have hI3 : I64 ((S : Int) - A - Z) := by clear m1 m2 m3 m4; unfold I64; omega
    have hIA : I64 A := by clear m1 m2 m3 m4; unfold I64; omega
    have hIZ : I64 Z := by clear m1 m2 m3 m4; unfold I64; omega
    have HM := Lib.hid (⟨m1, m2, m3, m4⟩ : _ ∧ _ ∧ _ ∧ _)
    have HI3 := Lib.hid (⟨hIA, hIZ, hI3⟩ : _ ∧ _ ∧ _)
    clear hP eA eZ hZ hbA hbZ m1 m2 m3 m4 hA0 hZ0 hS8 hI3 hIA hIZ
    have k0 := HK.out.1
    have k1 := HK.out.2
    go_wp2_with fail
    refine (HRA.out a2 c2 _ _ w2 HF.out.1.rd).mono ?_
    rintro e w3 ⟨rfl, b3⟩
    have HT3 := Lib.hid (HRT.out a2 c2 _ _ w3 (HF.out.1.rd.below b3))
    have HB3 := Lib.hid (HF.out.2.next b3)
    replace k0 := b3.keep k0
    replace k1 := b3.keep k1
    clear b3 HRA HRT
    go_wp2_with fail
    refine HT3.out.mono ?_
    rintro e w4 ⟨rfl, b4⟩
    have HB4 := Lib.hid (HB3.out.next b4)
    replace k0 := b4.keep k0
    replace k1 := b4.keep k1
    clear b4 HT3
    have HO3 := Lib.hid (⟨OwI.mono (own3 w4 A Z ((S : Int) - A - Z) HI3.out.1 HI3.out.2.1 HI3.out.2.2) HB4.out.size (Nat.le_refl _), HB4.out.next ((Below.refl _ _).alloc (Nat.le_refl _) _)⟩ : OwI w.heap.size _ (w4.alloc (.cells #[.int .i64 A, .int .i64 Z, .int .i64 ((S : Int) - A - Z)] 2)) (.slice (some ⟨w4.heap.size, 0, none⟩) 3 3) [A, Z, (S : Int) - A - Z] ∧ Below w.heap.size w (w4.alloc (.cells #[.int .i64 A, .int .i64 Z, .int .i64 ((S : Int) - A - Z)] 2)))
    obtain ⟨m1, m2, m3, m4⟩ := HM.out
    go_wp2
    go_ret2
    exact ⟨_, _, by rw [HPP.out]; rfl, by rw [HPP.out]; exact HO3.out.1, HO3.out.2⟩
  | false =>
    have HC := Lib.hid (fun W (hB : Below w.heap.size w W) => implCha s a n c xss W (h.below hB) hn)
    rw [chaOf_no hg] at HC
    rw [sgOf_no hg] at hP
    subst hP
    clear h hn hg
    go_enter Try.func37, Try.ntmps37
    go_wp2_with fail
    refine calls_gen (fun W => Below w.heap.size w W) (hb0 _) ?_
    rintro W hB
    refine (HC.out W hB).mono ?_
    rintro e w1 ⟨a1, c1, rfl, o1, b1⟩
    replace hB := hB.next b1
    clear o1 b1 HC
    go_wp2
    go_ret2
    exact ⟨none, 0, rfl, OwI.nil' _ _ _, hB⟩

set_option maxHeartbeats 3200000 in
theorem specSg {lo hi : Nat} (s : Int) (a : Option Addr) (n c : Nat) (xss : List (List Int)) (w : World) (h : RdR lo hi w (.slice a n c) xss) (hn : xss.length = n) :
    Calls Try.prog 36 #[.agg #[.int .i64 s, .slice a n c]] w fun e w' => ∃ a' c', e = .returned (.tuple #[.slice a' (sgOf s xss).1.length c', .int .i64 (sgOf s xss).2]) ∧ OwI w.heap.size w'.heap.size w' (.slice a' (sgOf s xss).1.length c') (sgOf s xss).1 ∧ Below w.heap.size w w' := by
  have hb0 : ∀ o, Below w.heap.size w (w.alloc o) := fun o => (Below.refl _ _).alloc (Nat.le_refl _) o
  have HI := Lib.hid (fun W (hB : Below w.heap.size w W) => l01Is s a n c xss W (h.below hB) hn)
  obtain ⟨P, hP⟩ : ∃ P, P = sgOf s xss := ⟨_, rfl⟩
  rw [← hP]
  cases hg : grB s xss with
  | true =>
    rw [hg] at HI
    have hg4 := grB_iff hg
    obtain ⟨S, hS⟩ : ∃ S : Nat, s = (S : Int) := ⟨s.toNat, by omega⟩
    subst hS
    have HR := Lib.hid (fun W (hB : Below w.heap.size w W) => l01Adjacency S a n c xss W (h.below hB) hn hg)
    have HC := Lib.hid (fun (a1 : Option Addr) (c1 lo1 hi1 : Nat) (W : World) (hW : RdR lo1 hi1 W (.slice a1 S c1) (tab S (adF xss))) => l07Of S (adF xss) a1 c1 W hW (by omega) (adF_fits hg))
    have HN := Lib.hid hn
    have HT := Lib.hid (adZ_tab hg S)
    have HLN := Lib.hid (chL_len (adF xss) S)
    have HS8 := Lib.hid (show 1 ≤ S ∧ S ≤ 8 by omega)
    have HFT := Lib.hid (adF_fits hg)
    rw [sgOf_yes hg] at hP
    have HP := Lib.hid hP
    clear hP
    clear h hn hg hg4
    go_enter Try.func36, Try.ntmps36
    go_wp2_with fail
    refine calls_gen (fun W => Below w.heap.size w W ∧ W.cell? ⟨w.heap.size, 0, none⟩ = some (.int .i64 (S : Int)) ∧ W.cell? ⟨w.heap.size, 1, none⟩ = some (.slice a n c)) ⟨hb0 _, by go_simp, by go_simp⟩ ?_
    rintro W ⟨hB, k0, k1⟩
    refine (HI.out W hB).mono ?_
    rintro e w0 ⟨rfl, b0⟩
    replace hB := hB.next b0
    replace k0 := b0.keep k0
    replace k1 := b0.keep k1
    clear b0 HI
    go_wp2_with fail
    refine (HR.out w0 hB).mono ?_
    rintro e w1 ⟨a1, c1, rfl, o1, b1⟩
    have ho : RdR w0.heap.size w1.heap.size w1 (.slice a1 S c1) (tab S (adF xss)) := by
      have := o1.rd
      rw [← HN.out, HT.out] at this
      exact this
    have HC1 := Lib.hid (HC.out a1 c1 _ _ w1 ho)
    have HB := Lib.hid (hB.next b1)
    replace k0 := b1.keep k0
    replace k1 := b1.keep k1
    clear hB o1 b1 ho HC HR
    go_wp2_with fail
    refine HC1.out.mono ?_
    rintro e w2 ⟨a2, c2, rfl, o2, b2⟩
    have HF := Lib.hid (⟨OwI.mono o2 HB.out.size (Nat.le_refl _), HB.out.next b2⟩ : OwI w.heap.size w2.heap.size w2 (.slice a2 (S + 1) c2) (chL (adF xss) S) ∧ Below w.heap.size w w2)
    replace k0 := b2.keep k0
    replace k1 := b2.keep k1
    have HK := Lib.hid (⟨k0, k1⟩ : _ ∧ _)
    clear o2 b2 HC1 k0 k1
    have HRA := Lib.hid (fun (a1 : Option Addr) (cap1 lo1 hi1 : Nat) (W : World) (hW : RdI lo1 hi1 W (.slice a1 (S + 1) cap1) (chL (adF xss) S)) => l07Above (S + 1) cap1 a1 (chL (adF xss) S) 0 W hW (chL_len _ _) (by have := HS8.out; omega) I64_zero)
    have HRT := Lib.hid (fun (a1 : Option Addr) (cap1 lo1 hi1 : Nat) (W : World) (hW : RdI lo1 hi1 W (.slice a1 (S + 1) cap1) (chL (adF xss) S)) => l07At (S + 1) cap1 (atN (adF xss) S 0) a1 (chL (adF xss) S) 0 W hW (chL_len _ _) (by have := HS8.out; omega) I64_zero (atN_spec HFT.out 0).1 (atN_spec HFT.out 0).2.1 (atN_spec HFT.out 0).2.2)
    have hbA := chK_bd (rk (chL (adF xss) S) 0 (S + 1)) (S + 1)
    have hbZ := (atN_spec HFT.out 0).1
    have hP := HP.out
    have eA : eaR (S : Int) xss 0 = (chK (rk (chL (adF xss) S) 0 (S + 1)) (S + 1)).1 := by unfold eaR; rw [Int.toNat_natCast]
    have eZ : etR (S : Int) xss 0 = (atN (adF xss) S 0 : Int) := by unfold etR; rw [Int.toNat_natCast]
    rw [eA, eZ] at hP
    generalize (chK (rk (chL (adF xss) S) 0 (S + 1)) (S + 1)).1 = A at HRA hbA hP
    obtain ⟨Z, hZ⟩ : ∃ Z : Int, Z = (atN (adF xss) S 0 : Int) := ⟨_, rfl⟩
    rw [← hZ] at HRT hP
    have hZ0 : 0 ≤ Z ∧ Z ≤ 9 := by have := HS8.out; omega
    have hA0 : 0 ≤ A ∧ A ≤ 9 := by have := HS8.out; omega
    have HPP := Lib.hid hP
    have hS8 := HS8.out
    have m1 : IntKind.i64.wrap ((S : Int) - A) = (S : Int) - A := IntWalk.i64_in _ (by omega)
    have m2 : wrap64 ((S : Int) - A) = (S : Int) - A := IntWalk.wrap64_in _ (by clear m1; omega)
    have m3 : IntKind.i64.wrap ((S : Int) - A - Z) = (S : Int) - A - Z := IntWalk.i64_in _ (by clear m1 m2; omega)
    have m4 : wrap64 ((S : Int) - A - Z) = (S : Int) - A - Z := IntWalk.wrap64_in _ (by clear m1 m2 m3; omega)
    have hI3 : I64 ((S : Int) - A - Z) := by clear m1 m2 m3 m4; unfold I64; omega
    have hIA : I64 A := by clear m1 m2 m3 m4; unfold I64; omega
    have hIZ : I64 Z := by clear m1 m2 m3 m4; unfold I64; omega
    have HM := Lib.hid (⟨m1, m2, m3, m4⟩ : _ ∧ _ ∧ _ ∧ _)
    have HI3 := Lib.hid (⟨hIA, hIZ, hI3⟩ : _ ∧ _ ∧ _)
    clear hP eA eZ hZ hbA hbZ m1 m2 m3 m4 hA0 hZ0 hS8 hI3 hIA hIZ
    have k0 := HK.out.1
    have k1 := HK.out.2
    go_wp2_with fail
    refine (HRA.out a2 c2 _ _ w2 HF.out.1.rd).mono ?_
    rintro e w3 ⟨rfl, b3⟩
    have HT3 := Lib.hid (HRT.out a2 c2 _ _ w3 (HF.out.1.rd.below b3))
    have HB3 := Lib.hid (HF.out.2.next b3)
    replace k0 := b3.keep k0
    replace k1 := b3.keep k1
    clear b3 HRA HRT
    go_wp2_with fail
    refine HT3.out.mono ?_
    rintro e w4 ⟨rfl, b4⟩
    have HB4 := Lib.hid (HB3.out.next b4)
    replace k0 := b4.keep k0
    replace k1 := b4.keep k1
    clear b4 HT3
    have HO3 := Lib.hid (⟨OwI.mono (own3 w4 A Z ((S : Int) - A - Z) HI3.out.1 HI3.out.2.1 HI3.out.2.2) HB4.out.size (Nat.le_refl _), HB4.out.next ((Below.refl _ _).alloc (Nat.le_refl _) _)⟩ : OwI w.heap.size _ (w4.alloc (.cells #[.int .i64 A, .int .i64 Z, .int .i64 ((S : Int) - A - Z)] 2)) (.slice (some ⟨w4.heap.size, 0, none⟩) 3 3) [A, Z, (S : Int) - A - Z] ∧ Below w.heap.size w (w4.alloc (.cells #[.int .i64 A, .int .i64 Z, .int .i64 ((S : Int) - A - Z)] 2)))
    obtain ⟨m1, m2, m3, m4⟩ := HM.out
    go_wp2
    go_ret2
    exact ⟨_, _, by rw [HPP.out]; rfl, by rw [HPP.out]; exact HO3.out.1, HO3.out.2⟩
  | false =>
    rw [hg] at HI
    rw [sgOf_no hg] at hP
    subst hP
    clear h hn hg
    go_enter Try.func36, Try.ntmps36
    go_wp2_with fail
    refine calls_gen (fun W => Below w.heap.size w W) (hb0 _) ?_
    rintro W hB
    refine (HI.out W hB).mono ?_
    rintro e w1 ⟨rfl, b1⟩
    replace hB := hB.next b1
    clear b1 HI
    go_wp2
    go_ret2
    exact ⟨none, 0, rfl, OwI.nil' _ _ _, hB⟩

end Go.Proofs.Ytkhfhdmhhkfehaa
