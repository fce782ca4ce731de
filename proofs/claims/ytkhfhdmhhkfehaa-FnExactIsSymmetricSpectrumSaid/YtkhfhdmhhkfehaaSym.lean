/- IsSymmetricSpectrum, both sides. -/
import Derived.Test.YtkhfhdmhhkfehaaCha
set_option linter.unusedSimpArgs false
set_option linter.unusedVariables false
set_option maxRecDepth 100000
namespace Go.Proofs.Ytkhfhdmhhkfehaa
open Go.RowKit

/-- every other number from the last but one down is 0 -/
def symG (xs : List Int) : Nat → Bool
  | 0 => true
  | 1 => true
  | m + 2 => if xs.getD m 0 = 0 then symG xs m else false
def symOf (s : Int) (xss : List (List Int)) : Bool × Int := if grB s xss = true then (symG (chL (adF xss) s.toNat) (s.toNat + 1), 0) else (false, 1)
theorem symOf_no {s : Int} {xss : List (List Int)} (h : grB s xss = false) : symOf s xss = (false, 1) := by unfold symOf; rw [h]; rfl
theorem symOf_yes {S : Nat} {xss : List (List Int)} (h : grB (S : Int) xss = true) : symOf (S : Int) xss = (symG (chL (adF xss) S) (S + 1), 0) := by unfold symOf; rw [if_pos h, Int.toNat_natCast]

set_option maxHeartbeats 3200000 in
theorem implSym {lo hi : Nat} (s : Int) (a : Option Addr) (n c : Nat) (xss : List (List Int)) (w : World) (h : RdR lo hi w (.slice a n c) xss) (hn : xss.length = n) :
    Calls Try.prog 39 #[.agg #[.int .i64 s, .slice a n c]] w fun e w' => e = .returned (.tuple #[.bool (symOf s xss).1, .int .i64 (symOf s xss).2]) ∧ Below w.heap.size w w' := by
  have hb0 : ∀ o, Below w.heap.size w (w.alloc o) := fun o => (Below.refl _ _).alloc (Nat.le_refl _) o
  obtain ⟨P, hP⟩ : ∃ P, P = symOf s xss := ⟨_, rfl⟩
  rw [← hP]
  cases hg : grB s xss with
  | true =>
    have hg4 := grB_iff hg
    obtain ⟨S, hS⟩ : ∃ S : Nat, s = (S : Int) := ⟨s.toNat, by omega⟩
    subst hS
    have HC := Lib.hid (fun W (hB : Below w.heap.size w W) => implCha (S : Int) a n c xss W (h.below hB) hn)
    rw [chaOf_yes hg] at HC
    have HLN := Lib.hid (chL_len (adF xss) S)
    have HS8 := Lib.hid (show 1 ≤ S ∧ S ≤ 8 by omega)
    have HFT := Lib.hid (adF_fits hg)
    rw [symOf_yes hg] at hP
    have HP := Lib.hid hP
    clear hP
    clear h hn hg hg4
    go_enter Try.func39, Try.ntmps39
    go_wp2_with fail
    refine calls_gen (fun W => Below w.heap.size w W ∧ w.heap.size < W.heap.size ∧ W.cell? ⟨w.heap.size, 0, none⟩ = some (.int .i64 (S : Int)) ∧ W.cell? ⟨w.heap.size, 1, none⟩ = some (.slice a n c)) ⟨hb0 _, by simp, by go_simp, by go_simp⟩ ?_
    rintro W ⟨hB, hzW, k0, k1⟩
    refine (HC.out W hB).mono ?_
    rintro e w2 ⟨a2, c2, rfl, o2, b2⟩
    rw [HLN.out] at o2 ⊢
    have HF := Lib.hid (⟨OwI.mono o2 hB.size (Nat.le_refl _), hB.next b2⟩ : OwI w.heap.size w2.heap.size w2 (.slice a2 (S + 1) c2) (chL (adF xss) S) ∧ Below w.heap.size w w2)
    replace k0 := b2.keep k0
    replace k1 := b2.keep k1
    have HK := Lib.hid (⟨k0, k1⟩ : _ ∧ _)
    clear o2 b2 HC hB hzW k0 k1
    have HL := Lib.hid HF.out.1.rd
    generalize chL (adF xss) S = xs at HF HL HLN HP
    obtain ⟨M, hM⟩ : ∃ M, M = S + 1 := ⟨_, rfl⟩
    rw [← hM] at HF HL HLN HP ⊢
    have hM9 : M ≤ 9 ∧ 2 ≤ M := by have := HS8.out; omega
    have s0 : IntKind.i64.wrap ((M : Int) - 2) = (M : Int) - 2 := IntWalk.i64_in _ (by omega)
    have s0' : wrap64 ((M : Int) - 2) = (M : Int) - 2 := IntWalk.wrap64_in _ (by clear s0; omega)
    clear hM
    go_wp2
    go_loopw [6] (fun v wr => ∃ m : Nat, m ≤ M ∧ v = .int .i64 ((m : Int) - 2) ∧ Qt w2 wr ∧ Hid (symG xs M = symG xs m)) (fun v _ => (intOf v + 2).toNat)
    case atStart => exact ⟨M, Nat.le_refl _, rfl, Qt.refl _, Lib.hid rfl⟩
    case round =>
      obtain ⟨m, hm, rfl, hq, HG⟩ := hrel
      clear s0 s0'
      by_cases h2 : 2 ≤ m
      · obtain ⟨j, rfl⟩ : ∃ j, m = j + 2 := ⟨m - 2, by omega⟩
        have hj : ((j + 2 : Nat) : Int) - 2 = (j : Int) := by omega
        rw [hj]
        obtain ⟨b, off, rfl, g1⟩ := HL.out.at HLN.out j (by omega)
        replace g1 := hq.cell g1
        have hst : symG xs (j + 2) = if xs.getD j 0 = 0 then symG xs j else false := rfl
        obtain ⟨x, hx⟩ : ∃ x, x = xs.getD j 0 := ⟨_, rfl⟩
        rw [← hx] at g1 hst
        have HST := Lib.hid hst
        have hge : decide ((0 : Int) ≤ (j : Int)) = true := decide_eq_true (by omega)
        have hjM : (j : Int) < (M : Int) := by omega
        have s1 : IntKind.i64.wrap ((j : Int) - 2) = (j : Int) - 2 := IntWalk.i64_in _ (by omega)
        have s1' : wrap64 ((j : Int) - 2) = (j : Int) - 2 := IntWalk.wrap64_in _ (by clear s1; omega)
        clear hst hx hj
        by_cases hz : x = 0
        · have hxb : (x != 0) = false := by simpa using hz
          have HNX : Hid (symG xs M = symG xs j) := Lib.hid (by rw [HG.out, HST.out, if_pos hz])
          clear hz
          go_wp2
          go_roundw
          case rel => exact ⟨j, by clear s1 s1'; omega, rfl, hq, HNX⟩
          case measure => clear s1 s1'; simp [intOf]; omega
        · have hxb : (x != 0) = true := by simpa using hz
          have HNX : Hid (P = (false, 0) ∧ Below w.heap.size w wr) := Lib.hid ⟨by rw [HP.out, HG.out, HST.out, if_neg hz], HF.out.2.qt hq⟩
          clear hz
          go_wp2
          go_ret2
          exact ⟨by rw [HNX.out.1]; rfl, HNX.out.2⟩
      · have hge : decide ((0 : Int) ≤ (m : Int) - 2) = false := decide_eq_false (by omega)
        have HNX : Hid (P = (true, 0) ∧ Below w.heap.size w wr) := Lib.hid ⟨by
          rw [HP.out, HG.out]
          match m, h2 with
          | 0, _ => rfl
          | 1, _ => rfl
          | m + 2, h => omega, HF.out.2.qt hq⟩
        go_wp2
        go_ret2
        exact ⟨by rw [HNX.out.1]; rfl, HNX.out.2⟩
  | false =>
    have HC := Lib.hid (fun W (hB : Below w.heap.size w W) => implCha s a n c xss W (h.below hB) hn)
    rw [chaOf_no hg] at HC
    rw [symOf_no hg] at hP
    subst hP
    clear h hn hg
    go_enter Try.func39, Try.ntmps39
    go_wp2_with fail
    refine calls_gen (fun W => Below w.heap.size w W) (hb0 _) ?_
    rintro W hB
    refine (HC.out W hB).mono ?_
    rintro e w1 ⟨a1, c1, rfl, o1, b1⟩
    replace hB := hB.next b1
    clear o1 b1 HC
    go_wp2
    go_ret2
    exact ⟨rfl, hB⟩

set_option maxHeartbeats 3200000 in
theorem specSym {lo hi : Nat} (s : Int) (a : Option Addr) (n c : Nat) (xss : List (List Int)) (w : World) (h : RdR lo hi w (.slice a n c) xss) (hn : xss.length = n) :
    Calls Try.prog 38 #[.agg #[.int .i64 s, .slice a n c]] w fun e w' => e = .returned (.tuple #[.bool (symOf s xss).1, .int .i64 (symOf s xss).2]) ∧ Below w.heap.size w w' := by
  have hb0 : ∀ o, Below w.heap.size w (w.alloc o) := fun o => (Below.refl _ _).alloc (Nat.le_refl _) o
  have HI := Lib.hid (fun W (hB : Below w.heap.size w W) => l01Is s a n c xss W (h.below hB) hn)
  obtain ⟨P, hP⟩ : ∃ P, P = symOf s xss := ⟨_, rfl⟩
  rw [← hP]
  cases hg : grB s xss with
  | true =>
    rw [hg] at HI
    have hg4 := grB_iff hg
    obtain ⟨S, hS⟩ : ∃ S : Nat, s = (S : Int) := ⟨s.toNat, by omega⟩
    subst hS
    have HR := Lib.hid (fun W (hB : Below w.heap.size w W) => l01Adjacency S a n c xss W (h.below hB) hn hg)
    have HC := Lib.hid (fun (a1 : Option Addr) (c1 lo1 hi1 : Nat) (W : World) (hW : RdR lo1 hi1 W (.slice a1 S c1) (tab S (adF xss))) => l07Of S (adF xss) a1 c1 W hW (by omega) (adF_fits hg))
    have HN := Lib.hid hn
    have HT := Lib.hid (adZ_tab hg S)
    have HLN := Lib.hid (chL_len (adF xss) S)
    have HS8 := Lib.hid (show 1 ≤ S ∧ S ≤ 8 by omega)
    have HFT := Lib.hid (adF_fits hg)
    rw [symOf_yes hg] at hP
    have HP := Lib.hid hP
    clear hP
    clear h hn hg hg4
    go_enter Try.func38, Try.ntmps38
    go_wp2_with fail
    refine calls_gen (fun W => Below w.heap.size w W ∧ W.cell? ⟨w.heap.size, 0, none⟩ = some (.int .i64 (S : Int)) ∧ W.cell? ⟨w.heap.size, 1, none⟩ = some (.slice a n c)) ⟨hb0 _, by go_simp, by go_simp⟩ ?_
    rintro W ⟨hB, k0, k1⟩
    refine (HI.out W hB).mono ?_
    rintro e w0 ⟨rfl, b0⟩
    replace hB := hB.next b0
    replace k0 := b0.keep k0
    replace k1 := b0.keep k1
    clear b0 HI
    go_wp2_with fail
    refine (HR.out w0 hB).mono ?_
    rintro e w1 ⟨a1, c1, rfl, o1, b1⟩
    have ho : RdR w0.heap.size w1.heap.size w1 (.slice a1 S c1) (tab S (adF xss)) := by
      have := o1.rd
      rw [← HN.out, HT.out] at this
      exact this
    have HC1 := Lib.hid (HC.out a1 c1 _ _ w1 ho)
    have HB := Lib.hid (hB.next b1)
    replace k0 := b1.keep k0
    replace k1 := b1.keep k1
    clear hB o1 b1 ho HC HR
    go_wp2_with fail
    refine HC1.out.mono ?_
    rintro e w2 ⟨a2, c2, rfl, o2, b2⟩
    have HF := Lib.hid (⟨OwI.mono o2 HB.out.size (Nat.le_refl _), HB.out.next b2⟩ : OwI w.heap.size w2.heap.size w2 (.slice a2 (S + 1) c2) (chL (adF xss) S) ∧ Below w.heap.size w w2)
    replace k0 := b2.keep k0
    replace k1 := b2.keep k1
    have HK := Lib.hid (⟨k0, k1⟩ : _ ∧ _)
    clear o2 b2 HC1 k0 k1
    have HL := Lib.hid HF.out.1.rd
    generalize chL (adF xss) S = xs at HF HL HLN HP
    obtain ⟨M, hM⟩ : ∃ M, M = S + 1 := ⟨_, rfl⟩
    rw [← hM] at HF HL HLN HP ⊢
    have hM9 : M ≤ 9 ∧ 2 ≤ M := by have := HS8.out; omega
    have s0 : IntKind.i64.wrap ((M : Int) - 2) = (M : Int) - 2 := IntWalk.i64_in _ (by omega)
    have s0' : wrap64 ((M : Int) - 2) = (M : Int) - 2 := IntWalk.wrap64_in _ (by clear s0; omega)
    clear hM
    go_wp2
    go_loopw [5] (fun v wr => ∃ m : Nat, m ≤ M ∧ v = .int .i64 ((m : Int) - 2) ∧ Qt w2 wr ∧ Hid (symG xs M = symG xs m)) (fun v _ => (intOf v + 2).toNat)
    case atStart => exact ⟨M, Nat.le_refl _, rfl, Qt.refl _, Lib.hid rfl⟩
    case round =>
      obtain ⟨m, hm, rfl, hq, HG⟩ := hrel
      clear s0 s0'
      by_cases h2 : 2 ≤ m
      · obtain ⟨j, rfl⟩ : ∃ j, m = j + 2 := ⟨m - 2, by omega⟩
        have hj : ((j + 2 : Nat) : Int) - 2 = (j : Int) := by omega
        rw [hj]
        obtain ⟨b, off, rfl, g1⟩ := HL.out.at HLN.out j (by omega)
        replace g1 := hq.cell g1
        have hst : symG xs (j + 2) = if xs.getD j 0 = 0 then symG xs j else false := rfl
        obtain ⟨x, hx⟩ : ∃ x, x = xs.getD j 0 := ⟨_, rfl⟩
        rw [← hx] at g1 hst
        have HST := Lib.hid hst
        have hge : decide ((0 : Int) ≤ (j : Int)) = true := decide_eq_true (by omega)
        have hjM : (j : Int) < (M : Int) := by omega
        have s1 : IntKind.i64.wrap ((j : Int) - 2) = (j : Int) - 2 := IntWalk.i64_in _ (by omega)
        have s1' : wrap64 ((j : Int) - 2) = (j : Int) - 2 := IntWalk.wrap64_in _ (by clear s1; omega)
        clear hst hx hj
        by_cases hz : x = 0
        · have hxb : (x != 0) = false := by simpa using hz
          have HNX : Hid (symG xs M = symG xs j) := Lib.hid (by rw [HG.out, HST.out, if_pos hz])
          clear hz
          go_wp2
          go_roundw
          case rel => exact ⟨j, by clear s1 s1'; omega, rfl, hq, HNX⟩
          case measure => clear s1 s1'; simp [intOf]; omega
        · have hxb : (x != 0) = true := by simpa using hz
          have HNX : Hid (P = (false, 0) ∧ Below w.heap.size w wr) := Lib.hid ⟨by rw [HP.out, HG.out, HST.out, if_neg hz], HF.out.2.qt hq⟩
          clear hz
          go_wp2
          go_ret2
          exact ⟨by rw [HNX.out.1]; rfl, HNX.out.2⟩
      · have hge : decide ((0 : Int) ≤ (m : Int) - 2) = false := decide_eq_false (by omega)
        have HNX : Hid (P = (true, 0) ∧ Below w.heap.size w wr) := Lib.hid ⟨by
          rw [HP.out, HG.out]
          match m, h2 with
          | 0, _ => rfl
          | 1, _ => rfl
          | m + 2, h => omega, HF.out.2.qt hq⟩
        go_wp2
        go_ret2
        exact ⟨by rw [HNX.out.1]; rfl, HNX.out.2⟩
  | false =>
    rw [hg] at HI
    rw [symOf_no hg] at hP
    subst hP
    clear h hn hg
    go_enter Try.func38, Try.ntmps38
    go_wp2_with fail
    refine calls_gen (fun W => Below w.heap.size w W) (hb0 _) ?_
    rintro W hB
    refine (HI.out W hB).mono ?_
    rintro e w1 ⟨rfl, b1⟩
    replace hB := hB.next b1
    clear b1 HI
    go_wp2
    go_ret2
    exact ⟨rfl, hB⟩

end Go.Proofs.Ytkhfhdmhhkfehaa
