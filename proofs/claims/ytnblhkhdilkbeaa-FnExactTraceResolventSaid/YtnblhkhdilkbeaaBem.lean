/- The determinant by the program, modulo a prime. -/
import Derived.Test.YtnblhkhdilkbeaaBe
import Derived.Test.YtnblhkhdilkbeaaBdm
import Derived.Deep.RegionHeld3
import Derived.Laws.EntriesVeiled
set_option linter.unusedSimpArgs false
set_option linter.unusedVariables false
set_option maxRecDepth 100000
namespace Go.Proofs.Ytnblhkhdilkbeaa
open Go.RowKit

theorem prod100 {x y : Int} (h1 : 0 ≤ x ∧ x ≤ 100) (h2 : 0 ≤ y ∧ y ≤ 100) : 0 ≤ x * y ∧ x * y ≤ 10000 := by
  refine ⟨Int.mul_nonneg h1.1 h2.1, ?_⟩
  have := Int.mul_le_mul h1.2 h2.2 h2.1 (show (0 : Int) ≤ 100 by decide)
  simpa using this
set_option maxHeartbeats 3200000 in
theorem detMd (md : Int) (hmd : 2 ≤ md ∧ md ≤ 101) {L H N : Nat} (h0 : 0 < N) (hN : N ≤ 20) (a : Option Addr) (c : Nat) (f0 : Nat → Nat → Int) (w : World) (h : OwR L H w (.slice a N c) (tab N f0)) (hL : L ≤ w.heap.size)
    (P : (Nat → Nat → Int) → Prop) (HH : BaH md P N) (hP : P f0) (hf0 : ∀ i j, i < N → j < N → f0 i j % md = f0 i j)
    (HQ : ∀ (n d x : Int) (W : World), 1 ≤ d → d < md → -20000 ≤ n → n ≤ 20000 → cq md n (d * x) → x % md = x → Calls Try.prog 66 #[.int .i64 md, .int .i64 n, .int .i64 d] W fun e w' => e = .returned (.int .i64 x) ∧ Below W.heap.size W w')
    (HRD : ∀ (n : Int) (W : World), -20000 ≤ n → n ≤ 20000 → Calls Try.prog 107 #[.int .i64 md, .int .i64 n] W fun e w' => e = .returned (.int .i64 (n % md)) ∧ Below W.heap.size W w') :
    Calls Try.prog 105 #[.iface 74 (.int .i64 md), .slice a N c] w fun e w' => e = .returned (.int .i64 (dt (tp f0 N) (List.range N) % md)) ∧ Below L w w' := by
  obtain ⟨g, rb, cp, rfl, hcap, hg, hgw, b1, b2, b3, b4, b5⟩ := h.blocks h0
  have hlim : ∀ i j, i < N → j < N → -1073741824 ≤ f0 i j ∧ f0 i j ≤ 1073741824 := fun i j hi hj => by
    have := HH.bd f0 hP 0 i j (Nat.zero_le _) hi hj
    rw [mn_0, hf0 i j hi hj] at this
    exact this
  have HI0 := Lib.hid (ba_start hP hf0 hlim)
  have HBH := Lib.hid HH
  have hnum : (.iface 74 (.int .i64 md) : Value) = .iface 74 (.int .i64 md) := rfl
  have hen : ∀ (b o : Nat) (v : Value), stE (w.heap.size + 1) b o = some v → b ≠ g ∧ b ≠ w.heap.size ∧ ∀ i, i < N → b ≠ rb i := by
    intro b o v he
    unfold stE at he
    by_cases e1 : b = w.heap.size + 1
    · subst e1
      exact ⟨by omega, by omega, fun i hi => by have := (b5 i hi).2.2.1; omega⟩
    · rw [if_neg e1] at he; cases he
  have hex : ∀ W : World, W.cell? ⟨w.heap.size + 1, 0, none⟩ = some (.func (.func 133) #[] #[]) → W.cell? ⟨w.heap.size + 1, 1, none⟩ = some (.func (.func 134) #[] #[]) → W.cell? ⟨w.heap.size + 1, 2, none⟩ = some (.func (.func 135) #[] #[]) →
      ∀ (b o : Nat) (v : Value), stE (w.heap.size + 1) b o = some v → W.cell? ⟨b, o, none⟩ = some v := by
    intro W z0 z1 z2 b o v he
    unfold stE at he
    by_cases e1 : b = w.heap.size + 1
    · subst e1
      rw [if_pos rfl] at he
      by_cases e2 : o = 0
      · subst e2; rw [if_pos rfl] at he; cases he; exact z0
      · rw [if_neg e2] at he
        by_cases e3 : o = 1
        · subst e3; rw [if_pos rfl] at he; cases he; exact z1
        · rw [if_neg e3] at he
          by_cases e4 : o = 2
          · subst e4; rw [if_pos rfl] at he; cases he; exact z2
          · rw [if_neg e4] at he; cases he
    · rw [if_neg e1] at he; cases he
  have HE := Lib.hid (fun (W : World) (hW : Below w.heap.size w W) (k0 : W.cell? ⟨w.heap.size, 0, none⟩ = some (.iface 74 (.int .i64 md))) (k1 : W.cell? ⟨w.heap.size, 1, none⟩ = some (.slice (some ⟨g, 0, none⟩) N c)) (k2 : W.cell? ⟨w.heap.size, 2, none⟩ = some (.int .i64 1)) (kf : W.frozen? ⟨w.heap.size, 2, none⟩ = false)
      (z0 : W.cell? ⟨w.heap.size + 1, 0, none⟩ = some (.func (.func 133) #[] #[])) (z1 : W.cell? ⟨w.heap.size + 1, 1, none⟩ = some (.func (.func 134) #[] #[])) (z2 : W.cell? ⟨w.heap.size + 1, 2, none⟩ = some (.func (.func 135) #[] #[])) =>
      (show EL L w (stE (w.heap.size + 1)) w.heap.size (.iface 74 (.int .i64 md)) g N c rb cp f0 1 W from
        ⟨k0, k1, k2, kf, fun i hi => hW.keep (b1 i hi), fun i hi => hW.keepf hgw (b2 i hi), fun i j hi hj => hW.keep (b3 i j hi hj).1, fun i j hi hj => hW.keepf (b5 i hi).2.2.1 (b3 i j hi hj).2, b4, by omega, fun i hi => ⟨(b5 i hi).1, by have := (b5 i hi).2.2.1; omega, (b5 i hi).2.1, (b5 i hi).2.2.2⟩, hL, hg, hW.mono hL, hex W z0 z1 z2, hen⟩))
  have HQH := Lib.hid HQ
  have HRH := Lib.hid HRD
  clear hP HH hf0 HQ HRD hlim hex hen b1 b2 b3 b4 b5 h hg hgw hL
  go_enter Try.func105, Try.ntmps105
  go_wp2
  have hA1 := (Below.refl w.heap.size w).alloc (Nat.le_refl _) (.cells #[.iface 74 (.int .i64 md), .slice (some ⟨g, 0, none⟩) N c, .int .i64 1] 144)
  have hA2 := hA1.alloc hA1.size (.cells #[.func (.func 133) #[] #[], .func (.func 134) #[] #[], .func (.func 135) #[] #[]] 148)
  have HP0 := Lib.hid (HE.out _ hA2 (by go_simp) (by go_simp) (by go_simp) (by go_simp) (by go_simp) (by go_simp) (by go_simp))
  generalize ((w.alloc (.cells #[.iface 74 (.int .i64 md), .slice (some ⟨g, 0, none⟩) N c, .int .i64 1] 144)).alloc (.cells #[.func (.func 133) #[] #[], .func (.func 134) #[] #[], .func (.func 135) #[] #[]] 148)) = V at HP0 ⊢
  clear hA1 hA2 HE
  obtain ⟨X, hX⟩ : ∃ X, X = w.heap.size := ⟨_, rfl⟩
  rw [← hX] at HP0 ⊢
  clear hX
  go_loopw [16] (fun i wr => ∃ (k : Nat) (rb cp : Nat → Nat) (F R : Nat → Nat → Int), k ≤ N ∧ i = .int .i64 k ∧ Hid (BaI md P f0 N k F R) ∧ EL L w (stE (X + 1)) X (.iface 74 (.int .i64 md)) g N c rb cp F (pv R k % md) wr) (fun i _ => N - (intOf i).toNat)
  case atStart => exact ⟨0, rb, cp, f0, f0, Nat.zero_le _, rfl, HI0, by rw [pv_0, Int.emod_eq_of_lt (by omega) (by omega)]; exact HP0.out⟩
  case round =>
    clear HP0 HI0
    obtain ⟨k, rb, cp, F, R, hk, rfl, HI, hE⟩ := hrel
    by_cases hlt : k < N
    · have hltI : (k : Int) < (N : Int) := by omega
      have HEL := Lib.hid hE
      have hFm : ∀ i j, k ≤ i → i < N → j < N → 0 ≤ F i j ∧ F i j < md := fun i j h1 h2 h3 => by rw [HI.out.row i j h1 h2 h3]; exact ⟨Int.emod_nonneg _ (by omega), Int.emod_lt_of_pos _ (by omega)⟩
      have HB := Lib.hid (bringM md wr hE (by omega) k hlt hcap (fun x => (-x) % md) HI.out.lim (fun i j h1 h2 h3 W => HRH.out (-(F i j)) W (by have := hFm i j h1 h2 h3; omega) (by have := hFm i j h1 h2 h3; omega)))
      clear hFm
      have z0 := hE.ex (X + 1) 0 _ (by unfold stE; rw [if_pos rfl, if_pos rfl])
      have z1 := hE.ex (X + 1) 1 _ (by unfold stE; rw [if_pos rfl, if_neg (by decide), if_pos rfl])
      have z2 := hE.ex (X + 1) 2 _ (by unfold stE; rw [if_pos rfl, if_neg (by decide), if_neg (by decide), if_pos rfl])
      clear hE
      have i0 := idxS0
      have i1 := idxS1
      have i2 := idxS2
      go_wp2
      clear z0 z1 z2
      refine wp_loop_rounds 4 ?_
      rw [rounds_succ]
      go_wp2_with fail
      refine HB.out.mono ?_
      rintro e w2 ⟨rfl, rb1, cp1, F1, hE1, hc⟩
      obtain ⟨R1, hI1, hz1, hpv⟩ := ba_bring HBH.out HI.out hlt hc
      rw [← hpv] at hE1
      have HI1 := Lib.hid hI1
      have HZ1 := Lib.hid hz1
      have HE1 := Lib.hid hE1
      clear hI1 hz1 hE1 hc hpv HB HEL HI
      go_wp2
      rw [rounds_succ]
      go_wp2_with fail
      have hFm : ∀ i j, k ≤ i → i < N → j < N → 0 ≤ F1 i j ∧ F1 i j ≤ 100 := fun i j h1 h2 h3 => by
        rw [HI1.out.row i j h1 h2 h3]
        have := Int.emod_nonneg (mn R1 k (R1 i) j) (show md ≠ 0 by omega)
        have := Int.emod_lt_of_pos (mn R1 k (R1 i) j) (show 0 < md by omega)
        omega
      have HFM := Lib.hid hFm
      clear hFm
      refine (clearM md w2 HE1.out (by omega) k hlt hcap (baQ md F1 R1 k) HI1.out.lim (fun i j hki hi hj W => by
        obtain ⟨hq1, hq2, hq3, hq5⟩ := ba_quo HBH.out HI1.out hlt HZ1.out i j hki hi hj
        have m1 := prod100 (HFM.out i j (by omega) hi hj) (HFM.out k k (Nat.le_refl _) hlt hlt)
        have m2 := prod100 (HFM.out i k (by omega) hi hlt) (HFM.out k j (Nat.le_refl _) hlt hj)
        have hd0 := Int.emod_nonneg (pv R1 k) (show md ≠ 0 by omega)
        have hd1 := Int.emod_lt_of_pos (pv R1 k) (show 0 < md by omega)
        have hd2 : pv R1 k % md ≠ 0 := by
          intro e0
          have hr := HI1.out.rg
          have := hr 1 (by rw [Int.mul_one]; exact Int.dvd_of_emod_eq_zero e0)
          have := Int.le_of_dvd (by omega) this
          omega
        exact HQH.out _ _ _ W (by omega) hd1 (by omega) (by omega) (cq_trans hq1 (cq_mul (cq_symm (cq_emod md _)) (cq_refl md _))) hq5)).mono ?_
      rintro e w3 ⟨rfl, hE3⟩
      have HE3 := Lib.hid hE3
      clear hE3 HE1
      go_wp2
      rw [rounds_succ]
      go_wp2_with fail
      refine (goOnE w3 HE3.out k hlt).mono ?_
      rintro e w4 ⟨rfl, hE4⟩
      rw [cleB_top] at hE4
      have HE4 := Lib.hid hE4
      clear hE4 HE3 w3 HFM
      go_wp2
      rw [rounds_succ]
      by_cases hz : F1 k k = 0
      · have hzz : dt (tp f0 N) (List.range N) % md = 0 := by
          have := ba_zero HI1.out hlt (by
            rcases HZ1.out with h1 | h1
            · exact absurd hz h1
            · exact h1)
          exact this
        have HZZ := Lib.hid hzz
        have x2 := HE4.out.n2
        have HF := Lib.hid HE4.out.below
        rw [hz] at x2
        clear hz hzz HE4 HI1 HZ1
        go_wp2
        go_ret
        exact ⟨by rw [HZZ.out]; rfl, HF.out⟩
      · obtain ⟨hI2, hp2, _⟩ := ba_next HBH.out HI1.out hlt hz
        have x2 := HE4.out.n2
        have hE5 := HE4.out
        rw [hp2] at hE5
        have HI2 := Lib.hid hI2
        have HE5 := Lib.hid hE5
        have hb : (F1 k k == 0) = false := by simpa using hz
        generalize F1 k k = x at hz x2 hb
        clear hI2 hp2 hE5 HE4 HI1 HZ1 hz
        go_wp2
        go_roundw
        case rel => exact ⟨k+1, rb1, cp1, _, R1, by omega, by go_num, HI2, HE5.out⟩
        case measure => simp [intOf]; omega
    · obtain rfl : k = N := by omega
      have x2 := hE.n2
      have HF := Lib.hid hE.below
      have HQ := Lib.hid (show pv R k % md = dt (tp f0 k) (List.range k) % md by rw [ba_end HI.out])
      generalize pv R k % md = x at x2 HQ
      clear hE
      go_wp2
      go_ret
      exact ⟨by rw [← HQ.out]; rfl, HF.out⟩
end Go.Proofs.Ytnblhkhdilkbeaa
