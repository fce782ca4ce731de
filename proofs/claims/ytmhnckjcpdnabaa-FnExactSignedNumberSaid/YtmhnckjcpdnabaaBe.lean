/- The determinant by the program, whole numbers. -/
import Derived.Test.YtmhnckjcpdnabaaBaI
import Derived.Deep.RegionHeld3
import Derived.Laws.EntriesVeiled
set_option linter.unusedSimpArgs false
set_option linter.unusedVariables false
set_option maxRecDepth 100000
namespace Go.Proofs.Ytmhnckjcpdnabaa
open Go.RowKit

def stE (Z : Nat) : Nat → Nat → Option Value := fun b o => if b = Z then (if o = 0 then some (.func (.func 111) #[] #[]) else if o = 1 then some (.func (.func 112) #[] #[]) else if o = 2 then some (.func (.func 113) #[] #[]) else none) else none

theorem idxS0 (w : World) : (Instr.index 128 (.agg #[.func (.func 111) #[] #[], .func (.func 112) #[] #[], .func (.func 113) #[] #[]]) (.int .i64 0)).run Try.prog w = .ok (.func (.func 111) #[] #[]) w := by kernel_rfl
theorem idxS1 (w : World) : (Instr.index 128 (.agg #[.func (.func 111) #[] #[], .func (.func 112) #[] #[], .func (.func 113) #[] #[]]) (.int .i64 1)).run Try.prog w = .ok (.func (.func 112) #[] #[]) w := by kernel_rfl
theorem idxS2 (w : World) : (Instr.index 128 (.agg #[.func (.func 111) #[] #[], .func (.func 112) #[] #[], .func (.func 113) #[] #[]]) (.int .i64 2)).run Try.prog w = .ok (.func (.func 113) #[] #[]) w := by kernel_rfl
theorem neg_w (x : Int) : (-x) % (0 : Int) = -x := by simp

set_option maxHeartbeats 3200000 in
theorem detW {L H N : Nat} (h0 : 0 < N) (hN : N ≤ 20) (a : Option Addr) (c : Nat) (f0 : Nat → Nat → Int) (w : World) (h : OwR L H w (.slice a N c) (tab N f0)) (hL : L ≤ w.heap.size)
    (P : (Nat → Nat → Int) → Prop) (HH : BaH 0 P N) (hP : P f0) :
    Calls Try.prog 69 #[.iface 78 (.agg #[]), .slice a N c] w fun e w' => e = .returned (.int .i64 (dt (tp f0 N) (List.range N))) ∧ Below L w w' := by
  obtain ⟨g, rb, cp, rfl, hcap, hg, hgw, b1, b2, b3, b4, b5⟩ := h.blocks h0
  have hf0 : ∀ i j, i < N → j < N → f0 i j % 0 = f0 i j := fun i j _ _ => by simp
  have hlim : ∀ i j, i < N → j < N → -1073741824 ≤ f0 i j ∧ f0 i j ≤ 1073741824 := fun i j hi hj => by
    have := HH.bd f0 hP 0 i j (Nat.zero_le _) hi hj
    rw [mn_0, hf0 i j hi hj] at this
    exact this
  have HI0 := Lib.hid (ba_start hP hf0 hlim)
  have HBH := Lib.hid HH
  have hnum : (.iface 78 (.agg #[]) : Value) = .iface 78 (.agg #[]) := rfl
  have hen : ∀ (b o : Nat) (v : Value), stE (w.heap.size + 1) b o = some v → b ≠ g ∧ b ≠ w.heap.size ∧ ∀ i, i < N → b ≠ rb i := by
    intro b o v he
    unfold stE at he
    by_cases e1 : b = w.heap.size + 1
    · subst e1
      exact ⟨by omega, by omega, fun i hi => by have := (b5 i hi).2.2.1; omega⟩
    · rw [if_neg e1] at he; cases he
  have hex : ∀ W : World, W.cell? ⟨w.heap.size + 1, 0, none⟩ = some (.func (.func 111) #[] #[]) → W.cell? ⟨w.heap.size + 1, 1, none⟩ = some (.func (.func 112) #[] #[]) → W.cell? ⟨w.heap.size + 1, 2, none⟩ = some (.func (.func 113) #[] #[]) →
      ∀ (b o : Nat) (v : Value), stE (w.heap.size + 1) b o = some v → W.cell? ⟨b, o, none⟩ = some v := by
    intro W z0 z1 z2 b o v he
    unfold stE at he
    by_cases e1 : b = w.heap.size + 1
    · subst e1
      rw [if_pos rfl] at he
      by_cases e2 : o = 0
      · subst e2; rw [if_pos rfl] at he; cases he; exact z0
      · rw [if_neg e2] at he
        by_cases e3 : o = 1
        · subst e3; rw [if_pos rfl] at he; cases he; exact z1
        · rw [if_neg e3] at he
          by_cases e4 : o = 2
          · subst e4; rw [if_pos rfl] at he; cases he; exact z2
          · rw [if_neg e4] at he; cases he
    · rw [if_neg e1] at he; cases he
  have HE := Lib.hid (fun (W : World) (hW : Below w.heap.size w W) (k0 : W.cell? ⟨w.heap.size, 0, none⟩ = some (.iface 78 (.agg #[]))) (k1 : W.cell? ⟨w.heap.size, 1, none⟩ = some (.slice (some ⟨g, 0, none⟩) N c)) (k2 : W.cell? ⟨w.heap.size, 2, none⟩ = some (.int .i64 1)) (kf : W.frozen? ⟨w.heap.size, 2, none⟩ = false)
      (z0 : W.cell? ⟨w.heap.size + 1, 0, none⟩ = some (.func (.func 111) #[] #[])) (z1 : W.cell? ⟨w.heap.size + 1, 1, none⟩ = some (.func (.func 112) #[] #[])) (z2 : W.cell? ⟨w.heap.size + 1, 2, none⟩ = some (.func (.func 113) #[] #[])) =>
      (show EL L w (stE (w.heap.size + 1)) w.heap.size (.iface 78 (.agg #[])) g N c rb cp f0 1 W from
        ⟨k0, k1, k2, kf, fun i hi => hW.keep (b1 i hi), fun i hi => hW.keepf hgw (b2 i hi), fun i j hi hj => hW.keep (b3 i j hi hj).1, fun i j hi hj => hW.keepf (b5 i hi).2.2.1 (b3 i j hi hj).2, b4, by omega, fun i hi => ⟨(b5 i hi).1, by have := (b5 i hi).2.2.1; omega, (b5 i hi).2.1, (b5 i hi).2.2.2⟩, hL, hg, hW.mono hL, hex W z0 z1 z2, hen⟩))
  clear hP HH hf0 hlim hex hen b1 b2 b3 b4 b5 h hg hgw hL
  go_enter Try.func69, Try.ntmps69
  go_wp2
  have hA1 := (Below.refl w.heap.size w).alloc (Nat.le_refl _) (.cells #[.iface 78 (.agg #[]), .slice (some ⟨g, 0, none⟩) N c, .int .i64 1] 124)
  have hA2 := hA1.alloc hA1.size (.cells #[.func (.func 111) #[] #[], .func (.func 112) #[] #[], .func (.func 113) #[] #[]] 128)
  have HP0 := Lib.hid (HE.out _ hA2 (by go_simp) (by go_simp) (by go_simp) (by go_simp) (by go_simp) (by go_simp) (by go_simp))
  generalize ((w.alloc (.cells #[.iface 78 (.agg #[]), .slice (some ⟨g, 0, none⟩) N c, .int .i64 1] 124)).alloc (.cells #[.func (.func 111) #[] #[], .func (.func 112) #[] #[], .func (.func 113) #[] #[]] 128)) = V at HP0 ⊢
  clear hA1 hA2 HE
  obtain ⟨X, hX⟩ : ∃ X, X = w.heap.size := ⟨_, rfl⟩
  rw [← hX] at HP0 ⊢
  clear hX
  go_loopw [16] (fun i wr => ∃ (k : Nat) (rb cp : Nat → Nat) (F R : Nat → Nat → Int), k ≤ N ∧ i = .int .i64 k ∧ Hid (BaI 0 P f0 N k F R) ∧ EL L w (stE (X + 1)) X (.iface 78 (.agg #[])) g N c rb cp F (pv R k % 0) wr) (fun i _ => N - (intOf i).toNat)
  case atStart => exact ⟨0, rb, cp, f0, f0, Nat.zero_le _, rfl, HI0, by rw [pv_0]; exact HP0.out⟩
  case round =>
    clear HP0 HI0
    obtain ⟨k, rb, cp, F, R, hk, rfl, HI, hE⟩ := hrel
    by_cases hlt : k < N
    · have hltI : (k : Int) < (N : Int) := by omega
      have HEL := Lib.hid hE
      have HB := Lib.hid (bringW wr hE (by omega) k hlt hcap (fun x => (-x) % 0) HI.out.lim (fun i j hi hj W => by
        have := wRed (-(F i j)) W
        rw [show (-(F i j)) % (0 : Int) = -(F i j) from neg_w _]; exact this))
      have z0 := hE.ex (X + 1) 0 _ (by unfold stE; rw [if_pos rfl, if_pos rfl])
      have z1 := hE.ex (X + 1) 1 _ (by unfold stE; rw [if_pos rfl, if_neg (by decide), if_pos rfl])
      have z2 := hE.ex (X + 1) 2 _ (by unfold stE; rw [if_pos rfl, if_neg (by decide), if_neg (by decide), if_pos rfl])
      clear hE
      have i0 := idxS0
      have i1 := idxS1
      have i2 := idxS2
      go_wp2
      clear z0 z1 z2
      refine wp_loop_rounds 4 ?_
      rw [rounds_succ]
      go_wp2_with fail
      refine HB.out.mono ?_
      rintro e w2 ⟨rfl, rb1, cp1, F1, hE1, hc⟩
      obtain ⟨R1, hI1, hz1, hpv⟩ := ba_bring HBH.out HI.out hlt hc
      rw [← hpv] at hE1
      have HI1 := Lib.hid hI1
      have HZ1 := Lib.hid hz1
      have HE1 := Lib.hid hE1
      clear hI1 hz1 hE1 hc hpv HB HEL HI
      go_wp2
      rw [rounds_succ]
      go_wp2_with fail
      refine (clearW w2 HE1.out (by omega) k hlt hcap (baQ 0 F1 R1 k) HI1.out.lim (fun i j hki hi hj W => by
        obtain ⟨hq1, hq2, hq3, _⟩ := ba_quo HBH.out HI1.out hlt HZ1.out i j hki hi hj
        have hq4 := Int.zero_dvd.1 hq1
        exact wQuo _ _ _ W (by
          intro e0
          rw [Int.emod_zero] at e0
          have hr := HI1.out.rg
          rw [e0] at hr
          have := hr 1 (by simp)
          have := Int.zero_dvd.1 this
          omega) (by rw [Int.emod_zero]; omega) (by unfold I64; omega))).mono ?_
      rintro e w3 ⟨rfl, hE3⟩
      have HE3 := Lib.hid hE3
      clear hE3 HE1
      go_wp2
      rw [rounds_succ]
      go_wp2_with fail
      refine (goOnE w3 HE3.out k hlt).mono ?_
      rintro e w4 ⟨rfl, hE4⟩
      rw [cleB_top] at hE4
      have HE4 := Lib.hid hE4
      clear hE4 HE3 w3
      go_wp2
      rw [rounds_succ]
      by_cases hz : F1 k k = 0
      · have hzz : dt (tp f0 N) (List.range N) = 0 := by
          have := ba_zero HI1.out hlt (by
            rcases HZ1.out with h1 | h1
            · exact absurd hz h1
            · exact h1)
          rw [Int.emod_zero] at this
          exact this
        have HZZ := Lib.hid hzz
        have x2 := HE4.out.n2
        have HF := Lib.hid HE4.out.below
        rw [hz] at x2
        clear hz hzz HE4 HI1 HZ1
        go_wp2
        go_ret
        exact ⟨by rw [HZZ.out]; rfl, HF.out⟩
      · obtain ⟨hI2, hp2, _⟩ := ba_next HBH.out HI1.out hlt hz
        have x2 := HE4.out.n2
        have hE5 := HE4.out
        rw [hp2] at hE5
        have HI2 := Lib.hid hI2
        have HE5 := Lib.hid hE5
        have hb : (F1 k k == 0) = false := by simpa using hz
        generalize F1 k k = x at hz x2 hb
        clear hI2 hp2 hE5 HE4 HI1 HZ1 hz
        go_wp2
        go_roundw
        case rel => exact ⟨k+1, rb1, cp1, _, R1, by omega, by go_num, HI2, HE5.out⟩
        case measure => simp [intOf]; omega
    · obtain rfl : k = N := by omega
      have x2 := hE.n2
      have HF := Lib.hid hE.below
      have HQ := Lib.hid (show pv R k % 0 = dt (tp f0 k) (List.range k) by rw [Int.emod_zero]; exact ba_end HI.out)
      generalize pv R k % 0 = x at x2 HQ
      clear hE
      go_wp2
      go_ret
      exact ⟨by rw [← HQ.out]; rfl, HF.out⟩
end Go.Proofs.Ytmhnckjcpdnabaa
