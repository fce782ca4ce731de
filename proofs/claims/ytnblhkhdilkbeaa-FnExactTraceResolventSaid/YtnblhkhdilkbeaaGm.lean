/- The model's arithmetic modulo a prime. -/
import Derived.Test.YtnblhkhdilkbeaaEvI
import Derived.Test.YtnblhkhdilkbeaaCoreB
set_option linter.unusedSimpArgs false
set_option linter.unusedVariables false
set_option maxRecDepth 100000
namespace Go.Proofs.Ytnblhkhdilkbeaa
open Go.RowKit

theorem l09Mod (p x : Int) (w : World) (hx : -1000000000000 ≤ x ∧ x ≤ 1000000000000) (hp : 1 ≤ p ∧ p ≤ 10007) :
    Calls Try.prog 102 #[.int .i64 p, .int .i64 x] w fun e w' => e = .returned (.int .i64 (x % p)) ∧ Qt w w' := by
  have hb1 := tmod_bdP (p := x) (d := p) hp.1
  have HY : Hid ((wrap64 (x.tmod p + p)).tmod p = x % p) := Lib.hid (by
    rw [← tmod_mod x p (by omega)]
    congr 1
    generalize x.tmod p = y at *
    exact IntWalk.wrap64_in _ (by omega))
  have hp0 : ¬ p = 0 := by omega
  clear hb1
  go_enter Try.func102, Try.ntmps102
  go_wp2
  go_ret
  exact ⟨by rw [← HY.out]; rfl, Qt.refl _⟩


/-- a number whose product with x is 1 -/
def invL (p x : Int) : Nat → Nat → Int
  | _, 0 => 0
  | k, d + 1 => if ((k : Int) * x) % p = 1 then (k : Int) else invL p x (k + 1) d
theorem invL_is {p x : Int} (hp : isPr p) (hx : 1 ≤ x ∧ x < p) : ∀ d k : Nat, (k : Int) + d = p → 1 ≤ k → (∀ j : Nat, 1 ≤ j → j < k → ((j : Int) * x) % p ≠ 1) → (invL p x k d * x) % p = 1 ∧ 1 ≤ invL p x k d ∧ invL p x k d < p := by
  intro d
  induction d with
  | zero =>
    intro k hk h1 hno
    exfalso
    obtain ⟨hi, _, _⟩ := invO_is hp hx
    have hle := hp.le
    have hm0 := Int.emod_nonneg (invO p x) (show p ≠ 0 by omega)
    have hm1 := Int.emod_lt_of_pos (invO p x) (show 0 < p by omega)
    have h2 : ((invO p x % p) * x) % p = 1 := by
      have c : cq p ((invO p x % p) * x) (invO p x * x) := cq_mul (cq_emod p _) (cq_refl p x)
      rw [cq_iff] at c; rw [c, hi]
    have hne : invO p x % p ≠ 0 := by intro e; rw [e] at h2; simp at h2
    refine hno (invO p x % p).toNat (by omega) (by omega) ?_
    rw [Int.toNat_of_nonneg hm0]; exact h2
  | succ d ih =>
    intro k hk h1 hno
    unfold invL
    by_cases h : ((k : Int) * x) % p = 1
    · rw [if_pos h]; exact ⟨h, by omega, by omega⟩
    · rw [if_neg h]
      refine ih (k + 1) (by omega) (by omega) (fun j hj1 hj2 => ?_)
      by_cases e : j = k
      · subst e; exact h
      · exact hno j hj1 (by omega)
def invM (p x : Int) : Int := invL p x 1 (p - 1).toNat
theorem invM_is {p x : Int} (hp : isPr p) (hx : 1 ≤ x ∧ x < p) : (invM p x * x) % p = 1 ∧ 1 ≤ invM p x ∧ invM p x < p := by
  have hle := hp.le
  exact invL_is hp hx _ 1 (by omega) (by omega) (fun j h1 h2 => by omega)

set_option maxHeartbeats 1600000 in
theorem l09Inverse (p x : Int) (w : World) (hp : isPr p) (hx : 1 ≤ x ∧ x < p) :
    Calls Try.prog 103 #[.int .i64 p, .int .i64 x] w fun e w' => e = .returned (.int .i64 (invM p x)) ∧ Qt w w' := by
  have hle := hp.le
  obtain ⟨N, rfl⟩ : ∃ N : Nat, p = (N : Int) := ⟨p.toNat, by omega⟩
  have HM := Lib.hid (fun W => l09Mod (N : Int) x W (by omega) (by omega))
  rw [Int.emod_eq_of_lt (by omega) hx.2] at HM
  have HIM := Lib.hid (show invM (N : Int) x = invL (N : Int) x 1 (N - 1) by unfold invM; congr 1; omega)
  have HX := Lib.hid (⟨hx, hle⟩ : _ ∧ _)
  clear hp hx hle
  go_enter Try.func103, Try.ntmps103
  go_wp2
  go_loopw [5] (fun v wr => ∃ k : Nat, 1 ≤ k ∧ k ≤ N ∧ v = .int .i64 k ∧ Qt w wr ∧ Hid (invM (N : Int) x = invL (N : Int) x k (N - k))) (fun v _ => N - (intOf v).toNat)
  case atStart => exact ⟨1, by omega, by have := HX.out; omega, rfl, Qt.refl _, HIM⟩
  case round =>
    clear HIM
    obtain ⟨k, hk1, hk, rfl, hq, HA⟩ := hrel
    by_cases hlt : k < N
    · have hkN : (k : Int) < (N : Int) := by omega
      have HS := Lib.hid (show invL (N : Int) x k (N - k) = if ((k : Int) * x) % (N : Int) = 1 then (k : Int) else invL (N : Int) x (k + 1) (N - (k + 1)) by
        rw [show N - k = (N - (k + 1)) + 1 by omega]; rfl)
      have hHX := HX.out
      obtain ⟨z, hz⟩ : ∃ z, z = (k : Int) * x := ⟨_, rfl⟩
      have hzb : 0 ≤ z ∧ z ≤ 10201 := by
        rw [hz]
        refine ⟨Int.mul_nonneg (by omega) (by omega), ?_⟩
        have := Int.mul_le_mul (show (k : Int) ≤ 101 by omega) (show x ≤ 101 by omega) (by omega) (by decide)
        simpa using this
      rw [← hz] at HS
      have m1 : IntKind.i64.wrap ((k : Int) * x) = z := by rw [← hz]; exact IntWalk.i64_in _ (by clear hz; omega)
      have m2 : wrap64 ((k : Int) * x) = z := by rw [← hz]; exact IntWalk.wrap64_in _ (by clear hz m1; omega)
      have hr := Int.tmod_eq_emod_of_nonneg (a := z) (b := (N : Int)) hzb.1
      have hr0 := Int.emod_nonneg z (show (N : Int) ≠ 0 by omega)
      have hr1 := Int.emod_lt_of_pos z (show 0 < (N : Int) by omega)
      have hN0 : ((N : Int) == 0) = false := by simp; omega
      have hN1 : ¬ (N : Int) = 0 := by omega
      generalize hzr : z % (N : Int) = r at HS hr hr0 hr1
      have m3 : IntKind.i64.wrap (Int.tmod z (N : Int)) = r := by rw [hr]; exact IntWalk.i64_in _ (by clear hz m1 m2 hzr hr; omega)
      have m4 : wrap64 (Int.tmod z (N : Int)) = r := by rw [hr]; exact IntWalk.wrap64_in _ (by clear hz m1 m2 m3 hzr hr; omega)
      have hk101 : k ≤ 100 := by clear m1 m2 m3 m4 hz hzr hr; omega
      have HQ := Lib.hid hq
      clear hq hz hzb hHX
      go_wp2_with fail
      refine (HM.out wr).mono ?_
      rintro e w2 ⟨rfl, q2⟩
      have HQ2 := Lib.hid (HQ.out.trans q2)
      clear q2
      by_cases h1 : r = 1
      · have hb : (r == 1) = true := by simp [h1]
        have HF := Lib.hid (show invM (N : Int) x = (k : Int) by rw [HA.out, HS.out, if_pos h1])
        clear h1 HS HA
        go_wp2
        go_ret
        exact ⟨by rw [HF.out]; rfl, HQ2.out⟩
      · have hb : (r == 1) = false := by simpa using h1
        have HF := Lib.hid (show invM (N : Int) x = invL (N : Int) x (k + 1) (N - (k + 1)) by rw [HA.out, HS.out, if_neg h1])
        clear h1 HS HA
        go_wp2
        clear m1 m2 m3 m4 hr hzr
        go_roundw
        case rel => exact ⟨k+1, by omega, by omega, by go_num, HQ2.out, HF⟩
        case measure => simp [intOf]; omega
    · obtain rfl : k = N := by omega
      have HF := Lib.hid (show invM (k : Int) x = 0 by rw [HA.out, Nat.sub_self]; rfl)
      clear HA
      go_wp2
      go_ret
      exact ⟨by rw [HF.out]; rfl, hq⟩
end Go.Proofs.Ytnblhkhdilkbeaa
