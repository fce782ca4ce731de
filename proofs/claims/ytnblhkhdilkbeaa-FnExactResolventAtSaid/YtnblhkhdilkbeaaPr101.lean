/- Primes of at most 101, by the program and by the model. -/
import Derived.Test.YtnblhkhdilkbeaaPrimeB
set_option linter.unusedSimpArgs false
set_option linter.unusedVariables false
set_option maxRecDepth 100000
namespace Go.Proofs.Ytnblhkhdilkbeaa
open Go.RowKit

def pr101 (p : Int) : Bool := decide (2 ≤ p) && decide (p ≤ 101) && noDivB p
theorem pr101_is {p : Int} (h : pr101 p = true) : primeB p = true ∧ p ≤ 101 := by
  simp only [pr101, primeB, Bool.and_eq_true, decide_eq_true_eq] at h ⊢
  exact ⟨⟨⟨h.1.1, by omega⟩, h.2⟩, h.1.2⟩

set_option maxHeartbeats 1600000 in
theorem l09Prime (p : Int) (w : World) : Calls Try.prog 100 #[.int .i64 p] w fun e w' => e = .returned (.bool (pr101 p)) ∧ Qt w w' := by
  obtain ⟨v, hv⟩ : ∃ v, v = pr101 p := ⟨_, rfl⟩
  rw [← hv]
  go_enter Try.func100, Try.ntmps100
  go_wp2_with fail
  refine (l01In p 2 101 w).mono ?_
  rintro e w1 ⟨rfl, hq⟩
  by_cases hp : 2 ≤ p ∧ p ≤ 101
  case neg =>
    have hb : (decide (2 ≤ p) && decide (p ≤ 101)) = false := by simp; omega
    have hv2 : v = false := by rw [hv]; unfold pr101; rw [hb]; rfl
    rw [hb]
    clear hv hb
    subst hv2
    go_wp2
    go_ret
    exact ⟨rfl, hq⟩
  have hb : (decide (2 ≤ p) && decide (p ≤ 101)) = true := by simp; omega
  have HV : Hid (v = noDivB p) := Lib.hid (by rw [hv]; unfold pr101; rw [hb]; rfl)
  rw [hb]
  clear hv hb
  go_wp2
  go_loopw [3] (fun i wr => ∃ k : Nat, k ≤ 99 ∧ i = .int .i64 ((k : Int) + 2) ∧ Hid (∀ j, j < k → ¬ Int.tmod p ((j : Int) + 2) = 0) ∧ Qt w wr) (fun i _ => 101 - (intOf i).toNat)
  case atStart => exact ⟨0, by omega, rfl, Lib.hid (fun j hj => by omega), hq⟩
  case round =>
    obtain ⟨k, hk, rfl, HD, hqr⟩ := hrel
    obtain ⟨d, hd⟩ : ∃ d, d = (k : Int) + 2 := ⟨_, rfl⟩
    obtain ⟨sq, hsq⟩ : ∃ sq, sq = d * d := ⟨_, rfl⟩
    have hsqb : 0 ≤ sq ∧ sq ≤ 10201 := by
      have h1 := Int.mul_le_mul (show d ≤ 101 by omega) (show d ≤ 101 by omega) (by omega) (by decide)
      rw [hsq]
      exact ⟨Int.mul_nonneg (by omega) (by omega), by simpa using h1⟩
    have HSQ : Hid (sq = ((k : Int) + 2) * ((k : Int) + 2)) := Lib.hid (by rw [hsq, hd])
    have s1 : IntKind.i64.wrap (d * d) = sq := by rw [← hsq]; exact IntWalk.i64_in _ (by clear hsq; omega)
    have s2 : wrap64 (d * d) = sq := by rw [← hsq]; exact IntWalk.wrap64_in _ (by clear hsq s1; omega)
    rw [← hd]
    have hd0 : ¬ d = 0 := by clear s1 s2 hsq; omega
    have HDE := Lib.hid hd
    have hdb : 2 ≤ d ∧ d ≤ 101 := by clear s1 s2 hsq; omega
    clear hd hsq
    by_cases hle : sq ≤ p
    · obtain ⟨r, hr⟩ : ∃ r, r = Int.tmod p d := ⟨_, rfl⟩
      have hrb := tmod_bdP (p := p) (d := d) (by clear s1 s2 hr; omega)
      rw [← hr] at hrb
      have m1 : IntKind.i64.wrap (Int.tmod p d) = r := by rw [← hr]; exact IntWalk.i64_in _ (by clear hr s1 s2; omega)
      have m2 : wrap64 (Int.tmod p d) = r := by rw [← hr]; exact IntWalk.wrap64_in _ (by clear hr s1 s2 m1; omega)
      have hre : p % d = r := by rw [hr, Int.tmod_eq_emod_of_nonneg (by clear hr m1 m2 s1 s2; omega)]
      have HRE := Lib.hid hr
      clear hr
      by_cases hz : r = 0
      · have HB : Hid (v = false) := Lib.hid (by rw [HV.out]; exact noDivB_no (k := k) (by clear m1 m2 s1 s2; omega) (by rw [← HSQ.out]; exact hle) (by rw [← HDE.out, ← HRE.out, hz]))
        have hnz : (r == 0) = true := by simpa using hz
        clear hz
        go_wp2
        go_ret
        exact ⟨by rw [HB.out]; rfl, hqr⟩
      · have hk2 : Hid (k + 1 ≤ 99) := Lib.hid (by
          clear m1 m2 s1 s2
          by_cases e : k ≤ 98
          · omega
          · have := HSQ.out
            have h99 : k = 99 := by omega
            subst h99
            simp at this
            omega)
        have hall : Hid (∀ j, j < k + 1 → ¬ Int.tmod p ((j : Int) + 2) = 0) := Lib.hid (fun j hj => by
          by_cases e : j < k
          · exact HD.out j e
          · obtain rfl : j = k := by omega
            rw [← HDE.out, ← HRE.out]; exact hz)
        have i1 : IntKind.i64.wrap (d + 1) = d + 1 := IntWalk.i64_in _ (by clear m1 m2 s1 s2; omega)
        have i2 : wrap64 (d + 1) = d + 1 := IntWalk.wrap64_in _ (by clear m1 m2 s1 s2 i1; omega)
        have hnz : (r == 0) = false := by simpa using hz
        go_wp2
        go_roundw
        case rel => exact ⟨k+1, hk2.out, by rw [HDE.out]; congr 1, hall, hqr⟩
        case measure =>
          have h1 := HDE.out
          have h2 := hk2.out
          clear m1 m2 s1 s2 i1 i2 hre
          simp [intOf]; omega
    · have HB : Hid (v = true) := Lib.hid (by rw [HV.out]; exact noDivB_yes (k := k) (by rw [← HSQ.out]; exact hle) HD.out)
      go_wp2
      go_ret
      exact ⟨by rw [HB.out]; rfl, hqr⟩

set_option maxHeartbeats 1600000 in
theorem isPrimeUpTo101 (p : Int) (w : World) : Calls Try.prog 104 #[.int .i64 p, .int .i64 101] w fun e w' => e = .returned (.bool (pr101 p)) ∧ Qt w w' := by
  obtain ⟨v, hv⟩ : ∃ v, v = pr101 p := ⟨_, rfl⟩
  rw [← hv]
  go_enter Try.func104, Try.ntmps104
  have hq := Qt.refl w
  by_cases hp : 2 ≤ p ∧ p ≤ 101
  case neg =>
    have hb : (decide (2 ≤ p) && decide (p ≤ 101)) = false := by simp; omega
    have hv2 : v = false := by rw [hv]; unfold pr101; rw [hb]; rfl
    clear hv hb
    subst hv2
    by_cases h2 : 2 ≤ p
    · have h3 : ¬ p ≤ 101 := by omega
      go_wp2
      go_ret
      exact ⟨rfl, hq⟩
    · go_wp2
      go_ret
      exact ⟨rfl, hq⟩
  have hb : (decide (2 ≤ p) && decide (p ≤ 101)) = true := by simp; omega
  have HV : Hid (v = noDivB p) := Lib.hid (by rw [hv]; unfold pr101; rw [hb]; rfl)
  clear hv hb
  obtain ⟨hp1, hp2⟩ := hp
  go_wp2
  go_loopw [5] (fun i wr => ∃ k : Nat, k ≤ 99 ∧ i = .int .i64 ((k : Int) + 2) ∧ Hid (∀ j, j < k → ¬ Int.tmod p ((j : Int) + 2) = 0) ∧ Qt w wr) (fun i _ => 101 - (intOf i).toNat)
  case atStart => exact ⟨0, by omega, rfl, Lib.hid (fun j hj => by omega), hq⟩
  case round =>
    obtain ⟨k, hk, rfl, HD, hqr⟩ := hrel
    obtain ⟨d, hd⟩ : ∃ d, d = (k : Int) + 2 := ⟨_, rfl⟩
    obtain ⟨sq, hsq⟩ : ∃ sq, sq = d * d := ⟨_, rfl⟩
    have hsqb : 0 ≤ sq ∧ sq ≤ 10201 := by
      have h1 := Int.mul_le_mul (show d ≤ 101 by omega) (show d ≤ 101 by omega) (by omega) (by decide)
      rw [hsq]
      exact ⟨Int.mul_nonneg (by omega) (by omega), by simpa using h1⟩
    have HSQ : Hid (sq = ((k : Int) + 2) * ((k : Int) + 2)) := Lib.hid (by rw [hsq, hd])
    have s1 : IntKind.i64.wrap (d * d) = sq := by rw [← hsq]; exact IntWalk.i64_in _ (by clear hsq; omega)
    have s2 : wrap64 (d * d) = sq := by rw [← hsq]; exact IntWalk.wrap64_in _ (by clear hsq s1; omega)
    rw [← hd]
    have hd0 : ¬ d = 0 := by clear s1 s2 hsq; omega
    have HDE := Lib.hid hd
    have hdb : 2 ≤ d ∧ d ≤ 101 := by clear s1 s2 hsq; omega
    clear hd hsq
    by_cases hle : sq ≤ p
    · obtain ⟨r, hr⟩ : ∃ r, r = Int.tmod p d := ⟨_, rfl⟩
      have hrb := tmod_bdP (p := p) (d := d) (by clear s1 s2 hr; omega)
      rw [← hr] at hrb
      have m1 : IntKind.i64.wrap (Int.tmod p d) = r := by rw [← hr]; exact IntWalk.i64_in _ (by clear hr s1 s2; omega)
      have m2 : wrap64 (Int.tmod p d) = r := by rw [← hr]; exact IntWalk.wrap64_in _ (by clear hr s1 s2 m1; omega)
      have hre : p % d = r := by rw [hr, Int.tmod_eq_emod_of_nonneg (by clear hr m1 m2 s1 s2; omega)]
      have HRE := Lib.hid hr
      clear hr
      by_cases hz : r = 0
      · have HB : Hid (v = false) := Lib.hid (by rw [HV.out]; exact noDivB_no (k := k) (by clear m1 m2 s1 s2; omega) (by rw [← HSQ.out]; exact hle) (by rw [← HDE.out, ← HRE.out, hz]))
        have hnz : (r == 0) = true := by simpa using hz
        clear hz
        go_wp2
        go_ret
        exact ⟨by rw [HB.out]; rfl, hqr⟩
      · have hk2 : Hid (k + 1 ≤ 99) := Lib.hid (by
          clear m1 m2 s1 s2
          by_cases e : k ≤ 98
          · omega
          · have := HSQ.out
            have h99 : k = 99 := by omega
            subst h99
            simp at this
            omega)
        have hall : Hid (∀ j, j < k + 1 → ¬ Int.tmod p ((j : Int) + 2) = 0) := Lib.hid (fun j hj => by
          by_cases e : j < k
          · exact HD.out j e
          · obtain rfl : j = k := by omega
            rw [← HDE.out, ← HRE.out]; exact hz)
        have i1 : IntKind.i64.wrap (d + 1) = d + 1 := IntWalk.i64_in _ (by clear m1 m2 s1 s2; omega)
        have i2 : wrap64 (d + 1) = d + 1 := IntWalk.wrap64_in _ (by clear m1 m2 s1 s2 i1; omega)
        have hnz : (r == 0) = false := by simpa using hz
        go_wp2
        go_roundw
        case rel => exact ⟨k+1, hk2.out, by rw [HDE.out]; congr 1, hall, hqr⟩
        case measure =>
          have h1 := HDE.out
          have h2 := hk2.out
          clear m1 m2 s1 s2 i1 i2 hre
          simp [intOf]; omega
    · have HB : Hid (v = true) := Lib.hid (by rw [HV.out]; exact noDivB_yes (k := k) (by rw [← HSQ.out]; exact hle) HD.out)
      go_wp2
      go_ret
      exact ⟨by rw [HB.out]; rfl, hqr⟩

end Go.Proofs.Ytnblhkhdilkbeaa
