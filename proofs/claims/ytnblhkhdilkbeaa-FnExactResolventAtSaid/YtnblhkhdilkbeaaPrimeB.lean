/- Primes of at most 10007, by the program and by the model. -/
import Derived.Test.YtnblhkhdilkbeaaCoreF
set_option linter.unusedSimpArgs false
set_option linter.unusedVariables false
set_option maxRecDepth 100000
namespace Go.Proofs.Ytnblhkhdilkbeaa
open Go.RowKit

theorem tmod_bdP {p d : Int} (h : 1 ≤ d) : -d < Int.tmod p d ∧ Int.tmod p d < d := by
  have h1 := Int.tmod_lt_of_pos p (show 0 < d by omega)
  have h2 := Int.lt_tmod_of_pos p (show 0 < d by omega)
  omega
/-- none of the numbers 2 .. 100 whose square is at most p divides p -/
def noDivB (p : Int) : Bool := (List.range 99).all (fun k => !(decide (((k : Int) + 2) * ((k : Int) + 2) ≤ p) && decide (Int.tmod p ((k : Int) + 2) = 0)))
def primeB (p : Int) : Bool := decide (2 ≤ p) && decide (p ≤ 10007) && noDivB p
theorem primeB_hd {p : Int} (h : primeB p = true) : 2 ≤ p ∧ p ≤ 10007 := by
  simp only [primeB, Bool.and_eq_true, decide_eq_true_eq] at h
  exact h.1
theorem sq_le {k j : Nat} (h : k ≤ j) : ((k : Int) + 2) * ((k : Int) + 2) ≤ ((j : Int) + 2) * ((j : Int) + 2) :=
  Int.mul_le_mul (by omega) (by omega) (by omega) (by omega)
theorem noDivB_no {p : Int} {k : Nat} (hp : p ≤ 10007) (h1 : ((k : Int) + 2) * ((k : Int) + 2) ≤ p) (h2 : Int.tmod p ((k : Int) + 2) = 0) : noDivB p = false := by
  have hk : k < 99 := by
    by_cases e : k < 99
    · exact e
    · have := sq_le (show 99 ≤ k by omega)
      have h9 : ((99 : Nat) : Int) = 99 := rfl
      rw [h9] at this
      omega
  unfold noDivB
  rw [List.all_eq_false]
  exact ⟨k, List.mem_range.2 hk, by simp [h1, h2]⟩
theorem noDivB_yes {p : Int} {k : Nat} (h1 : ¬ ((k : Int) + 2) * ((k : Int) + 2) ≤ p) (h2 : ∀ j, j < k → ¬ Int.tmod p ((j : Int) + 2) = 0) : noDivB p = true := by
  unfold noDivB
  rw [List.all_eq_true]
  intro j _
  by_cases e : j < k
  · simp [h2 j e]
  · have := sq_le (show k ≤ j by omega)
    have h3 : ¬ ((j : Int) + 2) * ((j : Int) + 2) ≤ p := by omega
    simp [h3]
theorem sq_small {p : Int} {k : Nat} (hp : p ≤ 10007) (h : ¬ k ≤ 99) : ¬ ((k : Int) + 2) * ((k : Int) + 2) ≤ p := by
  have := sq_le (show 100 ≤ k by omega)
  have h9 : ((100 : Nat) : Int) = 100 := rfl
  rw [h9] at this
  omega

set_option maxHeartbeats 1600000 in
theorem isPrimeUpTo (p : Int) (w : World) : Calls Try.prog 104 #[.int .i64 p, .int .i64 10007] w fun e w' => e = .returned (.bool (primeB p)) ∧ Qt w w' := by
  obtain ⟨v, hv⟩ : ∃ v, v = primeB p := ⟨_, rfl⟩
  rw [← hv]
  go_enter Try.func104, Try.ntmps104
  have hq := Qt.refl w
  by_cases hp : 2 ≤ p ∧ p ≤ 10007
  case neg =>
    have hb : (decide (2 ≤ p) && decide (p ≤ 10007)) = false := by simp; omega
    have hv2 : v = false := by rw [hv]; unfold primeB; rw [hb]; rfl
    clear hv hb
    subst hv2
    by_cases h2 : 2 ≤ p
    · have h3 : ¬ p ≤ 10007 := by omega
      go_wp2
      go_ret
      exact ⟨rfl, hq⟩
    · go_wp2
      go_ret
      exact ⟨rfl, hq⟩
  have hb : (decide (2 ≤ p) && decide (p ≤ 10007)) = true := by simp; omega
  have HV : Hid (v = noDivB p) := Lib.hid (by rw [hv]; unfold primeB; rw [hb]; rfl)
  clear hv hb
  obtain ⟨hp1, hp2⟩ := hp
  go_wp2
  go_loopw [5] (fun i wr => ∃ k : Nat, k ≤ 99 ∧ i = .int .i64 ((k : Int) + 2) ∧ Hid (∀ j, j < k → ¬ Int.tmod p ((j : Int) + 2) = 0) ∧ Qt w wr) (fun i _ => 101 - (intOf i).toNat)
  case atStart => exact ⟨0, by omega, rfl, Lib.hid (fun j hj => by omega), hq⟩
  case round =>
    obtain ⟨k, hk, rfl, HD, hqr⟩ := hrel
    obtain ⟨d, hd⟩ : ∃ d, d = (k : Int) + 2 := ⟨_, rfl⟩
    obtain ⟨sq, hsq⟩ : ∃ sq, sq = d * d := ⟨_, rfl⟩
    have hsqb : 0 ≤ sq ∧ sq ≤ 10201 := by
      have h1 := Int.mul_le_mul (show d ≤ 101 by omega) (show d ≤ 101 by omega) (by omega) (by decide)
      rw [hsq]
      exact ⟨Int.mul_nonneg (by omega) (by omega), by simpa using h1⟩
    have HSQ : Hid (sq = ((k : Int) + 2) * ((k : Int) + 2)) := Lib.hid (by rw [hsq, hd])
    have s1 : IntKind.i64.wrap (d * d) = sq := by rw [← hsq]; exact IntWalk.i64_in _ (by clear hsq; omega)
    have s2 : wrap64 (d * d) = sq := by rw [← hsq]; exact IntWalk.wrap64_in _ (by clear hsq s1; omega)
    rw [← hd]
    have hd0 : ¬ d = 0 := by clear s1 s2 hsq; omega
    have HDE := Lib.hid hd
    have hdb : 2 ≤ d ∧ d ≤ 101 := by clear s1 s2 hsq; omega
    clear hd hsq
    by_cases hle : sq ≤ p
    · obtain ⟨r, hr⟩ : ∃ r, r = Int.tmod p d := ⟨_, rfl⟩
      have hrb := tmod_bdP (p := p) (d := d) (by clear s1 s2 hr; omega)
      rw [← hr] at hrb
      have m1 : IntKind.i64.wrap (Int.tmod p d) = r := by rw [← hr]; exact IntWalk.i64_in _ (by clear hr s1 s2; omega)
      have m2 : wrap64 (Int.tmod p d) = r := by rw [← hr]; exact IntWalk.wrap64_in _ (by clear hr s1 s2 m1; omega)
      have hre : p % d = r := by rw [hr, Int.tmod_eq_emod_of_nonneg (by clear hr m1 m2 s1 s2; omega)]
      have HRE := Lib.hid hr
      clear hr
      by_cases hz : r = 0
      · have HB : Hid (v = false) := Lib.hid (by rw [HV.out]; exact noDivB_no (k := k) (by clear m1 m2 s1 s2; omega) (by rw [← HSQ.out]; exact hle) (by rw [← HDE.out, ← HRE.out, hz]))
        have hnz : (r == 0) = true := by simpa using hz
        clear hz
        go_wp2
        go_ret
        exact ⟨by rw [HB.out]; rfl, hqr⟩
      · have hk2 : Hid (k + 1 ≤ 99) := Lib.hid (by
          clear m1 m2 s1 s2
          by_cases e : k ≤ 98
          · omega
          · have := HSQ.out
            have h99 : k = 99 := by omega
            subst h99
            simp at this
            omega)
        have hall : Hid (∀ j, j < k + 1 → ¬ Int.tmod p ((j : Int) + 2) = 0) := Lib.hid (fun j hj => by
          by_cases e : j < k
          · exact HD.out j e
          · obtain rfl : j = k := by omega
            rw [← HDE.out, ← HRE.out]; exact hz)
        have i1 : IntKind.i64.wrap (d + 1) = d + 1 := IntWalk.i64_in _ (by clear m1 m2 s1 s2; omega)
        have i2 : wrap64 (d + 1) = d + 1 := IntWalk.wrap64_in _ (by clear m1 m2 s1 s2 i1; omega)
        have hnz : (r == 0) = false := by simpa using hz
        go_wp2
        go_roundw
        case rel => exact ⟨k+1, hk2.out, by rw [HDE.out]; congr 1, hall, hqr⟩
        case measure =>
          have h1 := HDE.out
          have h2 := hk2.out
          clear m1 m2 s1 s2 i1 i2 hre
          simp [intOf]; omega
    · have HB : Hid (v = true) := Lib.hid (by rw [HV.out]; exact noDivB_yes (k := k) (by rw [← HSQ.out]; exact hle) HD.out)
      go_wp2
      go_ret
      exact ⟨by rw [HB.out]; rfl, hqr⟩

end Go.Proofs.Ytnblhkhdilkbeaa
