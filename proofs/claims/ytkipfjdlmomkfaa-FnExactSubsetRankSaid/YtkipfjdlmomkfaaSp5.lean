/- Subsets by digits: sizes and codes of the model. -/
import Derived.Test.YtkipfjdlmomkfaaBits
set_option linter.unusedSimpArgs false
set_option linter.unusedVariables false
set_option maxRecDepth 100000
namespace Go.Proofs.Ytkipfjdlmomkfaa
open Go.RowKit

theorem pop_zero : ∀ f, popN f 0 = 0
  | 0 => rfl
  | f + 1 => by simp [popN, pop_zero f]
set_option maxHeartbeats 1600000 in
theorem l05Size (C : Nat) (hC : C < 1024) (w : World) :
    Calls Try.prog 98 #[.int .i64 (C : Int)] w fun e w' => e = .returned (.int .i64 (popN 10 C : Int)) ∧ Qt w w' := by
  obtain ⟨T, hT⟩ : ∃ T, T = popN 10 C := ⟨_, rfl⟩
  rw [← hT]
  have HT := Lib.hid (show 0 + popN 10 C = T by omega)
  clear hT
  go_enter Try.func98, Try.ntmps98
  go_wp2
  go_loopw [0, 3] (fun cv nv wr => ∃ (c k f : Nat), cv = .int .i64 c ∧ nv = .int .i64 k ∧ Hid (k + popN f c = T) ∧ c < 2 ^ f ∧ f ≤ 10 ∧ k + f ≤ 10 ∧ c < 1024 ∧ Qt w wr) (fun cv _ _ => (intOf cv).toNat)
  case atStart => exact ⟨C, 0, 10, rfl, rfl, HT, hC, Nat.le_refl _, by omega, hC, Qt.refl _⟩
  case round =>
    obtain ⟨c, k, f, rfl, rfl, HK, hc, hf, hkf, hcb, hq⟩ := hrel
    by_cases h0 : c = 0
    · subst h0
      have hk := HK.out
      rw [pop_zero, Nat.add_zero] at hk
      have HKT := Lib.hid hk
      clear hk
      go_wp2
      go_ret
      exact ⟨by rw [← HKT.out]; rfl, hq⟩
    · have hf0 : f ≠ 0 := by rintro rfl; simp at hc; exact h0 hc
      obtain ⟨f', rfl⟩ : ∃ f', f = f' + 1 := ⟨f - 1, by omega⟩
      have hk := HK.out
      rw [popN] at hk
      rw [Nat.pow_succ] at hc
      obtain ⟨r, hr⟩ : ∃ r, r = c % 2 := ⟨_, rfl⟩
      obtain ⟨d, hd⟩ : ∃ d, d = c / 2 := ⟨_, rfl⟩
      rw [← hr, ← hd] at hk
      have HN := Lib.hid (⟨by omega, by omega, by omega, by omega, by omega, by omega⟩ : (k + r) + popN f' d = T ∧ d < 2 ^ f' ∧ f' ≤ 10 ∧ (k + r) + f' ≤ 10 ∧ d < c ∧ d < 1024)
      have hr1 : r ≤ 1 := by omega
      have hk10 : k ≤ 10 := by omega
      have hc0 : (0 : Int) < (c : Int) := by omega
      have hdb : d < 1024 := by omega
      clear hk h0 HK hkf hf hc
      have q1 : ((c : Nat) : Int).tmod 2 = (r : Int) := by rw [Int.tmod_eq_emod_of_nonneg (by omega)]; omega
      have q2 : ((c : Nat) : Int).tdiv 2 = (d : Int) := by clear q1; rw [Int.tdiv_eq_ediv_of_nonneg (by omega)]; omega
      have q3 : wrap64 (d : Int) = (d : Int) := by clear q1 q2 hr hd; exact IntWalk.wrap64_in _ (by omega)
      clear hd hr
      go_wp2
      go_roundw
      case rel => exact ⟨d, k + r, f', rfl, by go_num, Lib.hid HN.out.1, HN.out.2.1, HN.out.2.2.1, HN.out.2.2.2.1, HN.out.2.2.2.2.2, hq⟩
      case measure => have := HN.out.2.2.2.2.1; simp [intOf]; omega

end Go.Proofs.Ytkipfjdlmomkfaa
