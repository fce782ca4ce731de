/- Elimination by the program: the search for a row, and the arithmetic of whole numbers. -/
import Derived.Test.YtnblhkhdilkbeaaEl
import Derived.Deep.RegionHeld3
set_option linter.unusedSimpArgs false
set_option linter.unusedVariables false
set_option maxRecDepth 100000
namespace Go.Proofs.Ytnblhkhdilkbeaa
open Go.RowKit

set_option maxHeartbeats 800000 in
theorem colClo (b N cp Y k : Nat) (x : Int) (w : World) (hY : w.cell? ⟨Y, 0, none⟩ = some (.int .i64 (k : Int))) (hk : k < N) (hx : w.cell? ⟨b, k, none⟩ = some (.int .i64 x)) :
    Calls Try.prog 150 #[.slice (some ⟨b, 0, none⟩) N cp, .pointer (some ⟨Y, 0, none⟩)] w fun e w' => e = .returned (.bool (x != 0)) ∧ Qt w w' := by
  have h0 : (0 : Int) ≤ (k : Int) := by omega
  have h1 : (k : Int) < (N : Int) := by omega
  go_enter Try.func150, Try.ntmps150
  go_wp2
  go_ret
  exact ⟨rfl, Qt.refl _⟩

/-- the first number other than 0 from m on -/
def fnz (x : Nat → Int) : Nat → Nat → Int
  | _, 0 => -1
  | m, d + 1 => if x m = 0 then fnz x (m + 1) d else (m : Int)
theorem fnz_is (x : Nat → Int) : ∀ d m, (fnz x m d = -1 ∧ ∀ j, m ≤ j → j < m + d → x j = 0) ∨ ∃ b : Nat, fnz x m d = b ∧ m ≤ b ∧ b < m + d ∧ x b ≠ 0 := by
  intro d
  induction d with
  | zero => intro m; exact .inl ⟨rfl, fun j h1 h2 => by omega⟩
  | succ d ih =>
    intro m
    unfold fnz
    by_cases h : x m = 0
    · rw [if_pos h]
      rcases ih (m + 1) with ⟨e, h1⟩ | ⟨b, e, h1, h2, h3⟩
      · refine .inl ⟨e, fun j hj hj2 => ?_⟩
        by_cases e2 : j = m
        · subst e2; exact h
        · exact h1 j (by omega) (by omega)
      · exact .inr ⟨b, e, by omega, by omega, h3⟩
    · rw [if_neg h]; exact .inr ⟨m, rfl, Nat.le_refl _, by omega, h⟩

set_option maxHeartbeats 1600000 in
theorem indexCol (g off n c N Y k : Nat) (rb cp : Nat → Nat) (x : Nat → Int) (w : World) (hY : w.cell? ⟨Y, 0, none⟩ = some (.int .i64 (k : Int))) (hk : k < N) (hn : n ≤ 1000)
    (hr : ∀ j, j < n → w.cell? ⟨g, off + j, none⟩ = some (.slice (some ⟨rb j, 0, none⟩) N (cp j)) ∧ w.cell? ⟨rb j, k, none⟩ = some (.int .i64 (x j))) :
    Calls Try.prog 149 #[.slice (some ⟨g, off, none⟩) n c, .func (.func 150) #[] #[.pointer (some ⟨Y, 0, none⟩)]] w fun e w' => e = .returned (.int .i64 (fnz x 0 n)) ∧ Qt w w' := by
  have HC := Lib.hid (fun W (hq : Qt w W) j (hj : j < n) => (⟨hq.cell (hr j hj).1, colClo (rb j) N (cp j) Y k (x j) W (hq.cell hY) hk (hq.cell (hr j hj).2)⟩ : _ ∧ _))
  clear hr hY
  go_enter Try.func149, Try.ntmps149
  go_wp2
  go_loopw [8] (fun v wr => ∃ m : Nat, m ≤ n ∧ v = .int .i64 m ∧ Qt w wr ∧ Hid (fnz x 0 n = fnz x m (n - m))) (fun v _ => n - (intOf v).toNat)
  case atStart => exact ⟨0, Nat.zero_le _, rfl, Qt.refl _, Lib.hid rfl⟩
  case round =>
    obtain ⟨m, hm, rfl, hq, HA⟩ := hrel
    by_cases hlt : m < n
    · obtain ⟨e0, hcl⟩ := HC.out wr hq m hlt
      have hkn : (m : Int) < (n : Int) := by omega
      have HQ := Lib.hid hq
      have HL := Lib.hid hcl
      have HS := Lib.hid (show fnz x m (n - m) = if x m = 0 then fnz x (m + 1) (n - (m + 1)) else (m : Int) from by
        rw [show n - m = (n - (m + 1)) + 1 by omega]; rfl)
      clear hq hcl
      go_wp2_with fail
      refine HL.out.mono ?_
      rintro e w2 ⟨rfl, q2⟩
      have HQ2 := Lib.hid (HQ.out.trans q2)
      clear q2 HL
      by_cases hx : x m = 0
      · have hb : (x m != 0) = false := by simp [hx]
        have HF := Lib.hid (show fnz x 0 n = fnz x (m + 1) (n - (m + 1)) by rw [HA.out, HS.out, if_pos hx])
        clear hx HA HS
        go_wp2
        go_roundw
        case rel => exact ⟨m+1, by omega, by go_num, HQ2.out, HF⟩
        case measure => simp [intOf]; omega
      · have hb : (x m != 0) = true := by simp [hx]
        have HF := Lib.hid (show fnz x 0 n = (m : Int) by rw [HA.out, HS.out, if_neg hx])
        clear hx HA HS
        go_wp2
        go_ret
        exact ⟨by rw [HF.out]; rfl, HQ2.out⟩
    · obtain rfl : m = n := by omega
      have HF := Lib.hid (show fnz x 0 m = -1 by rw [HA.out, Nat.sub_self]; rfl)
      clear HA
      go_wp2
      go_ret
      exact ⟨by rw [HF.out]; rfl, hq⟩

end Go.Proofs.Ytnblhkhdilkbeaa
