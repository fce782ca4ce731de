/- Sets that switch, by the program. -/
import Derived.Test.YtebgbplhcaocoaaSwP
import Derived.Test.YtebgbplhcaocoaaSimI
set_option linter.unusedSimpArgs false
set_option linter.unusedVariables false
set_option maxRecDepth 100000
namespace Go.Proofs.Ytebgbplhcaocoaa
open Go.RowKit

set_option maxHeartbeats 1600000 in
theorem slIndexM {lo hi : Nat} (a : Option Addr) (n c : Nat) (xs : List Int) (v : Nat) (w : World) (h : RdI lo hi w (.slice a n c) xs) (hl : xs.length = n) :
    Calls Try.prog 172 #[.slice a n c, .int .i64 v] w fun e w' => (∃ r : Int, e = .returned (.int .i64 r) ∧ (decide (0 ≤ r)) = memB xs v) ∧ Qt w w' := by
  have HC := Lib.hid (fun W (hq : Qt w W) => (h.qt hq).at hl)
  have hn17 := h.1
  rw [hl] at hn17
  have HYES := Lib.hid (fun k (hk : k < n) (e : xs.getD k 0 = (v : Int)) => memB_yes (by rw [hl]; exact hk) e)
  have HNO := Lib.hid (fun (h : ∀ k, k < n → xs.getD k 0 ≠ (v : Int)) => memB_no (xs := xs) (v := v) (fun k hk => h k (by rw [← hl]; exact hk)))
  generalize memB xs v = R at HNO HYES ⊢
  clear h hl
  go_enter Try.func172, Try.ntmps172
  go_wp2
  go_loopw [8] (fun i wr => ∃ k : Nat, k ≤ n ∧ i = .int .i64 k ∧ Qt w wr ∧ Hid (∀ j, j < k → xs.getD j 0 ≠ (v : Int))) (fun i _ => n - (intOf i).toNat)
  case atStart => exact ⟨0, Nat.zero_le _, rfl, Qt.refl _, Lib.hid (fun j hj => by omega)⟩
  case round =>
    obtain ⟨k, hk, rfl, hq, HA⟩ := hrel
    by_cases hlt : k < n
    · obtain ⟨b, off, rfl, g1⟩ := HC.out wr hq k hlt
      have hkn : (k : Int) < (n : Int) := by omega
      obtain ⟨x, hx⟩ : ∃ x, x = xs.getD k 0 := ⟨_, rfl⟩
      rw [← hx] at g1
      have HXX := Lib.hid hx
      clear hx
      by_cases he : (v : Int) = x
      · have HF := Lib.hid (HYES.out k hlt (by rw [← HXX.out]; exact he.symm))
        subst he
        clear HA
        go_wp2
        go_ret
        exact ⟨⟨(k : Int), rfl, by rw [HF.out]; exact decide_eq_true (by omega)⟩, hq⟩
      · have hb : ((v : Int) == x) = false := by simpa using he
        have HN := Lib.hid (fun j (hj : j < k + 1) => show xs.getD j 0 ≠ (v : Int) by
          by_cases e : j = k
          · subst e; rw [← HXX.out]; exact fun e2 => he e2.symm
          · exact HA.out j (by omega))
        clear he HA
        go_wp2
        go_roundw
        case rel => exact ⟨k+1, by omega, by go_num, hq, HN⟩
        case measure => simp [intOf]; omega
    · obtain rfl : k = n := by omega
      have HF := Lib.hid (HNO.out HA.out)
      clear HA
      go_wp2
      go_ret
      exact ⟨⟨-1, rfl, by rw [HF.out]; rfl⟩, hq⟩

set_option maxHeartbeats 800000 in
theorem slContains {lo hi : Nat} (a : Option Addr) (n c : Nat) (xs : List Int) (v : Nat) (w : World) (h : RdI lo hi w (.slice a n c) xs) (hl : xs.length = n) :
    Calls Try.prog 137 #[.slice a n c, .int .i64 v] w fun e w' => e = .returned (.bool (memB xs v)) ∧ Qt w w' := by
  have HI := Lib.hid (slIndexM a n c xs v w h hl)
  generalize memB xs v = R at HI ⊢
  clear h hl
  go_enter Try.func137, Try.ntmps137
  go_wp2_with fail
  refine HI.out.mono ?_
  rintro e w5 ⟨⟨r, rfl, hr⟩, q5⟩
  subst hr
  go_wp2
  go_ret
  exact ⟨rfl, q5⟩

end Go.Proofs.Ytebgbplhcaocoaa
