/- slices.Equal of two lists of one length; slices.Concat of a list and itself. -/
import Derived.Test.YtebgbplhcaocoaaCoreF
set_option linter.unusedSimpArgs false
set_option linter.unusedVariables false
namespace Go.Proofs.Ytebgbplhcaocoaa
open Go.RowKit

/-- at the m places from k on they are the same -/
def eqL (xs ys : List Int) : Nat → Nat → Bool
  | 0, _ => true
  | m + 1, k => if xs.getD k 0 = ys.getD k 0 then eqL xs ys m (k + 1) else false
theorem eqL_iff {xs ys : List Int} (m : Nat) : ∀ k, eqL xs ys m k = true ↔ ∀ j, k ≤ j → j < k + m → xs.getD j 0 = ys.getD j 0 := by
  induction m with
  | zero => intro k; exact ⟨fun _ j h1 h2 => by omega, fun _ => rfl⟩
  | succ m ih =>
    intro k
    simp only [eqL]
    by_cases e : xs.getD k 0 = ys.getD k 0
    · rw [if_pos e, ih]
      refine ⟨fun h j h1 h2 => ?_, fun h j h1 h2 => h j (by omega) (by omega)⟩
      by_cases ej : j = k
      · rw [ej]; exact e
      · exact h j (by omega) (by omega)
    · rw [if_neg e]
      exact ⟨fun h => (by cases h), fun h => absurd (h k (Nat.le_refl _) (by omega)) e⟩
theorem eqL_eq {xs ys : List Int} {n : Nat} (hx : xs.length = n) (hy : ys.length = n) : eqL xs ys n 0 = true ↔ xs = ys := by
  rw [eqL_iff]
  constructor
  · intro h
    refine List.ext_getElem (by omega) fun j h3 h4 => ?_
    have := h j (Nat.zero_le _) (by omega)
    simpa [List.getD, h3, h4] using this
  · rintro rfl j _ _; rfl

set_option maxRecDepth 100000 in
set_option maxHeartbeats 1600000 in
theorem slEqual {lo hi lo1 hi1 : Nat} (a : Option Addr) (n c : Nat) (xs : List Int) (a1 : Option Addr) (c1 : Nat) (ys : List Int) (w : World) (h : RdI lo hi w (.slice a n c) xs) (hl : xs.length = n) (h1 : RdI lo1 hi1 w (.slice a1 n c1) ys) (hl1 : ys.length = n) (hn : n ≤ 1000) :
    Calls Try.prog 119 #[.slice a n c, .slice a1 n c1] w fun e w' => e = .returned (.bool (eqL xs ys n 0)) ∧ Qt w w' := by
  have HX := Lib.hid (fun W' (h' : RdI lo hi W' (.slice a n c) xs) => h'.at hl)
  have HY := Lib.hid (fun W' (h' : RdI lo1 hi1 W' (.slice a1 n c1) ys) => h'.at hl1)
  have H0 := Lib.hid h
  have H1 := Lib.hid h1
  obtain ⟨R, hR⟩ : ∃ R, R = eqL xs ys n 0 := ⟨_, rfl⟩
  rw [← hR]
  have HP0 := Lib.hid hR.symm
  clear h h1 hl hl1 hR
  go_enter Try.func119, Try.ntmps119
  go_wp2
  go_loopw [13] (fun y wr => ∃ k m : Nat, k + m = n ∧ y = .int .i64 k ∧ Hid (eqL xs ys m k = R) ∧ Qt w wr) (fun y _ => n - (intOf y).toNat)
  case atStart => exact ⟨0, n, by omega, rfl, HP0, Qt.refl _⟩
  case round =>
    clear HP0
    obtain ⟨k, m, hkm, rfl, HB, hq⟩ := hrel
    cases m with
    | zero =>
      obtain rfl : k = n := by omega
      have hb : true = R := HB.out
      subst hb
      clear HB
      go_wp2
      go_ret
      exact ⟨rfl, hq⟩
    | succ m =>
      have hks : k < n := by omega
      have hb := HB.out
      obtain ⟨b, off, rfl, g0⟩ := HX.out wr (H0.out.qt hq) k hks
      obtain ⟨b1, off1, rfl, g1⟩ := HY.out wr (H1.out.qt hq) k hks
      simp only [eqL] at hb
      generalize xs.getD k 0 = x at g0 hb
      generalize ys.getD k 0 = y at g1 hb
      have hi0 : (0 : Int) ≤ (k : Int) := by omega
      have hi1 : (k : Int) < (n : Int) := by omega
      have HKM := Lib.hid hkm
      have HQ := Lib.hid hq
      by_cases e : x = y
      · rw [if_pos e] at hb
        have HF := Lib.hid hb
        clear hkm hb HB hq
        subst e
        go_wp2
        go_region
        all_goals
          go_wp2
          go_roundw
          case rel => exact ⟨k+1, m, by have := HKM.out; omega, by go_num, HF, by first | exact HQ.out | exact HQ.out.drew⟩
          case measure => simp [intOf]; omega
      · rw [if_neg e] at hb
        have d0 : (x != y) = true := by simpa using e
        have d1 : (x == y) = false := by simpa using e
        clear hkm HB hq
        subst hb
        go_wp2
        go_region
        all_goals
          go_wp2
          go_ret
          refine ⟨rfl, ?_⟩
          first | exact HQ.out | exact HQ.out.drew | exact HQ.out.drew.drew

end Go.Proofs.Ytebgbplhcaocoaa
