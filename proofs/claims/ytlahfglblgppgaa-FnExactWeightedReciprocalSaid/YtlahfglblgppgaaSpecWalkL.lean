/- Lists of directed edges: the model's check. -/
import Derived.Test.YtlahfglblgppgaaWalkL
set_option linter.unusedSimpArgs false
set_option linter.unusedVariables false
namespace Go.Proofs.Ytlahfglblgppgaa
open Go.RowKit

theorem l01InV (x N : Int) (b : Bool) (h : inR x N = b) (w : World) :
    Calls Try.prog 77 #[.int .i64 x, .int .i64 0, .int .i64 (N - 1)] w fun e w' => e = .returned (.bool b) ∧ Qt w w' := by
  have e1 : inR x N = (decide (0 ≤ x) && decide (x ≤ N - 1)) := by
    unfold inR
    congr 1
    simp; omega
  rw [← h, e1]
  exact l01In x 0 (N - 1) w

theorem walkB_end {n : Nat} {ws : List Int} (h : ∀ j, j < ws.length → inR (ws.getD j 0) (2 * (n : Int)) = true) : walkB n ws = decide ((ws.length : Int) ≤ 20) := by
  by_cases hl : ws.length ≤ 20
  · rw [walkB_good hl h]; symm; exact decide_eq_true (by omega)
  · rw [walkB_long hl]; symm; exact decide_eq_false (by omega)

set_option maxHeartbeats 1600000 in
theorem l02Directed {lo hi : Nat} (s : Int) (a : Option Addr) (n c : Nat) (a1 : Option Addr) (n1 c1 : Nat) (ws : List Int) (w : World) (h : RdI lo hi w (.slice a1 n1 c1) ws) (hl : ws.length = n1) (hn10 : n ≤ 10) (hb1 : n1 ≤ 17592186044416) :
    Calls Try.prog 67 #[.agg #[.int .i64 s, .slice a n c], .slice a1 n1 c1] w fun e w' => e = .returned (.bool (walkB n ws)) ∧ Below w.heap.size w w' := by
  have HL := Lib.hid hl
  have HC := Lib.hid (h.at hl)
  clear hl h
  go_enter Try.func67, Try.ntmps67
  go_wp2
  have hB0 := (Below.refl w.heap.size w).alloc (Nat.le_refl _) (.cells #[.int .i64 s, .slice a n c] 29)
  have k0 : (w.alloc (.cells #[.int .i64 s, .slice a n c] 29)).cell? ⟨w.heap.size, 1, none⟩ = some (.slice a n c) := by go_simp
  obtain ⟨B, hBB⟩ : ∃ B, B = w.heap.size := ⟨_, rfl⟩
  have HF := Lib.hid (⟨k0, hB0⟩ : _ ∧ _)
  rw [← hBB] at k0 ⊢
  have HB := Lib.hid hBB
  clear k0 hB0 hBB
  go_loopw [5] (fun i wr => ∃ q : Nat, q ≤ n1 ∧ i = .int .i64 q ∧ Hid (∀ j, j < q → inR (ws.getD j 0) (2 * (n : Int)) = true) ∧ wr.cell? ⟨B, 1, none⟩ = some (.slice a n c) ∧ Below w.heap.size w wr) (fun i _ => n1 - (intOf i).toNat)
  case atStart => exact ⟨0, Nat.zero_le _, rfl, Lib.hid (fun j hj => by omega), by rw [HB.out]; exact HF.out.1, HF.out.2⟩
  case round =>
    obtain ⟨q, hq, rfl, HG, k0, hB⟩ := hrel
    by_cases hlq : q < n1
    · obtain ⟨b, off, rfl, g0⟩ := HC.out q hlq
      replace g0 := hB.keep g0
      obtain ⟨x, hx⟩ : ∃ x, x = ws.getD q 0 := ⟨_, rfl⟩
      rw [← hx] at g0
      have HX := Lib.hid hx
      clear hx
      have hmul : IntKind.i64.wrap (2 * (n : Int)) = 2 * (n : Int) := IntWalk.i64_in _ (by omega)
      have hsub : IntKind.i64.wrap (2 * (n : Int) - 1) = 2 * (n : Int) - 1 := IntWalk.i64_in _ (by omega)
      have hmul' : wrap64 (2 * (n : Int)) = 2 * (n : Int) := IntWalk.wrap64_in _ (by omega)
      have hsub' : wrap64 (2 * (n : Int) - 1) = 2 * (n : Int) - 1 := IntWalk.wrap64_in _ (by omega)
      cases hr : inR x (2 * (n : Int)) with
      | true =>
        have HR := Lib.hid hr
        clear hr
        have hall : Hid (∀ j, j < q + 1 → inR (ws.getD j 0) (2 * (n : Int)) = true) := Lib.hid (fun j hj => by
          by_cases e : j < q
          · exact HG.out j e
          · obtain rfl : j = q := by omega
            rw [← HX.out]; exact HR.out)
        go_wp2
        go_quiet ((go_at_call 77; exact Calls.quiet_of (l01InV _ _ true HR.out _)))
        go_wp2
        go_roundw
        case rel => exact ⟨q+1, by omega, by go_num, hall, by go_simp, hB.drewN _⟩
        case measure => simp [intOf]; omega
      | false =>
        have HR := Lib.hid hr
        clear hr
        have hwb := walkB_bad (n := n) (ws := ws) (j := q) (by rw [HL.out]; exact hlq) (by rw [← HX.out]; exact HR.out)
        have HW := Lib.hid hwb
        clear hwb
        go_wp2
        go_quiet ((go_at_call 77; exact Calls.quiet_of (l01InV _ _ false HR.out _)))
        go_wp2
        go_ret
        exact ⟨by rw [HW.out]; rfl, hB.drewN _⟩
    · obtain rfl : q = n1 := by omega
      have hwb := walkB_end (n := n) (ws := ws) (fun j hj => HG.out j (by rw [HL.out] at hj; exact hj))
      rw [HL.out] at hwb
      have HW := Lib.hid hwb
      clear hwb
      go_wp2
      go_ret
      exact ⟨by rw [HW.out]; rfl, hB⟩

end Go.Proofs.Ytlahfglblgppgaa
