/- IsGraph of the model. -/
import Derived.Test.YtgcidkcedfliiaaIsGraph
import Derived.IntWalk
set_option linter.unusedSimpArgs false
set_option linter.unusedVariables false
namespace Go.Proofs.Ytgcidkcedfliiaa
open Go.RowKit

theorem l01In (n l h : Int) (w : World) :
    Calls Try.prog 98 #[.int .i64 n, .int .i64 l, .int .i64 h] w fun e w' => e = .returned (.bool (decide (l ≤ n) && decide (n ≤ h))) ∧ Qt w w' := by
  by_cases h1 : l ≤ n
  · go_enter Try.func98, Try.ntmps98
    go_wp2
    go_ret
    exact ⟨by first | (simp [*]; done) | (simp [*]; intros; omega), Qt.refl _⟩
  · go_enter Try.func98, Try.ntmps98
    go_wp2
    go_ret
    exact ⟨by first | (simp [*]; done) | (simp [*]; intros; omega), Qt.refl _⟩

theorem l01InR (x s : Int) (h1 : 1 ≤ s) (h2 : s ≤ 8) (w : World) :
    Calls Try.prog 98 #[.int .i64 x, .int .i64 0, .int .i64 (s - 1)] w fun e w' => e = .returned (.bool (inR x s)) ∧ Qt w w' := by
  have e1 : inR x s = (decide (0 ≤ x) && decide (x ≤ s - 1)) := by
    unfold inR
    congr 1
    simp; omega
  rw [e1]
  exact l01In x 0 (s - 1) w

set_option maxHeartbeats 800000 in
theorem is_loop (n b off cap : Nat) (s : Int) (xss : List (List Int)) {lo hi : Nat} (w : World) (hn : n ≤ 10) (hs1 : 1 ≤ s) (hs2 : s ≤ 8) (hx : xss.length = n)
    (hc : ∀ j, j < n → ∃ rv, w.cell? ⟨b, off + j, none⟩ = some rv ∧ RdI lo hi w rv (xss.getD j [])) :
    Calls Try.prog 57 #[.agg #[.int .i64 s, .slice (some ⟨b, off, none⟩) n cap]] w fun e w' => e = .returned (.bool (grB s xss)) ∧ Below w.heap.size w w' := by
  have hb0 : ∀ o, Below w.heap.size w (w.alloc o) := fun o => (Below.refl _ _).alloc (Nat.le_refl _) o
  have HX := Lib.hid hx
  have HC := Lib.hid hc
  clear hx hc
  have hg : (decide (1 ≤ s) && decide (s ≤ 8)) = true := by simp; omega
  go_enter Try.func57, Try.ntmps57
  go_wp2_with (go_at_call 98; refine (l01In _ _ _ _).mono ?_; rintro e w' ⟨rfl, ⟨m0, rfl⟩⟩; rw [hg])
  go_loopw [3] (fun i wr => ∃ k : Nat, k ≤ n ∧ i = .int .i64 k ∧ Qt (w.alloc (.cells #[.int .i64 s, .slice (some ⟨b, off, none⟩) n cap] 29)) wr ∧ (xss.take k).all (edgeOk s) = true) (fun i _ => n - (intOf i).toNat)
  case atStart => exact ⟨0, Nat.zero_le _, rfl, (Qt.refl _).drewN _, rfl⟩
  case round =>
    obtain ⟨k, hk, rfl, hq, ht⟩ := hrel
    have hwr : IntKind.i64.wrap (s - 1) = s - 1 := IntWalk.i64_in _ (by omega)
    have HT := Lib.hid ht
    have hb1 := (hb0 (.cells #[.int .i64 s, .slice (some ⟨b, off, none⟩) n cap] 29)).qt hq
    have k1 : wr.cell? ⟨w.heap.size, 0, none⟩ = some (.int .i64 s) := hq.cell (by go_simp)
    have k2 : wr.cell? ⟨w.heap.size, 1, none⟩ = some (.slice (some ⟨b, off, none⟩) n cap) := hq.cell (by go_simp)
    have HQ := Lib.hid hq
    clear ht hq
    by_cases hlt : k < n
    · obtain ⟨rv, h1, r1⟩ := HC.out k hlt
      replace h1 := hb1.keep h1
      replace r1 := r1.below hb1
      have hlt' : k < xss.length := by rw [HX.out]; exact hlt
      have hbad : edgeOk s (xss.getD k []) = false → grB s xss = false := fun h => by simp [grB, all_not hlt' h]
      have HB := Lib.hid hbad
      clear hbad
      by_cases h2 : (xss.getD k []).length = 2
      · obtain ⟨b', off', cap', rfl, g1, g2⟩ := r1.two h2
        generalize hx0 : (xss.getD k []).getD 0 0 = x0 at *
        generalize hx1 : (xss.getD k []).getD 1 0 = x1 at *
        have H0 := Lib.hid hx0
        have H1 := Lib.hid hx1
        have H2 := Lib.hid h2
        clear hx0 hx1 h2 r1
        cases i0 : inR x0 s with
        | false =>
          go_wp2
          go_quiet ((go_at_call 98; exact Calls.quiet_of (l01InR _ _ (by omega) (by omega) _)))
          go_wp2
          go_ret
          exact ⟨by rw [HB.out (edgeOk_0 (by rw [H0.out]; exact i0))]; rfl, hb1.drewN _⟩
        | true =>
          cases i1 : inR x1 s with
          | false =>
            go_wp2
            go_quiet ((go_at_call 98; exact Calls.quiet_of (l01InR _ _ (by omega) (by omega) _)))
            go_wp2
            go_ret
            exact ⟨by rw [HB.out (edgeOk_1 (by rw [H1.out]; exact i1))]; rfl, hb1.drewN _⟩
          | true =>
            go_wp2
            go_quiet ((go_at_call 98; exact Calls.quiet_of (l01InR _ _ (by omega) (by omega) _)))
            go_wp2
            go_roundw
            case rel => exact ⟨k+1, by omega, by go_num, HQ.out.drewN _, all_take hlt' HT.out (edgeOk_t H2.out (by rw [H0.out]; exact i0) (by rw [H1.out]; exact i1))⟩
            case measure => simp [intOf]; omega
      · obtain ⟨a', cap', rfl⟩ := r1.shape
        generalize hm : (xss.getD k []).length = m at *
        have HM := Lib.hid hm
        have hm2 : ((m : Int) != 2) = true := by simp; omega
        clear hm r1
        go_wp2
        go_quiet (fail)
        go_wp2
        go_ret
        exact ⟨by rw [HB.out (edgeOk_2 (by rw [HM.out]; exact h2))]; rfl, hb1.drewN _⟩
    · go_wp2
      go_ret
      obtain rfl : k = n := by omega
      have e1 : xss.take k = xss := List.take_of_length_le (by rw [HX.out]; exact Nat.le_refl _)
      have e2 := HT.out
      rw [e1] at e2
      exact ⟨by simp [grB, e2, hs1, hs2, HX.out, hn], hb1⟩


end Go.Proofs.Ytgcidkcedfliiaa
