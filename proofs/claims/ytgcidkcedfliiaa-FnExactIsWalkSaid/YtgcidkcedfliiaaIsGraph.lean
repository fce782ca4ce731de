/- IsGraph of the program and of the model: both say whether the value is a graph. -/
import Derived.Test.YtgcidkcedfliiaaGraph
set_option linter.unusedSimpArgs false
set_option linter.unusedVariables false
namespace Go.Proofs.Ytgcidkcedfliiaa
open Go.RowKit

def inR (x s : Int) : Bool := decide (0 ≤ x) && decide (x < s)
def edgeOk (s : Int) (e : List Int) : Bool := decide (e.length = 2) && (inR (e.getD 0 0) s && inR (e.getD 1 0) s)
def grB (s : Int) (xss : List (List Int)) : Bool := decide (1 ≤ s) && (decide (s ≤ 8) && (decide (xss.length ≤ 10) && xss.all (edgeOk s)))

theorem isIndex (x s : Int) (w : World) : Calls Try.prog 100 #[.int .i64 x, .int .i64 s] w fun e w' => e = .returned (.bool (inR x s)) ∧ Qt w w' := by
  by_cases h1 : 0 ≤ x
  · go_enter Try.func100, Try.ntmps100
    go_wp2
    go_ret
    exact ⟨by first | (simp [inR, *]; done) | (simp [inR, *]; intros; omega), Qt.refl _⟩
  · go_enter Try.func100, Try.ntmps100
    go_wp2
    go_ret
    exact ⟨by first | (simp [inR, *]; done) | (simp [inR, *]; intros; omega), Qt.refl _⟩

theorem isIndexV (x s : Int) (b : Bool) (h : inR x s = b) (w : World) : Calls Try.prog 100 #[.int .i64 x, .int .i64 s] w fun e w' => e = .returned (.bool b) ∧ Qt w w' := by
  subst h; exact isIndex x s w

theorem all_take {xss : List (List Int)} {k : Nat} {f : List Int → Bool} (hk : k < xss.length) (h : (xss.take k).all f = true) (e : f (xss.getD k []) = true) : (xss.take (k+1)).all f = true := by
  rw [List.take_add_one, List.all_append, h, List.getElem?_eq_getElem hk]
  simp [List.getD, List.getElem?_eq_getElem hk] at e
  simp [e]
theorem all_not {xss : List (List Int)} {k : Nat} {f : List Int → Bool} (hk : k < xss.length) (e : f (xss.getD k []) = false) : xss.all f = false := by
  simp [List.getD, List.getElem?_eq_getElem hk] at e
  rw [List.all_eq_false]
  exact ⟨_, List.getElem_mem hk, by simp [e]⟩

theorem RdI.two {lo hi : Nat} {w : World} {v : Value} {xs : List Int} (h : RdI lo hi w v xs) (h2 : xs.length = 2) : ∃ b off cap, v = .slice (some ⟨b, off, none⟩) 2 cap ∧ w.cell? ⟨b, off, none⟩ = some (.int .i64 (xs.getD 0 0)) ∧ w.cell? ⟨b, off + 1, none⟩ = some (.int .i64 (xs.getD 1 0)) := by
  obtain ⟨_, _, ⟨a, cap, rfl, h⟩ | ⟨b, off, cap, h, _, _, _, hc⟩⟩ := h
  · simp at h2
  · exact ⟨b, off, cap, by rw [h, h2], hc 0 (by omega), hc 1 (by omega)⟩

theorem edgeOk_0 {s : Int} {e : List Int} (h : inR (e.getD 0 0) s = false) : edgeOk s e = false := by unfold edgeOk; rw [h]; simp
theorem edgeOk_1 {s : Int} {e : List Int} (h : inR (e.getD 1 0) s = false) : edgeOk s e = false := by unfold edgeOk; rw [h]; simp
theorem edgeOk_2 {s : Int} {e : List Int} (h : ¬ e.length = 2) : edgeOk s e = false := by unfold edgeOk; rw [decide_eq_false h]; simp
theorem edgeOk_t {s : Int} {e : List Int} (h : e.length = 2) (h0 : inR (e.getD 0 0) s = true) (h1 : inR (e.getD 1 0) s = true) : edgeOk s e = true := by unfold edgeOk; rw [decide_eq_true h, h0, h1]; rfl

set_option maxHeartbeats 800000 in
theorem ig_loop (n b off cap : Nat) (s : Int) (xss : List (List Int)) {lo hi : Nat} (w : World) (hn : n ≤ 10) (hs1 : 1 ≤ s) (hs2 : s ≤ 8) (hx : xss.length = n)
    (hc : ∀ j, j < n → ∃ rv, w.cell? ⟨b, off + j, none⟩ = some rv ∧ RdI lo hi w rv (xss.getD j [])) :
    Calls Try.prog 60 #[.agg #[.int .i64 s, .slice (some ⟨b, off, none⟩) n cap]] w fun e w' => e = .returned (.bool (grB s xss)) ∧ Below w.heap.size w w' := by
  have hb0 : ∀ o, Below w.heap.size w (w.alloc o) := fun o => (Below.refl _ _).alloc (Nat.le_refl _) o
  have HX := Lib.hid hx
  have HC := Lib.hid hc
  clear hx hc
  go_enter Try.func60, Try.ntmps60
  go_wp2
  go_loopw [22, 4] (fun i _ wr => ∃ k : Nat, k ≤ n ∧ i = .int .i64 k ∧ Qt (w.alloc (.cells #[.int .i64 s, .slice (some ⟨b, off, none⟩) n cap] 29)) wr ∧ (xss.take k).all (edgeOk s) = true) (fun i _ _ => n - (intOf i).toNat)
  case atStart => exact ⟨0, Nat.zero_le _, rfl, Qt.refl _, rfl⟩
  case round =>
    obtain ⟨k, hk, rfl, hq, ht⟩ := hrel
    have HT := Lib.hid ht
    have hb1 := (hb0 (.cells #[.int .i64 s, .slice (some ⟨b, off, none⟩) n cap] 29)).qt hq
    have k1 : wr.cell? ⟨w.heap.size, 0, none⟩ = some (.int .i64 s) := hq.cell (by go_simp)
    have k2 : wr.cell? ⟨w.heap.size, 1, none⟩ = some (.slice (some ⟨b, off, none⟩) n cap) := hq.cell (by go_simp)
    have HQ := Lib.hid hq
    clear ht hq
    by_cases hlt : k < n
    · obtain ⟨rv, h1, r1⟩ := HC.out k hlt
      replace h1 := hb1.keep h1
      replace r1 := r1.below hb1
      have hlt' : k < xss.length := by rw [HX.out]; exact hlt
      have hbad : edgeOk s (xss.getD k []) = false → grB s xss = false := fun h => by simp [grB, all_not hlt' h]
      have HB := Lib.hid hbad
      clear hbad
      by_cases h2 : (xss.getD k []).length = 2
      · obtain ⟨b', off', cap', rfl, g1, g2⟩ := r1.two h2
        generalize hx0 : (xss.getD k []).getD 0 0 = x0 at *
        generalize hx1 : (xss.getD k []).getD 1 0 = x1 at *
        have H0 := Lib.hid hx0
        have H1 := Lib.hid hx1
        have H2 := Lib.hid h2
        clear hx0 hx1 h2 r1
        cases i0 : inR x0 s with
        | false =>
          go_wp2
          go_quiet ((go_at_call 100; exact Calls.quiet_of (isIndex _ _ _)))
          go_wp2
          go_ret
          exact ⟨by rw [HB.out (edgeOk_0 (by rw [H0.out]; exact i0))]; rfl, hb1.drewN _⟩
        | true =>
          cases i1 : inR x1 s with
          | false =>
            go_wp2
            go_quiet ((go_at_call 100; exact Calls.quiet_of (isIndex _ _ _)))
            go_wp2
            go_ret
            exact ⟨by rw [HB.out (edgeOk_1 (by rw [H1.out]; exact i1))]; rfl, hb1.drewN _⟩
          | true =>
            go_wp2
            go_quiet ((go_at_call 100; exact Calls.quiet_of (isIndex _ _ _)))
            go_wp2
            go_roundw
            case rel => exact ⟨k+1, by omega, by go_num, HQ.out.drewN _, all_take hlt' HT.out (edgeOk_t H2.out (by rw [H0.out]; exact i0) (by rw [H1.out]; exact i1))⟩
            case measure => simp [intOf]; omega
      · obtain ⟨a', cap', rfl⟩ := r1.shape
        generalize hm : (xss.getD k []).length = m at *
        have HM := Lib.hid hm
        have hm2 : ((m : Int) != 2) = true := by simp; omega
        clear hm r1
        go_wp2
        go_quiet (fail)
        go_wp2
        go_ret
        exact ⟨by rw [HB.out (edgeOk_2 (by rw [HM.out]; exact h2))]; rfl, hb1.drewN _⟩
    · go_wp2
      go_ret
      obtain rfl : k = n := by omega
      have e1 : xss.take k = xss := List.take_of_length_le (by rw [HX.out]; exact Nat.le_refl _)
      have e2 := HT.out
      rw [e1] at e2
      exact ⟨by simp [grB, e2, hs1, hs2, HX.out, hn], hb1⟩

end Go.Proofs.Ytgcidkcedfliiaa
