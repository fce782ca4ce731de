/- The ends of a directed edge, by the model. -/
import Derived.Test.YtgcidkcedfliiaaDirected
import Derived.Test.YtgcidkcedfliiaaRowsMore
set_option linter.unusedSimpArgs false
set_option linter.unusedVariables false
namespace Go.Proofs.Ytgcidkcedfliiaa
open Go.RowKit

theorem dirE_even (es : List (Int × Int)) (m : Nat) : (dirE es).getD (2 * m) (0, 0) = es.getD m (0, 0) := by
  induction es generalizing m with
  | nil => simp [dirE]
  | cons e r ih =>
    cases m with
    | zero => simp [dirE]
    | succ m =>
      have := ih m
      simp only [dirE, List.flatMap_cons, List.cons_append, List.nil_append, show 2 * (m + 1) = 2 * m + 1 + 1 by omega, List.getD_cons_succ] at this ⊢
      exact this
theorem dirE_odd (es : List (Int × Int)) (m : Nat) (h : m < es.length) : (dirE es).getD (2 * m + 1) (0, 0) = ((es.getD m (0, 0)).2, (es.getD m (0, 0)).1) := by
  induction es generalizing m with
  | nil => simp at h
  | cons e r ih =>
    cases m with
    | zero => simp [dirE]
    | succ m =>
      have := ih m (by simpa using h)
      simp only [dirE, List.flatMap_cons, List.cons_append, List.nil_append, show 2 * (m + 1) + 1 = 2 * m + 1 + 1 + 1 by omega, List.getD_cons_succ] at this ⊢
      exact this
theorem pairs_getD (xss : List (List Int)) (m : Nat) : (pairs xss).getD m (0, 0) = ((xss.getD m []).getD 0 0, (xss.getD m []).getD 1 0) := by
  induction xss generalizing m with
  | nil => simp [pairs]
  | cons e r ih =>
    cases m with
    | zero => simp [pairs]
    | succ m => simpa [pairs] using ih m

set_option maxHeartbeats 1600000 in
theorem l01Ends {lo hi : Nat} (s : Int) (a : Option Addr) (n c : Nat) (xss : List (List Int)) (w : World) (h : RdR lo hi w (.slice a n c) xss) (hn : xss.length = n) (hg : grB s xss = true) (k : Int) (h0 : 0 ≤ k) (h1 : k < 2 * (n : Int)) :
    Calls Try.prog 92 #[.agg #[.int .i64 s, .slice a n c], .int .i64 k] w fun e w' => e = .returned (.tuple #[.int .i64 ((dirE (pairs xss)).getD k.toNat (0, 0)).1, .int .i64 ((dirE (pairs xss)).getD k.toNat (0, 0)).2]) ∧ Below w.heap.size w w' := by
  have hb0 : ∀ o, Below w.heap.size w (w.alloc o) := fun o => (Below.refl _ _).alloc (Nat.le_refl _) o
  have h2 := (grB_iff hg).2.2.2
  obtain ⟨m, hm⟩ : ∃ m : Nat, k = 2 * (m : Int) ∨ k = 2 * (m : Int) + 1 := ⟨(k / 2).toNat, by omega⟩
  have hmn : m < n := by omega
  have hlen := (h2 m (by omega)).1
  obtain ⟨b, off, b', off', c', rfl, g0, g1, g2⟩ : ∃ b off b' off' c', a = some ⟨b, off, none⟩ ∧ w.cell? ⟨b, off + m, none⟩ = some (.slice (some ⟨b', off', none⟩) 2 c') ∧ w.cell? ⟨b', off', none⟩ = some (.int .i64 ((xss.getD m []).getD 0 0)) ∧ w.cell? ⟨b', off' + 1, none⟩ = some (.int .i64 ((xss.getD m []).getD 1 0)) := by
    obtain ⟨b, off, rv, ha, g0, hr⟩ := h.at hn m hmn
    obtain ⟨_, _, ⟨a', c', hnil, _⟩ | ⟨b', off', c', hv, _, _, _, hc⟩⟩ := hr
    · rw [hnil] at hlen; simp at hlen
    · rw [hv, hlen] at g0
      exact ⟨b, off, b', off', c', ha, g0, by have := hc 0 (by omega); simpa using this, hc 1 (by omega)⟩
  have e0 : (pairs xss).getD m (0, 0) = ((xss.getD m []).getD 0 0, (xss.getD m []).getD 1 0) := pairs_getD xss m
  generalize (xss.getD m []).getD 0 0 = p0 at *
  generalize (xss.getD m []).getD 1 0 = p1 at *
  have a0 := fun o => (hb0 o).keep g0
  have a1 := fun o => (hb0 o).keep g1
  have a2 := fun o => (hb0 o).keep g2
  have hn10 : n ≤ 10 := by have := grB_iff hg; omega
  have q3 : wrap64 (m : Int) = (m : Int) := IntWalk.wrap64_in _ (by omega)
  rcases hm with rfl | rfl
  · have e1 : (dirE (pairs xss)).getD (2 * (m : Int)).toNat (0, 0) = (p0, p1) := by
      rw [show (2 * (m : Int)).toNat = 2 * m by omega, dirE_even, e0]
    rw [e1]
    have q1 : (2 * (m : Int)).tdiv 2 = (m : Int) := by rw [Int.tdiv_eq_ediv_of_nonneg (by omega)]; omega
    have q2 : (2 * (m : Int)).tmod 2 = 0 := by rw [Int.tmod_eq_emod_of_nonneg (by omega)]; omega
    have E := Lib.hid e1
    clear e1 e0 h2 hlen hg h
    go_enter Try.func92, Try.ntmps92
    go_wp2
    go_quiet (fail)
    go_wp2
    refine bodyPost_ret (v := .tuple #[.int .i64 p0, .int .i64 p1]) (by simp [results, Try.results92, go_sem]) rfl ⟨rfl, (hb0 _).drewN _⟩
  · have e1 : (dirE (pairs xss)).getD (2 * (m : Int) + 1).toNat (0, 0) = (p1, p0) := by
      rw [show (2 * (m : Int) + 1).toNat = 2 * m + 1 by omega, dirE_odd _ _ (by rw [pairs_len]; omega), e0]
    rw [e1]
    have q1 : (2 * (m : Int) + 1).tdiv 2 = (m : Int) := by rw [Int.tdiv_eq_ediv_of_nonneg (by omega)]; omega
    have q2 : (2 * (m : Int) + 1).tmod 2 = 1 := by rw [Int.tmod_eq_emod_of_nonneg (by omega)]; omega
    clear e1 e0 h2 hlen hg h
    go_enter Try.func92, Try.ntmps92
    go_wp2
    go_quiet (fail)
    go_wp2
    refine bodyPost_ret (v := .tuple #[.int .i64 p1, .int .i64 p0]) (by simp [results, Try.results92, go_sem]) rfl ⟨rfl, (hb0 _).drewN _⟩

end Go.Proofs.Ytgcidkcedfliiaa
