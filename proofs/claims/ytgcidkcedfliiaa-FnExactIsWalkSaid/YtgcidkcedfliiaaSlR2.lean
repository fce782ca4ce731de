/- The laws' helpers on lists of lists of numbers: equality, copies. -/
import Derived.Test.YtgcidkcedfliiaaSlR
set_option linter.unusedSimpArgs false
set_option linter.unusedVariables false
namespace Go.Proofs.Ytgcidkcedfliiaa
open Go.RowKit

def eqRB (xs ys : List (List Int)) : Bool := decide (xs = ys)
theorem eqRB_self (xs : List (List Int)) : eqRB xs xs = true := by simp [eqRB]
theorem eqRB_take {xs ys : List (List Int)} {k : Nat} (hl : xs.length = ys.length) (h : xs.take k = ys.take k) (hk : xs.length ≤ k) : eqRB xs ys = true := by
  simp only [eqRB, decide_eq_true_eq]
  rw [List.take_of_length_le hk, List.take_of_length_le (by omega)] at h
  exact h
theorem eqRB_ne {xs ys : List (List Int)} {k : Nat} (h : eqB (xs.getD k []) (ys.getD k []) = false) : eqRB xs ys = false := by
  simp only [eqRB, decide_eq_false_iff_not]
  intro e; subst e; rw [eqB_self] at h; cases h
theorem takeR_step {xs ys : List (List Int)} {k : Nat} (hl : xs.length = ys.length) (hk : k < xs.length) (h : xs.take k = ys.take k) (e : eqB (xs.getD k []) (ys.getD k []) = true) : xs.take (k+1) = ys.take (k+1) := by
  simp only [eqB, decide_eq_true_eq] at e
  rw [List.take_add_one, List.take_add_one, h]
  simp [List.getD, List.getElem?_eq_getElem hk, List.getElem?_eq_getElem (hl ▸ hk)] at e
  simp [List.getElem?_eq_getElem hk, List.getElem?_eq_getElem (hl ▸ hk), e]

theorem eqR_ne (n : Nat) (b off cap b' off' cap' : Nat) (xs ys : List (List Int)) {lo hi lo' hi' : Nat} (w : World) (hn : n ≤ 8796093022208) (hx : xs.length = n) (hy : ys.length = n)
    (hc : ∀ j, j < n → ∃ rv, w.cell? ⟨b, off + j, none⟩ = some rv ∧ RdI lo hi w rv (xs.getD j []))
    (hc' : ∀ j, j < n → ∃ rv, w.cell? ⟨b', off' + j, none⟩ = some rv ∧ RdI lo' hi' w rv (ys.getD j [])) :
    Calls Try.prog 37 #[.slice (some ⟨b, off, none⟩) n cap, .slice (some ⟨b', off', none⟩) n cap'] w fun e w' => e = .returned (.bool (eqRB xs ys)) ∧ Qt w w' := by
  have HX := Lib.hid hx
  have HY := Lib.hid hy
  have HC := Lib.hid hc
  have HC' := Lib.hid hc'
  clear hx hy hc hc'
  go_enter Try.func37, Try.ntmps37
  go_wp2
  go_loopw [5] (fun i wr => ∃ k : Nat, k ≤ n ∧ i = .int .i64 k ∧ Qt w wr ∧ xs.take k = ys.take k) (fun i _ => n - (intOf i).toNat)
  case atStart => exact ⟨0, Nat.zero_le _, rfl, Qt.refl _, rfl⟩
  case round =>
    obtain ⟨k, hk, rfl, hq, ht⟩ := hrel
    have HT := Lib.hid ht
    clear ht
    by_cases hlt : k < n
    · obtain ⟨rv, h1, r1⟩ := HC.out k hlt
      obtain ⟨rv', h2, r2⟩ := HC'.out k hlt
      replace h1 := hq.cell h1
      replace h2 := hq.cell h2
      replace r1 := r1.qt hq
      replace r2 := r2.qt hq
      generalize hx : xs.getD k [] = x at *
      generalize hy : ys.getD k [] = y at *
      have Hx := Lib.hid hx
      have Hy := Lib.hid hy
      clear hx hy
      go_wp2
      go_quiet ((go_at_call 23; exact Calls.quiet_of (eqI _ _ _ _ _ (r1.qt ((Qt.refl _).drewN _)) (r2.qt ((Qt.refl _).drewN _)))))
      generalize hbb : eqB x y = bb
      have Hbb := Lib.hid hbb
      clear hbb
      cases bb with
      | false =>
        go_wp2
        go_ret
        exact ⟨by rw [eqRB_ne (k := k) (by rw [Hx.out, Hy.out, Hbb.out])]; rfl, hq.drewN _⟩
      | true =>
        go_wp2
        go_roundw
        case rel => exact ⟨k+1, by omega, by go_num, hq.drewN _, takeR_step (HX.out.trans HY.out.symm) (by rw [HX.out]; exact hlt) HT.out (by rw [Hx.out, Hy.out, Hbb.out])⟩
        case measure => simp [intOf]; omega
    · go_wp2
      go_ret
      exact ⟨by rw [eqRB_take (HX.out.trans HY.out.symm) HT.out (by rw [HX.out]; omega)]; rfl, hq⟩

theorem eqR_any (a a' : Option Addr) (n n' cap cap' : Nat) (h : n ≠ n') (w : World) (hn : n ≤ 8796093022208) (hn' : n' ≤ 8796093022208) :
    Calls Try.prog 37 #[.slice a n cap, .slice a' n' cap'] w fun e w' => e = .returned (.bool false) ∧ Qt w w' := by
  have h' : ((n : Int) != n') = true := by simp; omega
  go_enter Try.func37, Try.ntmps37
  go_wp2
  go_ret
  exact ⟨rfl, Qt.refl _⟩

theorem eqR_nil (a a' : Option Addr) (cap cap' : Nat) (w : World) :
    Calls Try.prog 37 #[.slice a 0 cap, .slice a' 0 cap'] w fun e w' => e = .returned (.bool true) ∧ Qt w w' := by
  go_enter Try.func37, Try.ntmps37
  go_wp2
  refine wp_loop_rounds 1 ?_
  rw [rounds_succ]
  go_wp2
  go_ret
  exact ⟨rfl, Qt.refl _⟩

theorem eqR {lo hi lo' hi' : Nat} (v v' : Value) (xs ys : List (List Int)) (w : World) (h : RdR lo hi w v xs) (h' : RdR lo' hi' w v' ys) :
    Calls Try.prog 37 #[v, v'] w fun e w' => e = .returned (.bool (eqRB xs ys)) ∧ Qt w w' := by
  by_cases hl : xs.length = ys.length
  · by_cases h0 : xs.length = 0
    · obtain ⟨a, cap, rfl⟩ := h.shape
      obtain ⟨a', cap', rfl⟩ := h'.shape
      rw [← hl, h0]
      refine (eqR_nil a a' cap cap' w).mono fun e w' ⟨he, hw⟩ => ⟨?_, hw⟩
      have e1 := List.length_eq_zero_iff.1 h0
      have e2 := List.length_eq_zero_iff.1 (hl ▸ h0)
      rw [he, e1, e2]; rfl
    · obtain ⟨h1, ⟨a, cap, rfl, h⟩ | ⟨b, off, cap, rfl, _, _, _, hc⟩⟩ := h
      · simp at h0
      · obtain ⟨h1', ⟨a', cap', rfl, h'⟩ | ⟨b', off', cap', rfl, _, _, _, hc'⟩⟩ := h'
        · simp at hl; simp [hl] at h0
        · rw [← hl]
          exact eqR_ne xs.length b off cap b' off' cap' xs ys w (by omega) rfl hl.symm hc (fun j hj => hc' j (by omega))
  · obtain ⟨a, cap, rfl⟩ := h.shape
    obtain ⟨a', cap', rfl⟩ := h'.shape
    refine (eqR_any a a' _ _ cap cap' hl w h.1 h'.1).mono fun e w' ⟨he, hw⟩ => ⟨?_, hw⟩
    have : eqRB xs ys = false := by simp only [eqRB, decide_eq_false_iff_not]; intro e; exact hl (by rw [e])
    rw [he, this]

theorem eqR1 {lo hi lo' hi' : Nat} (v v' : Value) (xs : List (List Int)) (w : World) (h : RdR lo hi w v xs) (h' : RdR lo' hi' w v' xs) :
    Calls Try.prog 37 #[v, v'] w fun e w' => e = .returned (.bool true) ∧ Qt w w' :=
  (eqR v v' xs xs w h h').mono fun e w' ⟨he, hq⟩ => ⟨by rw [he, eqRB_self], hq⟩

end Go.Proofs.Ytgcidkcedfliiaa
