/- The laws' helpers on lists of lists of numbers: marks are still there. -/
import Derived.Test.YtgcidkcedfliiaaMarkR
set_option linter.unusedSimpArgs false
set_option linter.unusedVariables false
namespace Go.Proofs.Ytgcidkcedfliiaa
open Go.RowKit

theorem heldR_ne (n b off cap : Nat) (xss : List (List Int)) (k : Int) {lo hi : Nat} (w : World) (hn : n ≤ 8796093022208) (hk0 : 0 ≤ k) (hk1 : k + lens xss ≤ 17592186044416) (hx : xss.length = n)
    (hc : ∀ j, j < n → ∃ rv, w.cell? ⟨b, off + j, none⟩ = some rv ∧ RdI lo hi w rv ((marksR k xss).getD j [])) :
    Calls Try.prog 39 #[.slice (some ⟨b, off, none⟩) n cap, .int .i64 k] w fun e w' => e = .returned (.int .i64 (k + lens xss)) ∧ Qt w w' := by
  have HX := Lib.hid hx
  have HC := Lib.hid hc
  clear hx hc
  go_enter Try.func39, Try.ntmps39
  go_wp2
  go_loopw [1, 5] (fun kk i wr => ∃ j : Nat, j ≤ n ∧ i = .int .i64 j ∧ kk = .int .i64 (k + (lens (xss.take j) : Int)) ∧ Qt w wr) (fun _ i _ => n - (intOf i).toNat)
  case atStart => exact ⟨0, Nat.zero_le _, rfl, by simp [lens], Qt.refl _⟩
  case round =>
    obtain ⟨j, hj, rfl, rfl, hq⟩ := hrel
    by_cases hlt : j < n
    · have hlt' : j < xss.length := by rw [HX.out]; exact hlt
      obtain ⟨rv, h1, r1⟩ := HC.out j hlt
      replace h1 := hq.cell h1
      replace r1 := r1.qt hq
      rw [marksR_get hlt'] at r1
      have hle := lens_le xss j
      have hst := lens_step (xss := xss) hlt'
      have hle2 := lens_le xss (j+1)
      generalize hys : (xss.getD j []).length = m at *
      have HST := Lib.hid hst
      have hpos : ¬ (k + (lens (xss.take j) : Int) + (m : Int) < 0) := by omega
      clear hst hys
      go_wp2_with (go_at_call 30; refine (heldI _ _ _ _ r1 (by omega) (by omega)).mono ?_; rintro e w' ⟨rfl, hq2⟩)
      go_roundw
      case rel => exact ⟨j+1, by omega, by go_num, by rw [HST.out]; congr 1; omega, hq.trans hq2⟩
      case measure => simp [intOf]; omega
    · go_wp2
      go_ret
      obtain rfl : j = n := by omega
      have e2 : xss.take j = xss := List.take_of_length_le (by rw [HX.out]; exact Nat.le_refl _)
      exact ⟨by rw [e2]; rfl, hq⟩

theorem heldR_nil (a : Option Addr) (cap : Nat) (k : Int) (w : World) :
    Calls Try.prog 39 #[.slice a 0 cap, .int .i64 k] w fun e w' => e = .returned (.int .i64 k) ∧ Qt w w' := by
  go_enter Try.func39, Try.ntmps39
  go_wp2
  refine wp_loop_rounds 1 ?_
  rw [rounds_succ]
  go_wp2
  go_ret
  exact ⟨rfl, Qt.refl _⟩

theorem heldR {lo hi : Nat} (v : Value) (xss : List (List Int)) (k : Int) (w : World) (h : RdR lo hi w v (marksR k xss)) (hk0 : 0 ≤ k) (hk1 : k + lens xss ≤ 17592186044416) :
    Calls Try.prog 39 #[v, .int .i64 k] w fun e w' => e = .returned (.int .i64 (k + lens xss)) ∧ Qt w w' := by
  obtain ⟨h1, h⟩ := h
  rw [marksR_len] at h1 h
  rcases h with ⟨a, cap, hx, rfl⟩ | ⟨b, off, cap, rfl, h0, hlo, hhi, hc⟩
  · have : xss.length = 0 := by have := marksR_len k xss; rw [hx] at this; simpa using this.symm
    have e := List.length_eq_zero_iff.1 this
    subst e
    exact (heldR_nil a cap k w).mono fun e w' ⟨he, hq⟩ => ⟨by rw [he]; simp [lens], hq⟩
  · exact heldR_ne xss.length b off cap xss k w h1 hk0 hk1 rfl hc

end Go.Proofs.Ytgcidkcedfliiaa
