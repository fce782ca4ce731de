/- The laws' helpers on lists of numbers: marks are written, and are still there. -/
import Derived.Test.YtgcidkcedfliiaaBase
set_option linter.unusedSimpArgs false
set_option linter.unusedVariables false
namespace Go.Proofs.Ytgcidkcedfliiaa
open Go.RowKit

/-- k, k + 1, .. -/
def marks (k : Int) (n : Nat) : List Int := (List.range n).map (fun i : Nat => k + (i : Int))
theorem marks_len (k : Int) (n : Nat) : (marks k n).length = n := by simp [marks]
theorem marks_get {k : Int} {n j : Nat} (h : j < n) : (marks k n).getD j 0 = k + j := by
  simp [marks, List.getD, h]

def markTo (xs : List Int) (k : Int) (j : Nat) : List Value := (xs.mapIdx (fun i x => if i < j then k + (i : Int) else x)).map (Value.int .i64)
theorem markTo_zero (xs : List Int) (k : Int) : markTo xs k 0 = xs.map (Value.int .i64) := by
  unfold markTo
  congr 1
  apply List.ext_getElem?
  intro i
  simp
theorem markTo_all (xs : List Int) (k : Int) (n : Nat) (h : xs.length = n) : markTo xs k n = (marks k n).map (Value.int .i64) := by
  unfold markTo marks
  congr 1
  apply List.ext_getElem?
  intro i
  by_cases hi : i < n
  · have : i < xs.length := by omega
    simp [hi, List.getElem?_eq_getElem this]
  · have : xs.length ≤ i := by omega
    simp [hi, List.getElem?_eq_none this]
theorem markTo_step (xs : List Int) (k : Int) (n j : Nat) (h : xs.length = n) (hj : j < n) : (markTo xs k j).set j (.int .i64 (k + j)) = markTo xs k (j+1) := by
  unfold markTo
  apply List.ext_getElem?
  intro i
  have hl : j < xs.length := by omega
  by_cases e : j = i
  · subst e
    simp [List.getElem?_set, hl]
  · by_cases e2 : i < j
    · simp [List.getElem?_set, e, e2, show i < j + 1 by omega]
    · simp [List.getElem?_set, e, e2, show ¬ i < j + 1 by omega]
theorem markTo_get (xs : List Int) (k : Int) (n j : Nat) (h : xs.length = n) (hj : j < n) : ∃ x, (markTo xs k j)[j]? = some (.int .i64 x) := by
  have hl : j < xs.length := by omega
  exact ⟨xs[j], by simp [markTo, hl]⟩

theorem markI_ne (n g cap : Nat) (xs : List Int) (k : Int) (w : World) (hn : n ≤ 17592186044416) (hk0 : 0 ≤ k) (hk1 : k ≤ 35184372088832) (hx : xs.length = n)
    (lo hi : Nat) (hlo : lo ≤ g) (hhi : g < hi) (ho : w.ownsRow lo 2 1 (.slice (some ⟨g, 0, none⟩) n cap) n (xs.map (Value.int .i64))) :
    Calls Try.prog 29 #[.slice (some ⟨g, 0, none⟩) n cap, .int .i64 k] w fun e w' => e = .returned (.int .i64 (k + n)) ∧
      w'.ownsRow lo 2 1 (.slice (some ⟨g, 0, none⟩) n cap) n ((marks k n).map (Value.int .i64)) ∧ Chg lo hi w w' := by
  have HX := Lib.hid hx
  clear hx
  rw [← markTo_zero xs k] at ho
  go_enter Try.func29, Try.ntmps29
  go_wp2
  go_loopw [1, 5] (fun kk i wr => ∃ j : Nat, j ≤ n ∧ i = .int .i64 j ∧ kk = .int .i64 (k + j) ∧ wr.ownsRow lo 2 1 (.slice (some ⟨g, 0, none⟩) n cap) n (markTo xs k j) ∧ Chg lo hi w wr) (fun _ i _ => n - (intOf i).toNat)
  case atStart => exact ⟨0, Nat.zero_le _, rfl, by simp, ho, Chg.refl _ _ _⟩
  case round =>
    clear ho
    obtain ⟨j, hj, rfl, rfl, hown, hch⟩ := hrel
    by_cases hlt : j < n
    · obtain ⟨x, hx⟩ := markTo_get xs k n j HX.out hlt
      have h2 := (hown.cellAt j (by omega)).trans hx
      have h3 := hown.frozenAt j
      have hst := hown.stored j (.int .i64 (k + j))
      clear hx
      go_wp2
      go_roundw
      case rel => exact ⟨j+1, by omega, by go_num, by congr 1; omega, by rw [← markTo_step xs k n j HX.out hlt]; exact hst.1, hch.setCell ⟨hlo, hhi⟩ _⟩
      case measure => simp [intOf]; omega
    · go_wp2
      go_ret
      obtain rfl : j = n := by omega
      rw [markTo_all xs k j HX.out] at hown
      exact ⟨rfl, hown, hch⟩

theorem markI_nil (a : Option Addr) (cap : Nat) (k : Int) (w : World) :
    Calls Try.prog 29 #[.slice a 0 cap, .int .i64 k] w fun e w' => e = .returned (.int .i64 k) ∧ w = w' := by
  go_enter Try.func29, Try.ntmps29
  go_wp2
  refine wp_loop_rounds 1 ?_
  rw [rounds_succ]
  go_wp2
  go_ret
  exact ⟨rfl, rfl⟩

theorem markI {lo hi : Nat} (v : Value) (xs : List Int) (k : Int) (w : World) (h : OwI lo hi w v xs) (hk0 : 0 ≤ k) (hk1 : k ≤ 35184372088832) :
    Calls Try.prog 29 #[v, .int .i64 k] w fun e w' => e = .returned (.int .i64 (k + xs.length)) ∧ OwI lo hi w' v (marks k xs.length) ∧ Chg lo hi w w' := by
  obtain ⟨h1, h2, h3, hh⟩ := h
  have hI : ∀ x ∈ marks k xs.length, I64 x := by
    intro x hx
    simp only [marks, List.mem_map, List.mem_range] at hx
    obtain ⟨i, hi, rfl⟩ := hx
    unfold I64; omega
  have h3' := h3
  obtain ⟨_, h4⟩ := h3
  rcases h4 with ⟨h4, h5⟩ | ⟨g, cap, cur, hv, hg, hhp, hn, hcap, hsz, ht⟩
  · have e := List.length_eq_zero_iff.1 h5
    subst e
    subst h4
    refine (markI_nil none 0 k w).mono fun e w' ⟨he, hw⟩ => ⟨by rw [he]; simp, ?_, by rw [← hw]; exact Chg.refl _ _ _⟩
    rw [← hw]
    exact ⟨by simp [marks], by simp [marks], by simpa [marks] using h3', hh⟩
  · subst hv
    refine (markI_ne xs.length g cap xs k w h1 hk0 hk1 rfl lo hi hg (hh g rfl) h3').mono fun e w' ⟨he, ho, hc⟩ => ⟨he, ?_, hc⟩
    exact ⟨by rw [marks_len]; exact h1, hI, by rw [marks_len]; exact ho, hh⟩

theorem heldI_ne (n b off cap : Nat) (k : Int) (w : World) (hn : n ≤ 17592186044416) (hk0 : 0 ≤ k) (hk1 : k ≤ 35184372088832)
    (hc : ∀ j, j < n → w.cell? ⟨b, off + j, none⟩ = some (.int .i64 ((marks k n).getD j 0))) :
    Calls Try.prog 30 #[.slice (some ⟨b, off, none⟩) n cap, .int .i64 k] w fun e w' => e = .returned (.int .i64 (k + n)) ∧ Qt w w' := by
  have HC := Lib.hid hc
  clear hc
  go_enter Try.func30, Try.ntmps30
  go_wp2
  go_loopw [1, 5] (fun kk i wr => ∃ j : Nat, j ≤ n ∧ i = .int .i64 j ∧ kk = .int .i64 (k + j) ∧ Qt w wr) (fun _ i _ => n - (intOf i).toNat)
  case atStart => exact ⟨0, Nat.zero_le _, rfl, by simp, Qt.refl _⟩
  case round =>
    obtain ⟨j, hj, rfl, rfl, ⟨m, rfl⟩⟩ := hrel
    by_cases hlt : j < n
    · have h2 := HC.out j hlt
      rw [marks_get hlt] at h2
      go_wp2
      go_roundw
      case rel => exact ⟨j+1, by omega, by go_num, by congr 1; omega, (Qt.refl _).drewN _⟩
      case measure => simp [intOf]; omega
    · go_wp2
      go_ret
      obtain rfl : j = n := by omega
      exact ⟨rfl, (Qt.refl _).drewN _⟩

theorem heldI_nil (a : Option Addr) (cap : Nat) (k : Int) (w : World) :
    Calls Try.prog 30 #[.slice a 0 cap, .int .i64 k] w fun e w' => e = .returned (.int .i64 k) ∧ Qt w w' := by
  go_enter Try.func30, Try.ntmps30
  go_wp2
  refine wp_loop_rounds 1 ?_
  rw [rounds_succ]
  go_wp2
  go_ret
  exact ⟨rfl, Qt.refl _⟩

theorem heldI {lo hi : Nat} (v : Value) (n : Nat) (k : Int) (w : World) (h : RdI lo hi w v (marks k n)) (hk0 : 0 ≤ k) (hk1 : k ≤ 35184372088832) :
    Calls Try.prog 30 #[v, .int .i64 k] w fun e w' => e = .returned (.int .i64 (k + n)) ∧ Qt w w' := by
  obtain ⟨h1, h2, h⟩ := h
  rw [marks_len] at h1 h
  rcases h with ⟨a, cap, hx, rfl⟩ | ⟨b, off, cap, rfl, h0, hlo, hhi, hc⟩
  · have : n = 0 := by have := marks_len k n; rw [hx] at this; simpa using this.symm
    subst this
    exact (heldI_nil a cap k w).mono fun e w' ⟨he, hq⟩ => ⟨by rw [he]; simp, hq⟩
  · exact heldI_ne n b off cap k w h1 hk0 hk1 hc

end Go.Proofs.Ytgcidkcedfliiaa
