/- DerivativeOfWhole of the model, for every list. -/
import Derived.Test.YtmccajkndjoooaaSpecDeriv
set_option linter.unusedSimpArgs false
set_option linter.unusedVariables false
namespace Go.Proofs.Ytmccajkndjoooaa
open Go.RowKit

set_option maxHeartbeats 800000 in
theorem specDeriv_ne {lo hi : Nat} (n b off cap : Nat) (xs : List Int) (w : World) (hx : xs.length = n) (h0 : 0 < n) (hr : RdI lo hi w (.slice (some ⟨b, off, none⟩) n cap) xs) (hw : wholeB xs = true)
    (hc : ∀ j, j < n → w.cell? ⟨b, off + j, none⟩ = some (.int .i64 (xs.getD j 0))) :
    Calls Try.prog 20 #[.slice (some ⟨b, off, none⟩) n cap] w fun e w' => ∃ a c, e = .returned (.tuple #[.slice a (derivOf xs).1.length c, .int .i64 (derivOf xs).2]) ∧ OwI w.heap.size w'.heap.size w' (.slice a (derivOf xs).1.length c) (derivOf xs).1 ∧ Below w.heap.size w w' := by
  have hn := (wholeB_lim hw).1
  rw [hx] at hn
  have HX := Lib.hid hx
  have HC := Lib.hid hc
  have HW := Lib.hid hw
  clear hx hc hw
  go_enter Try.func20, Try.ntmps20
  go_wp2_with fail
  refine (l01Poly _ _ _ hr).mono ?_
  rw [HW.out]
  rintro e w1 ⟨rfl, hq⟩
  clear hr
  go_wp2
  go_loopw [4, 5, 6] (fun i _ _ wr => ∃ k : Nat, k ≤ n ∧ i = .int .i64 k ∧ derOk xs k ∧ Qt w wr) (fun i _ _ _ => n - (intOf i).toNat)
  case atStart => exact ⟨0, Nat.zero_le _, rfl, fun i hi => by omega, hq⟩
  case round =>
    clear hq
    obtain ⟨k, hk, rfl, hok, hq⟩ := hrel
    have HOK := Lib.hid hok
    clear hok
    by_cases hlt : k < n
    · have h1 := hq.cell (HC.out k hlt)
      have hl := (wholeB_lim HW.out).2 k (by rw [HX.out]; exact hlt)
      generalize hx0 : xs.getD k 0 = x0 at *
      have H0 := Lib.hid hx0
      clear hx0
      cases hm : moreB 0 (k : Int) x0 with
      | true =>
        have HM := Lib.hid hm
        clear hm
        go_wp2_with fail
        refine (l01More _ _ _ (by unfold Lim; omega) (by unfold Lim; omega) hl _).mono ?_
        rintro e w3 ⟨⟨o3, ho3, rfl⟩, q3⟩
        rw [HM.out]
        have hq3 := hq.trans q3
        clear ho3
        go_wp2
        go_roundw
        case rel =>
          refine ⟨k+1, by omega, by go_num, fun i hi => ?_, hq3⟩
          by_cases e : i < k
          · exact HOK.out i e
          · obtain rfl : i = k := by omega
            rw [H0.out]; exact HM.out
        case measure => simp [intOf]; omega
      | false =>
        have HM := Lib.hid hm
        clear hm
        go_wp2_with fail
        refine (l01More _ _ _ (by unfold Lim; omega) (by unfold Lim; omega) hl _).mono ?_
        rintro e w3 ⟨⟨o3, ho3, rfl⟩, q3⟩
        rw [HM.out]
        have hB := (hq.trans q3).below
        clear ho3
        go_wp2
        go_ret2
        have e1 : derivOf xs = ([], 3) := by
          unfold derivOf
          rw [if_neg (by rw [HW.out]; simp), if_pos (derOk_not (k := k) (by rw [HX.out]; exact hlt) (by rw [H0.out]; exact HM.out))]
        rw [e1]
        exact ⟨none, 0, rfl, ⟨by simp, by simp, World.ownsRow_nil _ _ _ _, fun q hq => by simp [Value.ownBlock] at hq⟩, hB⟩
    · obtain rfl : k = n := by omega
      have hb := hq.below
      go_wp2_with fail
      refine (l01Derive_ne k b off cap xs wr HX.out (by omega) h0 HOK.out (fun j hj => hq.cell (HC.out j hj))).mono ?_
      rintro e w2 ⟨a2, c2, rfl, o2, b2⟩
      have hB := hb.next b2
      have o3 := o2.lower hb.size
      clear o2 b2
      have e1 : derivOf xs = (trim (derL xs (k - 1)), 0) := by
        unfold derivOf
        have : (List.range xs.length).all (fun i : Nat => moreB 0 (i : Int) (xs.getD i 0)) = true := by
          rw [List.all_eq_true]
          intro i hi
          exact HOK.out i (by have := List.mem_range.1 hi; rw [HX.out] at this; exact this)
        rw [if_neg (by rw [HW.out]; simp), if_neg (by rw [this]; simp), HX.out]
      have E1 := Lib.hid e1
      clear e1
      go_wp2
      go_ret2
      rw [E1.out]
      exact ⟨a2, c2, rfl, o3, hB⟩

theorem specDeriv_bad (v : Value) (xs : List Int) (w : World) {lo hi : Nat} (hr : RdI lo hi w v xs) (hw : wholeB xs = false) :
    Calls Try.prog 20 #[v] w fun e w' => e = .returned (.tuple #[.slice none 0 0, .int .i64 1]) ∧ Qt w w' := by
  have HW := Lib.hid hw
  clear hw
  go_enter Try.func20, Try.ntmps20
  go_wp2_with fail
  refine (l01Poly _ _ _ hr).mono ?_
  rw [HW.out]
  rintro e w1 ⟨rfl, q1⟩
  go_wp2
  go_ret2
  exact ⟨rfl, q1⟩

theorem specDeriv_nil {lo hi : Nat} (a : Option Addr) (cap : Nat) (w : World) (hr : RdI lo hi w (.slice a 0 cap) []) :
    Calls Try.prog 20 #[.slice a 0 cap] w fun e w' => ∃ a c, e = .returned (.tuple #[.slice a 0 c, .int .i64 0]) ∧ OwI w.heap.size w'.heap.size w' (.slice a 0 c) [] ∧ Below w.heap.size w w' := by
  have hw0 : wholeB [] = true := rfl
  have HW := Lib.hid hw0
  clear hw0
  go_enter Try.func20, Try.ntmps20
  go_wp2_with fail
  refine (l01Poly _ _ _ hr).mono ?_
  rw [HW.out]
  rintro e w1 ⟨rfl, hq⟩
  have hb := hq.below
  go_wp2
  refine wp_loop_rounds 1 ?_
  rw [rounds_succ]
  go_wp2_with fail
  refine (l01Derive_nil a cap _).mono ?_
  rintro e w2 ⟨a2, c2, rfl, o2, b2⟩
  have hB := hb.next b2
  have o3 := o2.lower hb.size
  clear o2 b2
  go_wp2
  go_ret2
  exact ⟨a2, c2, rfl, o3, hB⟩

theorem specDeriv {lo hi : Nat} (a : Option Addr) (n c : Nat) (xs : List Int) (w : World) (hr : RdI lo hi w (.slice a n c) xs) (hn : xs.length = n) :
    Calls Try.prog 20 #[.slice a n c] w fun e w' => ∃ a' c', e = .returned (.tuple #[.slice a' (derivOf xs).1.length c', .int .i64 (derivOf xs).2]) ∧ OwI w.heap.size w'.heap.size w' (.slice a' (derivOf xs).1.length c') (derivOf xs).1 ∧ Below w.heap.size w w' := by
  cases hw : wholeB xs with
  | false =>
    have e : derivOf xs = ([], 1) := by unfold derivOf; rw [if_pos hw]
    rw [e]
    exact (specDeriv_bad _ xs w hr hw).mono fun e w' ⟨he, hq⟩ => ⟨none, 0, he, ⟨by simp, by simp, World.ownsRow_nil _ _ _ _, fun q hq => by simp [Value.ownBlock] at hq⟩, hq.below⟩
  | true =>
    have hr' := hr
    obtain ⟨h1, h2, ⟨a', cap, rfl, hv⟩ | ⟨b, off, cap, hv, h0, hlo, hhi, hc⟩⟩ := hr
    · simp only [Value.slice.injEq] at hv
      obtain ⟨rfl, rfl, rfl⟩ := hv
      exact specDeriv_nil a c w hr'
    · simp only [Value.slice.injEq] at hv
      obtain ⟨rfl, rfl, rfl⟩ := hv
      exact specDeriv_ne _ b off c xs w rfl h0 hr' hw hc

end Go.Proofs.Ytmccajkndjoooaa
