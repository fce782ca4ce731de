/- DerivativeOfWhole of the program, for every list. -/
import Derived.Test.YtmccajkndjoooaaImplDeriv
set_option linter.unusedSimpArgs false
set_option linter.unusedVariables false
namespace Go.Proofs.Ytmccajkndjoooaa
open Go.RowKit

theorem times_more {c k : Int} : timesO (some c) (some k) = if moreB 0 k c then some (k * c) else none := by
  have e1 : numO (some c) = c := rfl
  have e2 : numO (some k) = k := rfl
  have e3 : c * k = k * c := Int.mul_comm _ _
  have e4 : fits c k = fits k c := by unfold fits; rw [e3]
  unfold timesO
  rw [e1, e2, e3, e4]
  cases hf : fits k c with
  | false => simp [moreB, hf]
  | true =>
    have hi : inW (k * c) = true := hf
    simp [moreB, hf, mk?, hi]

theorem trim_len (xs : List Int) : (trim xs).length ≤ xs.length := by unfold trim; exact List.length_take_le' _ _
theorem trim_mem {xs : List Int} {x : Int} (h : x ∈ trim xs) : x ∈ xs := List.mem_of_mem_take h

/-- the program's numbers are those of the model -/
theorem numsOf_der {xs : List Int} (hw : wholeB xs = true) (h0 : 0 < xs.length) : numsOf (derO xs (xs.length - 1)) = derivOf xs := by
  have hn := (wholeB_lim hw).1
  have hd : derivOf xs = if (List.range xs.length).all (fun i : Nat => moreB 0 (i : Int) (xs.getD i 0)) = false then ([], 3) else (trim (derL xs (xs.length - 1)), 0) := by
    unfold derivOf; rw [if_neg (by rw [hw]; simp)]
  rw [hd]
  have e0 : moreB 0 ((0 : Nat) : Int) (xs.getD 0 0) = true := by simp [moreB, fits, inW]
  cases hall : (List.range xs.length).all (fun i : Nat => moreB 0 (i : Int) (xs.getD i 0)) with
  | true =>
    have hok := derOk_all hall
    have em : derO xs (xs.length - 1) = (derL xs (xs.length - 1)).map some := by
      unfold derO derL
      rw [List.map_map]
      apply List.map_congr_left
      intro i hi
      have hi' := List.mem_range.1 hi
      rw [times_more]
      have := hok (i + 1) (by omega)
      have e2 : (((i + 1 : Nat) : Int)) = (i : Int) + 1 := by omega
      rw [e2] at this
      rw [if_pos this]
      rfl
    have e1 : ((derL xs (xs.length - 1)).map some).all (fun o : Option Int => !o.isNone) = true := by simp
    have e2 : ((derL xs (xs.length - 1)).map some).map numO = derL xs (xs.length - 1) := by rw [List.map_map]; exact List.map_id' _
    unfold numsOf
    rw [em, e1, e2]
    have := trim_len (derL xs (xs.length - 1))
    rw [derL_len] at this
    rw [if_neg (by simp), if_neg (by omega), if_neg (by simp)]
  | false =>
    rw [if_pos rfl]
    unfold numsOf
    rw [if_pos]
    rw [List.all_eq_false] at hall ⊢
    obtain ⟨i, hi, hm⟩ := hall
    have hi' := List.mem_range.1 hi
    cases i with
    | zero => exact absurd e0 (by simpa using hm)
    | succ j =>
      refine ⟨timesO (some (xs.getD (j + 1) 0)) (some ((j : Int) + 1)), ?_, ?_⟩
      · unfold derO
        exact List.mem_map.2 ⟨j, List.mem_range.2 (by omega), rfl⟩
      · have e2 : (((j + 1 : Nat) : Int)) = (j : Int) + 1 := by omega
        rw [e2] at hm
        rw [times_more, if_neg hm]
        simp

theorem derivOf_I64 (xs : List Int) (hw : wholeB xs = true) : ∀ x ∈ (derivOf xs).1, I64 x := by
  intro x hx
  unfold derivOf at hx
  rw [if_neg (by rw [hw]; simp)] at hx
  cases hall : (List.range xs.length).all (fun i : Nat => moreB 0 (i : Int) (xs.getD i 0)) with
  | false => rw [if_pos hall] at hx; simp at hx
  | true =>
    rw [if_neg (by rw [hall]; simp)] at hx
    have hx2 := trim_mem hx
    have hok := derOk_all hall
    cases hl : xs.length with
    | zero => rw [hl] at hx2; simp [derL] at hx2
    | succ m =>
      rw [hl] at hx2 hok
      exact derL_I64 hok x (by simpa using hx2)

theorem implDeriv_bad (v : Value) (xs : List Int) (w : World) {lo hi : Nat} (hr : RdI lo hi w v xs) (hw : wholeB xs = false) :
    Calls Try.prog 21 #[v] w fun e w' => e = .returned (.tuple #[.slice none 0 0, .int .i64 1]) ∧ Below w.heap.size w w' := by
  have HW := Lib.hid hw
  clear hw
  go_enter Try.func21, Try.ntmps21
  go_wp2_with fail
  refine (implIsWhole _ _ _ hr).mono ?_
  rw [HW.out]
  rintro e w1 ⟨rfl, q1⟩
  have hB := q1.below
  go_wp2
  go_ret2
  exact ⟨rfl, hB⟩

theorem implDeriv_nil {lo hi : Nat} (a : Option Addr) (cap : Nat) (w : World) (hr : RdI lo hi w (.slice a 0 cap) []) :
    Calls Try.prog 21 #[.slice a 0 cap] w fun e w' => ∃ a c, e = .returned (.tuple #[.slice a 0 c, .int .i64 0]) ∧ OwI w.heap.size w'.heap.size w' (.slice a 0 c) [] ∧ Below w.heap.size w w' := by
  have hw0 : wholeB [] = true := rfl
  have HW := Lib.hid hw0
  clear hw0
  go_enter Try.func21, Try.ntmps21
  go_wp2_with fail
  refine (implIsWhole _ _ _ hr).mono ?_
  rw [HW.out]
  rintro e w1 ⟨rfl, hq⟩
  have hB1 := hq.below
  go_wp2_with fail
  refine (wholesOf _ [] _ (hr.below hB1)).mono ?_
  rintro e w2 ⟨a2, c2, rfl, o2, b2⟩
  have hB2 := hB1.next b2
  clear o2 b2 hB1
  go_wp2
  refine wp_loop_rounds 1 ?_
  rw [rounds_succ]
  go_wp2_with fail
  refine (numbersOf_nil _).mono ?_
  rintro e w3 ⟨a3, c3, rfl, o3, b3⟩
  have hB3 := hB2.next b3
  have o4 := o3.lower hB2.size
  clear o3 b3 hB2
  go_wp2
  go_ret2
  exact ⟨a3, c3, rfl, o4, hB3⟩

theorem implDeriv {lo hi : Nat} (a : Option Addr) (n c : Nat) (xs : List Int) (w : World) (hr : RdI lo hi w (.slice a n c) xs) (hn : xs.length = n) :
    Calls Try.prog 21 #[.slice a n c] w fun e w' => ∃ a' c', e = .returned (.tuple #[.slice a' (derivOf xs).1.length c', .int .i64 (derivOf xs).2]) ∧ OwI w.heap.size w'.heap.size w' (.slice a' (derivOf xs).1.length c') (derivOf xs).1 ∧ Below w.heap.size w w' := by
  cases hw : wholeB xs with
  | false =>
    have e : derivOf xs = ([], 1) := by unfold derivOf; rw [if_pos hw]
    rw [e]
    exact (implDeriv_bad _ xs w hr hw).mono fun e w' ⟨he, hb⟩ => ⟨none, 0, he, ⟨by simp, by simp, World.ownsRow_nil _ _ _ _, fun q hq => by simp [Value.ownBlock] at hq⟩, hb⟩
  | true =>
    by_cases h0 : 0 < n
    · have e1 := numsOf_der hw (by omega)
      rw [hn] at e1
      have := implDeriv_ne n _ xs w hn h0 hr hw (by rw [e1]; exact derivOf_I64 xs hw)
      rw [e1] at this
      exact this
    · obtain rfl : n = 0 := by omega
      have e := List.length_eq_zero_iff.1 hn
      subst e
      exact implDeriv_nil a c w hr

end Go.Proofs.Ytmccajkndjoooaa
