/- DerivativeOfWhole of the program, for every list. -/
import Derived.Test.YtebgbplhcaocoaaImplDeriv
set_option linter.unusedSimpArgs false
set_option linter.unusedVariables false
set_option maxRecDepth 100000
namespace Go.Proofs.Ytebgbplhcaocoaa
open Go.RowKit

theorem times_more {c k : Int} : timesO (some c) (some k) = if moreB 0 k c then some (k * c) else none := by
  have e1 : numO (some c) = c := rfl
  have e2 : numO (some k) = k := rfl
  have e3 : c * k = k * c := Int.mul_comm _ _
  have e4 : fits c k = fits k c := by unfold fits; rw [e3]
  unfold timesO
  rw [e1, e2, e3, e4]
  cases hf : fits k c with
  | false => simp [moreB, hf]
  | true =>
    have hi : inW (k * c) = true := hf
    simp [moreB, hf, mk?, hi]

theorem trim_len (xs : List Int) : (trim xs).length ≤ xs.length := by unfold trim; exact List.length_take_le' _ _
theorem trim_mem {xs : List Int} {x : Int} (h : x ∈ trim xs) : x ∈ xs := List.mem_of_mem_take h

/-- the program's numbers are those of the model -/
theorem numsOf_der {xs : List Int} (hw : wholeB xs = true) (h0 : 0 < xs.length) : numsOf (derO xs (xs.length - 1)) = derivOf xs := by
  have hn := (wholeB_lim hw).1
  have hd : derivOf xs = if (List.range xs.length).all (fun i : Nat => moreB 0 (i : Int) (xs.getD i 0)) = false then ([], 3) else (trim (derL xs (xs.length - 1)), 0) := by
    unfold derivOf; rw [if_neg (by rw [hw]; simp)]
  rw [hd]
  have e0 : moreB 0 ((0 : Nat) : Int) (xs.getD 0 0) = true := by simp [moreB, fits, inW]
  cases hall : (List.range xs.length).all (fun i : Nat => moreB 0 (i : Int) (xs.getD i 0)) with
  | true =>
    have hok := derOk_all hall
    have em : derO xs (xs.length - 1) = (derL xs (xs.length - 1)).map some := by
      unfold derO derL
      rw [List.map_map]
      apply List.map_congr_left
      intro i hi
      have hi' := List.mem_range.1 hi
      rw [times_more]
      have := hok (i + 1) (by omega)
      have e2 : (((i + 1 : Nat) : Int)) = (i : Int) + 1 := by omega
      rw [e2] at this
      rw [if_pos this]
      rfl
    have e1 : ((derL xs (xs.length - 1)).map some).all (fun o : Option Int => !o.isNone) = true := by simp
    have e2 : ((derL xs (xs.length - 1)).map some).map numO = derL xs (xs.length - 1) := by rw [List.map_map]; exact List.map_id' _
    unfold numsOf
    rw [em, e1, e2]
    have := trim_len (derL xs (xs.length - 1))
    rw [derL_len] at this
    rw [if_neg (by simp), if_neg (by omega), if_neg (by simp)]
  | false =>
    rw [if_pos rfl]
    unfold numsOf
    rw [if_pos]
    rw [List.all_eq_false] at hall ⊢
    obtain ⟨i, hi, hm⟩ := hall
    have hi' := List.mem_range.1 hi
    cases i with
    | zero => exact absurd e0 (by simpa using hm)
    | succ j =>
      refine ⟨timesO (some (xs.getD (j + 1) 0)) (some ((j : Int) + 1)), ?_, ?_⟩
      · unfold derO
        exact List.mem_map.2 ⟨j, List.mem_range.2 (by omega), rfl⟩
      · have e2 : (((j + 1 : Nat) : Int)) = (j : Int) + 1 := by omega
        rw [e2] at hm
        rw [times_more, if_neg hm]
        simp

theorem derivOf_I64 (xs : List Int) (hw : wholeB xs = true) : ∀ x ∈ (derivOf xs).1, I64 x := by
  intro x hx
  unfold derivOf at hx
  rw [if_neg (by rw [hw]; simp)] at hx
  cases hall : (List.range xs.length).all (fun i : Nat => moreB 0 (i : Int) (xs.getD i 0)) with
  | false => rw [if_pos hall] at hx; simp at hx
  | true =>
    rw [if_neg (by rw [hall]; simp)] at hx
    have hx2 := trim_mem hx
    have hok := derOk_all hall
    cases hl : xs.length with
    | zero => rw [hl] at hx2; simp [derL] at hx2
    | succ m =>
      rw [hl] at hx2 hok
      exact derL_I64 hok x (by simpa using hx2)

end Go.Proofs.Ytebgbplhcaocoaa
