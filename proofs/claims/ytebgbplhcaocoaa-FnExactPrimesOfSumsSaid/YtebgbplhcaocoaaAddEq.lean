/- AddWhole: the program's sums are those of the model; both, for every argument. -/
import Derived.Test.YtebgbplhcaocoaaCoreA
import Derived.Test.YtebgbplhcaocoaaSpecAdd2
import Derived.Test.YtebgbplhcaocoaaImplAdd
set_option linter.unusedSimpArgs false
set_option linter.unusedVariables false
set_option maxRecDepth 100000
namespace Go.Proofs.Ytebgbplhcaocoaa
open Go.RowKit

theorem at_somes (f : List Int) (i : Nat) : atO (f.map some) i = some (f.getD i 0) := by
  unfold atO
  by_cases h : i < f.length
  · simp [List.getD, List.getElem?_eq_getElem h]
  · simp [List.getD, List.getElem?_eq_none (Nat.le_of_not_lt h)]
theorem at_scaled (g : List Int) (k : Int) (i : Nat) : atO (scaledL (g.map some) k) i = if i < g.length then timesO (some (g.getD i 0)) (some k) else some 0 := by
  unfold atO scaledL
  by_cases h : i < g.length
  · rw [if_pos h]; simp [List.getD, List.getElem?_eq_getElem h]
  · rw [if_neg h]; simp [List.getD, List.getElem?_eq_none (Nat.le_of_not_lt h)]
theorem plus_more {s k c : Int} : plusO (some s) (timesO (some c) (some k)) = if moreB s k c then some (s + k * c) else none := by
  rw [times_more]
  cases hf : fits k c with
  | false => simp [moreB, hf, plusO, mk?]
  | true =>
    have hi : inW (k * c) = true := hf
    have hm : moreB 0 k c = true := by simp [moreB, hf, hi]
    rw [if_pos hm]
    simp only [plusO, mk?, numO, moreB, hf, Option.getD_some, Option.isNone_some, Bool.or_self, Bool.true_and, Bool.false_or]
    cases inW (s + k * c) <;> simp
theorem plus_zero {s : Int} (h : Lim s) : plusO (some s) (some 0) = some s := by
  have : inW s = true := by unfold inW; rw [decide_eq_true h.1, decide_eq_true h.2]; rfl
  simp [plusO, mk?, numO, this]
theorem addO_get (f g : List Int) (k : Int) (i : Nat) (hf : wholeB f = true) : plusO (atO (f.map some) i) (atO (scaledL (g.map some) k) i) = if i < g.length then (if moreB (f.getD i 0) k (g.getD i 0) then some (f.getD i 0 + k * g.getD i 0) else none) else some (f.getD i 0) := by
  rw [at_somes, at_scaled]
  by_cases h : i < g.length
  · rw [if_pos h, if_pos h, plus_more]
  · rw [if_neg h, if_neg h, plus_zero (getD_lim hf i)]

theorem numsOf_add {f g : List Int} {k : Int} (hf : wholeB f = true) (hg : wholeB g = true) (hk : (decide (-1000 ≤ k) && decide (k ≤ 1000)) = true) : numsOf (addO f g k) = addOf f g k := by
  have hn := (wholeB_lim hf).1
  have hm := (wholeB_lim hg).1
  have hd : addOf f g k = if (List.range g.length).all (fun i : Nat => moreB (f.getD i 0) k (g.getD i 0)) = false then ([], 3) else (trim (addT f g k (max f.length g.length) g.length), 0) := by
    unfold addOf; rw [if_neg (by rw [hf, hg]; simp), if_neg (by rw [hk]; simp)]
  have ha : addO f g k = (List.range (max f.length g.length)).map (fun i : Nat => if i < g.length then (if moreB (f.getD i 0) k (g.getD i 0) then some (f.getD i 0 + k * g.getD i 0) else none) else some (f.getD i 0)) := by
    unfold addO plusL
    rw [scaledL_len, List.length_map, List.length_map]
    apply List.map_congr_left
    intro i _
    exact addO_get f g k i hf
  rw [hd]
  cases hall : (List.range g.length).all (fun i : Nat => moreB (f.getD i 0) k (g.getD i 0)) with
  | true =>
    have hok : ∀ i, i < g.length → moreB (f.getD i 0) k (g.getD i 0) = true := fun i hi => by
      rw [List.all_eq_true] at hall
      exact hall i (List.mem_range.2 hi)
    have em : addO f g k = (addT f g k (max f.length g.length) g.length).map some := by
      rw [ha]
      unfold addT
      rw [List.map_map]
      apply List.map_congr_left
      intro i _
      by_cases h : i < g.length
      · simp only [Function.comp, if_pos h, if_pos (hok i h)]
      · simp only [Function.comp, if_neg h]
    have e1 : ((addT f g k (max f.length g.length) g.length).map some).all (fun o : Option Int => !o.isNone) = true := by simp
    have e2 : ((addT f g k (max f.length g.length) g.length).map some).map numO = addT f g k (max f.length g.length) g.length := by rw [List.map_map]; exact List.map_id' _
    unfold numsOf
    rw [em, e1, e2]
    have := trim_len (addT f g k (max f.length g.length) g.length)
    rw [addT_len] at this
    rw [if_neg (by simp), if_neg (by omega), if_neg (by simp)]
  | false =>
    rw [if_pos rfl]
    unfold numsOf
    rw [if_pos]
    rw [List.all_eq_false] at hall ⊢
    obtain ⟨i, hi, hmm⟩ := hall
    have hi' := List.mem_range.1 hi
    refine ⟨none, ?_, by simp⟩
    rw [ha]
    exact List.mem_map.2 ⟨i, List.mem_range.2 (by omega), by rw [if_pos hi', if_neg hmm]⟩

theorem addOf_I64 {f g : List Int} {k : Int} (hf : wholeB f = true) : ∀ x ∈ (addOf f g k).1, I64 x := by
  intro x hx
  unfold addOf at hx
  split at hx
  · simp at hx
  · split at hx
    · simp at hx
    · split at hx
      · simp at hx
      · rename_i hall
        have hx2 := trim_mem hx
        simp only [addT, List.mem_map, List.mem_range] at hx2
        obtain ⟨i, hi, rfl⟩ := hx2
        by_cases e : i < g.length
        · rw [if_pos e]
          refine lim_I64 (moreB_lim ?_)
          have : (List.range g.length).all (fun i : Nat => moreB (f.getD i 0) k (g.getD i 0)) = true := by simpa using hall
          rw [List.all_eq_true] at this
          exact this i (List.mem_range.2 e)
        · rw [if_neg e]; exact lim_I64 (getD_lim hf i)

end Go.Proofs.Ytebgbplhcaocoaa
