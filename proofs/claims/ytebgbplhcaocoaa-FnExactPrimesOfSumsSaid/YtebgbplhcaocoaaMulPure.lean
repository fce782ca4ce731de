/- MultiplyWhole: the program's sums of products are those of the model. -/
import Derived.Test.YtebgbplhcaocoaaAddEq
set_option linter.unusedSimpArgs false
set_option linter.unusedVariables false
set_option maxRecDepth 100000
namespace Go.Proofs.Ytebgbplhcaocoaa
open Go.RowKit

/-- the number at u^p behind the first i numbers of f -/
def accO (f g : List Int) (p : Nat) : Nat → Option Int
  | 0 => some 0
  | i + 1 => if i ≤ p ∧ p - i < g.length then plusO (accO f g p i) (timesO (some (f.getD i 0)) (some (g.getD (p - i) 0))) else accO f g p i
theorem accO_succ (f g : List Int) (p i : Nat) : accO f g p (i + 1) = if i ≤ p ∧ p - i < g.length then plusO (accO f g p i) (timesO (some (f.getD i 0)) (some (g.getD (p - i) 0))) else accO f g p i := rfl
theorem plus_none (o : Option Int) : plusO none o = none := by simp [plusO, mk?]
theorem accO_none {f g : List Int} {p i : Nat} (h : accO f g p i = none) : ∀ j, i ≤ j → accO f g p j = none := by
  intro j hj
  induction j with
  | zero => obtain rfl : i = 0 := by omega
            exact h
  | succ j ih =>
    by_cases e : i = j + 1
    · rw [← e]; exact h
    · rw [accO_succ, ih (by omega), plus_none]; simp
theorem accO_stop {f g : List Int} {p i : Nat} (h : p < i) : ∀ j, i ≤ j → accO f g p j = accO f g p i := by
  intro j hj
  induction j with
  | zero => obtain rfl : i = 0 := by omega
            rfl
  | succ j ih =>
    by_cases e : i = j + 1
    · rw [← e]
    · rw [accO_succ, if_neg (by omega)]; exact ih (by omega)
theorem accO_lim (f g : List Int) (p i : Nat) : OLim (accO f g p i) := by
  induction i with
  | zero => exact OLim.some (by unfold Lim; omega)
  | succ i ih =>
    rw [accO_succ]
    split
    · exact plusO_lim _ _
    · exact ih
theorem plus_prod {s a b : Int} : plusO (some s) (timesO (some a) (some b)) = if moreB s a b then some (s + a * b) else none := by
  have e : moreB s a b = moreB s b a := by
    unfold moreB fits
    rw [Int.mul_comm a b]
  rw [plus_more, e, Int.mul_comm a b]

def sumsO (f g : List Int) : List (Option Int) := (List.range (f.length + g.length - 1)).map (fun p : Nat => accO f g p f.length)
def mulO (f g : List Int) : List (Option Int) := if f.length = 0 ∨ g.length = 0 then [] else sumsO f g
def mulOf (f g : List Int) : List Int × Int :=
  if (wholeB f && wholeB g) = false then ([], 1) else if f.length = 0 ∨ g.length = 0 then ([], 0) else if 40 < f.length + g.length - 1 then ([], 3)
  else if (sumsO f g).all (fun o => !o.isNone) = false then ([], 3) else (trim ((sumsO f g).map numO), 0)
theorem sumsO_len (f g : List Int) : (sumsO f g).length = f.length + g.length - 1 := by simp [sumsO]
theorem sumsO_get {f g : List Int} {p : Nat} (h : p < f.length + g.length - 1) (d : Option Int) : (sumsO f g).getD p d = accO f g p f.length := by simp [sumsO, List.getD, h]
theorem wholeB_last {f : List Int} (h : wholeB f = true) (h0 : 0 < f.length) : f.getD (f.length - 1) 0 ≠ 0 := by
  simp only [wholeB, Bool.and_eq_true, lastOk, Bool.or_eq_true, decide_eq_true_eq, bne_iff_ne] at h
  rcases h.2.2 with h | h
  · rw [h] at h0; simp at h0
  · exact h
theorem trim_full {xs : List Int} (h0 : 0 < xs.length) (h : xs.getD (xs.length - 1) 0 ≠ 0) : (trim xs).length = xs.length := by
  unfold trim
  obtain ⟨k, hk⟩ : ∃ k, xs.length = k + 1 := ⟨xs.length - 1, by omega⟩
  have : tl xs xs.length = xs.length := by
    rw [hk] at h ⊢
    simp only [Nat.add_sub_cancel] at h
    unfold tl
    rw [if_neg h]
  rw [this, List.length_take]; omega
theorem acc_last {f g : List Int} (hf : 0 < f.length) (hg : 0 < g.length) : accO f g (f.length + g.length - 2) f.length = plusO (some 0) (timesO (some (f.getD (f.length - 1) 0)) (some (g.getD (g.length - 1) 0))) := by
  have h1 : ∀ i, i ≤ f.length - 1 → accO f g (f.length + g.length - 2) i = some 0 := by
    intro i hi
    induction i with
    | zero => rfl
    | succ i ih => rw [accO_succ, if_neg (by omega)]; exact ih (by omega)
  have e : f.length = (f.length - 1) + 1 := by omega
  have e2 : f.length + g.length - 2 - (f.length - 1) = g.length - 1 := by omega
  conv => lhs; rw [show accO f g (f.length + g.length - 2) f.length = accO f g (f.length + g.length - 2) ((f.length - 1) + 1) by rw [← e]]
  rw [accO_succ, if_pos (by omega), h1 _ (Nat.le_refl _), e2]

theorem numsOf_mul {f g : List Int} (hf : wholeB f = true) (hg : wholeB g = true) : numsOf (mulO f g) = mulOf f g := by
  unfold mulOf
  rw [if_neg (by rw [hf, hg]; simp)]
  unfold mulO
  by_cases h0 : f.length = 0 ∨ g.length = 0
  · rw [if_pos h0, if_pos h0]; rfl
  · rw [if_neg h0, if_neg h0]
    unfold numsOf
    have hl : ((sumsO f g).map numO).length = f.length + g.length - 1 := by rw [List.length_map, sumsO_len]
    cases hall : (sumsO f g).all (fun o => !o.isNone) with
    | false => simp
    | true =>
      rw [if_neg (by simp)]
      by_cases hb : 40 < f.length + g.length - 1
      · rw [if_pos hb, if_pos]
        rw [trim_full (by omega), hl]
        · exact hb
        · rw [hl]
          have hin : f.length + g.length - 1 - 1 < f.length + g.length - 1 := by omega
          have e1 : ((sumsO f g).map numO).getD (f.length + g.length - 1 - 1) 0 = numO (accO f g (f.length + g.length - 2) f.length) := by
            have e3 : f.length + g.length - 1 - 1 = f.length + g.length - 2 := by omega
            rw [e3] at hin ⊢
            simp [sumsO, List.getD, hin]
          rw [e1, acc_last (by omega) (by omega), plus_prod]
          have hs : (accO f g (f.length + g.length - 2) f.length).isNone = false := by
            rw [List.all_eq_true] at hall
            have := hall _ (List.mem_map.2 ⟨f.length + g.length - 2, List.mem_range.2 (by omega), rfl⟩)
            simpa using this
          rw [acc_last (by omega) (by omega), plus_prod] at hs
          cases hm : moreB 0 (f.getD (f.length - 1) 0) (g.getD (g.length - 1) 0) with
          | false => rw [hm] at hs; simp at hs
          | true =>
            rw [if_pos rfl]
            have h1 := wholeB_last hf (by omega)
            have h2 := wholeB_last hg (by omega)
            simp only [numO, Option.getD_some, Int.zero_add]
            exact Int.mul_ne_zero h1 h2
      · have := trim_len ((sumsO f g).map numO)
        rw [if_neg hb, if_neg (by omega), if_neg (by simp)]

theorem sums_I64 {f g : List Int} : ∀ x ∈ (sumsO f g).map numO, I64 x := by
  intro x hx
  simp only [sumsO, List.map_map, List.mem_map, List.mem_range, Function.comp] at hx
  obtain ⟨p, _, rfl⟩ := hx
  have := (accO_lim f g p f.length).num
  unfold I64; omega
theorem mulOf_I64 {f g : List Int} : ∀ x ∈ (mulOf f g).1, I64 x := by
  intro x hx
  unfold mulOf at hx
  split at hx
  · simp at hx
  · split at hx
    · simp at hx
    · split at hx
      · simp at hx
      · split at hx
        · simp at hx
        · exact sums_I64 x (trim_mem hx)

/-- behind i whole rounds, and j numbers of g in round i -/
def prodT (f g : List Int) (i j : Nat) : List (Option Int) := (List.range (f.length + g.length - 1)).map (fun p : Nat => if i ≤ p ∧ p - i < j then accO f g p (i + 1) else accO f g p i)
theorem prodT_len (f g : List Int) (i j : Nat) : (prodT f g i j).length = f.length + g.length - 1 := by simp [prodT]
theorem prodT_get {f g : List Int} {i j p : Nat} (h : p < f.length + g.length - 1) (d : Option Int) : (prodT f g i j).getD p d = if i ≤ p ∧ p - i < j then accO f g p (i + 1) else accO f g p i := by simp [prodT, List.getD, h]
theorem prodT_zero (f g : List Int) : prodT f g 0 0 = List.replicate (f.length + g.length - 1) (some 0) := by
  apply List.ext_getElem
  · simp [prodT]
  · intro p h1 h2
    simp [prodT, accO]
theorem prodT_next (f g : List Int) (i : Nat) : prodT f g i g.length = prodT f g (i + 1) 0 := by
  unfold prodT
  apply List.map_congr_left
  intro p _
  by_cases h : i ≤ p ∧ p - i < g.length
  · rw [if_pos h, if_neg (by omega)]
  · rw [if_neg h, if_neg (by omega), accO_succ, if_neg h]
theorem prodT_all (f g : List Int) : prodT f g f.length 0 = sumsO f g := by
  unfold prodT sumsO
  apply List.map_congr_left
  intro p _
  rw [if_neg (by omega)]
theorem prodT_step (f g : List Int) (i j : Nat) (hi : i < f.length) (hj : j < g.length) : (prodT f g i j).set (i + j) (plusO (accO f g (i + j) i) (timesO (some (f.getD i 0)) (some (g.getD j 0)))) = prodT f g i (j + 1) := by
  apply List.ext_getElem?
  intro p
  rw [List.getElem?_set]
  by_cases e : i + j = p
  · subst e
    rw [if_pos rfl, if_pos (by rw [prodT_len]; omega)]
    have hlt : i + j < f.length + g.length - 1 := by omega
    have e2 : i + j - i = j := by omega
    simp only [prodT, List.getElem?_map, List.getElem?_range hlt, Option.map_some]
    rw [if_pos (by omega), accO_succ, if_pos (by omega), e2]
  · rw [if_neg e]
    by_cases hp : p < f.length + g.length - 1
    · simp only [prodT, List.getElem?_map, List.getElem?_range hp, Option.map_some]
      by_cases h : i ≤ p ∧ p - i < j
      · rw [if_pos h, if_pos (by omega)]
      · rw [if_neg h, if_neg (by omega)]
    · rw [List.getElem?_eq_none (by rw [prodT_len]; omega), List.getElem?_eq_none (by rw [prodT_len]; omega)]
theorem prodT_at (f g : List Int) (i j : Nat) (hi : i < f.length) (hj : j < g.length) (d : Option Int) : (prodT f g i j).getD (i + j) d = accO f g (i + j) i := by
  rw [prodT_get (by omega), if_neg (by omega)]

end Go.Proofs.Ytebgbplhcaocoaa
