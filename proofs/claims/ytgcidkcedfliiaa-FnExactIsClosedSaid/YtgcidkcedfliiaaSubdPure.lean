/- What SubdivideEdge, DeleteEdge and ContractEdge answer. -/
import Derived.Test.YtgcidkcedfliiaaEdgeCode
import Derived.Test.YtgcidkcedfliiaaGraphWith
set_option linter.unusedSimpArgs false
set_option linter.unusedVariables false
namespace Go.Proofs.Ytgcidkcedfliiaa
open Go.RowKit

theorem unp_pairs {s : Int} {xss : List (List Int)} (h : grB s xss = true) : unp (pairs xss) = xss := by
  obtain ⟨_, _, _, h4⟩ := grB_iff h
  refine list_ext_getD (by simp [unp, pairs]) (fun i hi => ?_)
  have hi' : i < xss.length := by simpa [unp, pairs] using hi
  obtain ⟨h2, _⟩ := h4 i hi'
  have e1 : (unp (pairs xss)).getD i [] = [(xss.getD i []).getD 0 0, (xss.getD i []).getD 1 0] := by simp [unp, pairs, List.getD, List.getElem?_eq_getElem hi']
  rw [e1]
  generalize xss.getD i [] = e at *
  match e, h2 with
  | [a, b], _ => rfl
theorem pairs_len (xss : List (List Int)) : (pairs xss).length = xss.length := by simp [pairs]
theorem pairs_get {xss : List (List Int)} {k : Nat} (h : k < xss.length) : (pairs xss).getD k (0, 0) = ((xss.getD k []).getD 0 0, (xss.getD k []).getD 1 0) := by simp [pairs, List.getD, h]
theorem flat_set (es : List (Int × Int)) (k : Nat) (e : Int × Int) (h : k < es.length) : ((flat es).set (k * 2) (.int .i64 e.1)).set (k * 2 + 1) (.int .i64 e.2) = flat (es.set k e) := by
  induction es generalizing k with
  | nil => simp at h
  | cons a r ih =>
    cases k with
    | zero => simp [flat]
    | succ k =>
      have := ih k (by simpa using h)
      have e1 : (k + 1) * 2 = k * 2 + 2 := by omega
      rw [e1]
      simpa [flat] using this
theorem gr_I64 {s : Int} {xss : List (List Int)} (h : grB s xss = true) {k : Nat} (hk : k < xss.length) : I64 ((pairs xss).getD k (0, 0)).1 ∧ I64 ((pairs xss).getD k (0, 0)).2 := by
  obtain ⟨h1, h2, _, h4⟩ := grB_iff h
  obtain ⟨_, q2, q3, q4, q5⟩ := h4 k hk
  rw [pairs_get hk]
  refine ⟨?_, ?_⟩ <;> unfold I64 <;> simp only <;> omega

def subRows (s : Int) (xss : List (List Int)) (k : Nat) : List (List Int) := xss.set k [(xss.getD k []).getD 0 0, s] ++ [[s, (xss.getD k []).getD 1 0]]
def subOf (s : Int) (xss : List (List Int)) (k : Int) : (Int × List (List Int)) × Int :=
  if edgeCode s xss k ≠ 0 then ((0, []), edgeCode s xss k) else if s = 8 ∨ xss.length = 10 then ((0, []), 3) else ((s + 1, subRows s xss k.toNat), 0)
def subPairs (s : Int) (xss : List (List Int)) (k : Nat) : List (Int × Int) := (pairs xss).set k ((xss.getD k []).getD 0 0, s) ++ [(s, (xss.getD k []).getD 1 0)]
theorem subPairs_len (s : Int) (xss : List (List Int)) (k : Nat) : (subPairs s xss k).length = xss.length + 1 := by simp [subPairs, pairs_len]
theorem unp_sub {s : Int} {xss : List (List Int)} {k : Nat} (h : grB s xss = true) : unp (subPairs s xss k) = subRows s xss k := by
  have := unp_pairs h
  unfold unp at this
  simp only [unp, subPairs, subRows, List.map_append, List.map_set, this, List.map_cons, List.map_nil]
theorem getD_snocE {es : List (Int × Int)} {e : Int × Int} {j : Nat} (h : j < es.length + 1) : (es ++ [e]).getD j (0, 0) = if j < es.length then es.getD j (0, 0) else e := by
  by_cases hj : j < es.length
  · rw [if_pos hj]; simp only [List.getD]; rw [List.getElem?_append_left hj]
  · rw [if_neg hj]
    obtain rfl : j = es.length := by omega
    simp [List.getD]
theorem getD_setE {es : List (Int × Int)} {e : Int × Int} {j k : Nat} (h : k < es.length) : (es.set k e).getD j (0, 0) = if j = k then e else es.getD j (0, 0) := by
  by_cases hj : j = k
  · subst hj; simp [List.getD, h]
  · rw [if_neg hj]; simp [List.getD, List.getElem?_set, Ne.symm hj]
theorem sub_I64 {s : Int} {xss : List (List Int)} {k : Nat} (h : grB s xss = true) (hk : k < xss.length) : ∀ j, j < xss.length + 1 → I64 ((subPairs s xss k).getD j (0, 0)).1 ∧ I64 ((subPairs s xss k).getD j (0, 0)).2 := by
  intro j hj
  have hs : I64 s := by have := grB_iff h; unfold I64; omega
  have hk2 := gr_I64 h hk
  rw [pairs_get hk] at hk2
  unfold subPairs
  rw [getD_snocE (by rw [List.length_set, pairs_len]; exact hj), List.length_set, pairs_len]
  by_cases h1 : j < xss.length
  · rw [if_pos h1, getD_setE (by rw [pairs_len]; exact hk)]
    by_cases h2 : j = k
    · rw [if_pos h2]; exact ⟨hk2.1, hs⟩
    · rw [if_neg h2]; exact gr_I64 h h1
  · rw [if_neg h1]; exact ⟨hs, hk2.2⟩

end Go.Proofs.Ytgcidkcedfliiaa
