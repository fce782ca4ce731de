/- DegreesOf of the program. -/
import Derived.Test.YtgcidkcedfliiaaImplDegrees
set_option linter.unusedSimpArgs false
set_option linter.unusedVariables false
namespace Go.Proofs.Ytgcidkcedfliiaa
open Go.RowKit

theorem dgl_step (m : Nat) (xss : List (List Int)) (k i0 i1 : Nat) (hk : k < xss.length) (h0 : (xss.getD k []).getD 0 0 = (i0 : Int)) (h1 : (xss.getD k []).getD 1 0 = (i1 : Int)) (l0 : i0 < m) (l1 : i1 < m) :
    dgl m (xss.take (k+1)) = if i0 = i1 then (dgl m (xss.take k)).set i0 (.int .i64 (deg (xss.take k) i0 + 1 + 1)) else ((dgl m (xss.take k)).set i0 (.int .i64 (deg (xss.take k) i0 + 1))).set i1 (.int .i64 (deg (xss.take k) i1 + 1)) := by
  have hs : ∀ v : Int, deg (xss.take (k+1)) v = deg (xss.take k) v + (one ((i0 : Int) == v) + one ((i1 : Int) == v)) := by
    intro v
    rw [deg_step hk v]
    unfold dg
    rw [h0, h1]
  have ho : ∀ i j : Nat, one ((i : Int) == (j : Int)) = if i = j then 1 else 0 := by
    intro i j
    unfold one
    by_cases e : i = j
    · simp [e]
    · have : ¬ (i : Int) = (j : Int) := by omega
      simp [e, this]
  apply List.ext_getElem?
  intro j
  by_cases hj : j < m
  · rw [dgl_get m _ j hj, hs, ho, ho]
    by_cases e : i0 = i1
    · subst e
      rw [if_pos rfl, List.getElem?_set]
      by_cases e2 : i0 = j
      · subst e2
        simp [dgl, hj]
        omega
      · simp [e2, dgl_get m _ j hj]
    · rw [if_neg e, List.getElem?_set, List.getElem?_set]
      by_cases e2 : i1 = j
      · subst e2
        simp [e, dgl, hj]
      · by_cases e3 : i0 = j
        · subst e3
          simp [e2, dgl, hj]
        · simp [e2, e3, dgl_get m _ j hj]
  · have hl : ∀ ys, (dgl m ys)[j]? = none := fun ys => by simp [dgl, hj]
    rw [hl]
    by_cases e : i0 = i1
    · rw [if_pos e]; symm; rw [List.getElem?_eq_none_iff]; simp [dgl]; omega
    · rw [if_neg e]; symm; rw [List.getElem?_eq_none_iff]; simp [dgl]; omega

theorem edgesOfP {lo hi : Nat} (s : Int) (a : Option Addr) (n c : Nat) (xss : List (List Int)) (w : World) (h : RdR lo hi w (.slice a n c) xss) (hg : grB s xss = true) (hn : xss.length = n) (h0 : 0 < n) :
    Calls Try.prog 76 #[.agg #[.int .i64 s, .slice a n c]] w fun e w' => ∃ g c', e = .returned (.slice (some ⟨g, 0, none⟩) n c') ∧ w'.ownsRow w.heap.size 64 2 (.slice (some ⟨g, 0, none⟩) n c') n (flat (pairs xss)) ∧ Below w.heap.size w w' := by
  refine (edgesOf s a n c xss w h hg hn).mono fun e w' ⟨a', c', he, ho, hb⟩ => ?_
  have ho' := ho
  rcases ho.2 with ⟨hv, h1⟩ | ⟨g, cap, cur, hv, _⟩
  · omega
  · simp only [Value.slice.injEq] at hv
    obtain ⟨rfl, _, rfl⟩ := hv
    exact ⟨g, c', he, ho', hb⟩

end Go.Proofs.Ytgcidkcedfliiaa
