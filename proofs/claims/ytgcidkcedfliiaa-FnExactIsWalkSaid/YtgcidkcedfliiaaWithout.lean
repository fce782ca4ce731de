/- The program's graph without a leaf. -/
import Derived.Test.YtgcidkcedfliiaaLeaf
import Derived.Deep.RegionHeld3
set_option linter.unusedSimpArgs false
set_option linter.unusedVariables false
namespace Go.Proofs.Ytgcidkcedfliiaa
open Go.RowKit

theorem news2 (w : World) (t : TypeId) (x y : Value) : ∀ (j : Nat) (u : Value), [x, y][j]? = some u → (w.alloc (.cells #[x, y] t)).cell? (({ block := w.heap.size, off := 0 } : Addr).add j) = some u := by
  intro j u hj
  match j, hj with
  | 0, hj => simp at hj; subst hj; simp [Addr.add]
  | 1, hj => simp at hj; subst hj; simp [Addr.add]

def cutE (v : Int) (es : List (Int × Int)) : List (Int × Int) := (es.filter (fun e => e.1 != v && e.2 != v)).map (fun e => (low v e.1, low v e.2))
theorem unp_cutE (v : Int) (es : List (Int × Int)) : unp (cutE v es) = cutV v (unp es) := by
  induction es with
  | nil => rfl
  | cons e r ih =>
    unfold unp cutE cutV at ih ⊢
    simp only [List.map_cons, List.filter_cons, offV, List.getD_cons_zero, List.getD_cons_succ]
    by_cases h : (e.1 != v && e.2 != v) = true
    · rw [if_pos h, if_pos h]
      simp only [List.map_cons, ih]
      rfl
    · rw [if_neg h, if_neg h]; exact ih
theorem cutE_in {es : List (Int × Int)} {q : Nat} {v : Int} (hq : q < es.length) (h1 : ¬ (es.getD q (0, 0)).1 = v) (h2 : ¬ (es.getD q (0, 0)).2 = v) : cutE v (es.take (q + 1)) = cutE v (es.take q) ++ [(low v (es.getD q (0, 0)).1, low v (es.getD q (0, 0)).2)] := by
  unfold cutE
  rw [List.take_add_one, List.getElem?_eq_getElem hq, List.filter_append, List.map_append]
  have e : es.getD q (0, 0) = es[q] := by simp [List.getD, List.getElem?_eq_getElem hq]
  rw [e] at h1 h2
  simp [List.filter_cons, h1, h2, List.getD, List.getElem?_eq_getElem hq]
theorem cutE_out {es : List (Int × Int)} {q : Nat} {v : Int} (hq : q < es.length) (h : (es.getD q (0, 0)).1 = v ∨ (es.getD q (0, 0)).2 = v) : cutE v (es.take (q + 1)) = cutE v (es.take q) := by
  unfold cutE
  rw [List.take_add_one, List.getElem?_eq_getElem hq, List.filter_append, List.map_append]
  have e : es.getD q (0, 0) = es[q] := by simp [List.getD, List.getElem?_eq_getElem hq]
  rw [e] at h
  rcases h with h | h <;> simp [List.filter_cons, h]
theorem cutE_I64 {s v : Int} {xss : List (List Int)} (h : grB s xss = true) : ∀ j, j < (cutE v (pairs xss)).length → I64 ((cutE v (pairs xss)).getD j (0, 0)).1 ∧ I64 ((cutE v (pairs xss)).getD j (0, 0)).2 := by
  intro j hj
  have hs := grB_iff h
  have e : (cutE v (pairs xss)).getD j (0, 0) = (cutE v (pairs xss))[j] := by simp [List.getD, List.getElem?_eq_getElem hj]
  rw [e]
  have hm := List.getElem_mem hj
  simp only [cutE, List.mem_map, List.mem_filter] at hm
  obtain ⟨f, ⟨hf, _⟩, he⟩ := hm
  simp only [cutE]
  rw [← he]
  simp only [pairs, List.mem_map] at hf
  obtain ⟨r, hr, rfl⟩ := hf
  have := grB_mem h r hr
  unfold I64 low
  simp only
  constructor <;> constructor <;> (split <;> omega)

end Go.Proofs.Ytgcidkcedfliiaa
