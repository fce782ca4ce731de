/- ContractEdge of the program. -/
import Derived.Test.YtgcidkcedfliiaaConPure
import Derived.Test.YtgcidkcedfliiaaEdgeEq
import Derived.Deep.RegionHeld3
set_option linter.unusedSimpArgs false
set_option linter.unusedVariables false
namespace Go.Proofs.Ytgcidkcedfliiaa
open Go.RowKit

theorem reversed (x y : Int) (w : World) :
    Calls Try.prog 77 #[.agg #[.int .i64 x, .int .i64 y]] w fun e w' => e = .returned (.agg #[.int .i64 y, .int .i64 x]) ∧ Below w.heap.size w w' := by
  have hb0 : ∀ o o', Below w.heap.size w ((w.alloc o).alloc o') := fun o o' => ((Below.refl _ _).alloc (Nat.le_refl _) o).alloc (by simp) o'
  go_enter Try.func77, Try.ntmps77
  go_wp2
  refine bodyPost_ret (v := .agg #[.int .i64 y, .int .i64 x]) (by simp [results, Try.results77, go_sem]) rfl ⟨rfl, ?_⟩
  repeat (first | exact hb0 _ _ | refine Below.setCell ?_ (by simp <;> omega) _)
theorem HoE.set {w : World} {g : Nat} {es : List (Int × Int)} (h : HoE w g es) {q : Nat} (hq : q < es.length) (a b : Int) : HoE ((w.setCell ⟨g, q * 2, none⟩ (.int .i64 a)).setCell ⟨g, q * 2 + 1, none⟩ (.int .i64 b)) g (es.set q (a, b)) := by
  refine ⟨fun j hj => ?_, fun j => by rw [World.frozen?_setCell, World.frozen?_setCell]; exact h.free j, by simp [World.setCell]; exact h.lt⟩
  rw [List.length_set] at hj
  obtain ⟨c1, c2⟩ := h.cell j hj
  obtain ⟨d1, d2⟩ := h.cell q hq
  rw [getD_setE hq]
  by_cases e : j = q
  · subst e
    rw [if_pos rfl]
    refine ⟨?_, ?_⟩
    · rw [World.cell?_setCell_other _ _ _ _ (by simp)]
      exact World.cell?_setCell_same _ _ _ d1
    · exact World.cell?_setCell_same _ _ _ (by rw [World.cell?_setCell_other _ _ _ _ (by simp)]; exact d2)
  · rw [if_neg e]
    refine ⟨?_, ?_⟩
    · rw [World.cell?_setCell_other _ _ _ _ (by simp <;> omega), World.cell?_setCell_other _ _ _ _ (by simp <;> omega)]; exact c1
    · rw [World.cell?_setCell_other _ _ _ _ (by simp <;> omega), World.cell?_setCell_other _ _ _ _ (by simp <;> omega)]; exact c2

def conE (A B : Int) (e : Int × Int) : Int × Int := (vb A B e.1, vb A B e.2)
def conEP (A B : Int) (es : List (Int × Int)) (i : Nat) : List (Int × Int) := (es.take i).map (conE A B) ++ es.drop i
theorem conEP_len (A B : Int) (es : List (Int × Int)) (i : Nat) : (conEP A B es i).length = es.length := by simp [conEP]; omega
theorem conEP_get {A B : Int} {es : List (Int × Int)} {i : Nat} (h : i < es.length) : (conEP A B es i).getD i (0, 0) = es.getD i (0, 0) := by
  have hl : ((es.take i).map (conE A B)).length = i := by rw [List.length_map, List.length_take]; omega
  simp only [conEP, List.getD]
  rw [List.getElem?_append_right (by omega), hl, Nat.sub_self, List.getElem?_drop]
  rfl
theorem conEP_step {A B : Int} {es : List (Int × Int)} {i : Nat} (h : i < es.length) : (conEP A B es i).set i (conE A B (es.getD i (0, 0))) = conEP A B es (i + 1) := by
  have hl : ((es.take i).map (conE A B)).length = i := by rw [List.length_map, List.length_take]; omega
  have e1 : es.drop i = es.getD i (0, 0) :: es.drop (i + 1) := by
    rw [List.drop_eq_getElem_cons h]
    simp [List.getD, List.getElem?_eq_getElem h]
  have e2 : es.take (i + 1) = es.take i ++ [es.getD i (0, 0)] := by
    rw [List.take_add_one, List.getElem?_eq_getElem h]
    simp [List.getD, List.getElem?_eq_getElem h]
  unfold conEP
  rw [List.set_append_right _ _ (by omega), hl, Nat.sub_self, e1, List.set_cons_zero, e2, List.map_append, List.append_assoc]
  rfl
theorem unp_con {s x y : Int} {xss : List (List Int)} {k : Nat} (h : grB s xss = true) : unp (((pairs xss).eraseIdx k).map (conE (lowI x y) (topI x y))) = conRows x y (xss.eraseIdx k) := by
  rw [← unp_erase h]
  simp only [unp, conRows, List.map_map]
  apply List.map_congr_left
  intro e _
  rfl
theorem con_I64 {s A B : Int} {xss : List (List Int)} {k : Nat} (h : grB s xss = true) (hA : 0 ≤ A ∧ A < s) : ∀ j, j < (((pairs xss).eraseIdx k).map (conE A B)).length → I64 ((((pairs xss).eraseIdx k).map (conE A B)).getD j (0, 0)).1 ∧ I64 ((((pairs xss).eraseIdx k).map (conE A B)).getD j (0, 0)).2 := by
  intro j hj
  rw [List.length_map] at hj
  have hs := grB_iff h
  have e : (((pairs xss).eraseIdx k).map (conE A B)).getD j (0, 0) = conE A B (((pairs xss).eraseIdx k)[j]) := by simp [List.getD, List.getElem?_eq_getElem hj]
  rw [e]
  obtain ⟨i, hi, he⟩ := List.getElem_of_mem (List.mem_of_mem_eraseIdx (List.getElem_mem hj))
  rw [pairs_len] at hi
  have h4 := hs.2.2.2 i hi
  have hp := pairs_get hi
  have e2 : (pairs xss).getD i (0, 0) = (pairs xss)[i]'(by rw [pairs_len]; exact hi) := by simp [List.getD, List.getElem?_eq_getElem (show i < (pairs xss).length by rw [pairs_len]; exact hi)]
  rw [← he, ← e2, hp]
  unfold conE vb I64
  simp only
  constructor <;> constructor <;> (split <;> (try split) <;> omega)

end Go.Proofs.Ytgcidkcedfliiaa
