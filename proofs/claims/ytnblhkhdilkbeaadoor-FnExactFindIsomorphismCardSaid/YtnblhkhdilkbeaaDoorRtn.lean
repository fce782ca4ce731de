/- The turns of a walk, as the program's iterator yields them. -/
import Derived.Test.YtnblhkhdilkbeaaDoorRfg
import Derived.Test.YtnblhkhdilkbeaaDoorConcat2
import Derived.Test.YtnblhkhdilkbeaaDoorCoreF
set_option linter.unusedSimpArgs false
set_option linter.unusedVariables false
namespace Go.Proofs.YtnblhkhdilkbeaaDoor
open Go Go.RowKit Go.Shelf
attribute [local go_sem] Oper.semAt_some

/-- cells from n0 on stay -/
def KeepC (n0 : Nat) (A B : World) : Prop := ∀ (p : Addr) (v : Value), n0 ≤ p.block → A.cell? p = some v → B.cell? p = some v
theorem KeepC.trans {n0 : Nat} {A B C : World} (h : KeepC n0 A B) (k : KeepC n0 B C) : KeepC n0 A C := fun p v hp hc => k p v hp (h p v hp hc)
theorem cell_block {W : World} {l : Nat} {o : Obj} (h : W.heap[l]? = some o) (ho : o.isCells = false) {p : Addr} {v : Value} (hc : W.cell? p = some v) : p.block ≠ l := by
  intro e
  subst e
  unfold World.cell? at hc
  rw [h] at hc
  cases o <;> simp [Obj.isCells] at ho hc
theorem cell_put {W : World} {l : Nat} {o : Obj} (o' : Obj) (h : W.heap[l]? = some o) (ho : o.isCells = false) {p : Addr} {v : Value} (hc : W.cell? p = some v) : (W.putObj l o').cell? p = some v :=
  (World.cell?_of_block (World.putObj_heap_other (cell_block h ho hc))).trans hc
theorem keepC_put {n0 : Nat} (V : World) (l : Nat) (o o' : Obj) (h : V.heap[l]? = some o) (ho : o.isCells = false) : KeepC n0 V (V.putObj l o') := fun p v _ hc => cell_put o' h ho hc
theorem grown_none {w w' : World} (h : Below w.heap.size w w') : w.grownBy w' none := ⟨h.os, h.tape, h.output, h.size, fun k hk _ => h.block k hk⟩

theorem turn_getD {ws : List Int} {n k j : Nat} (hl : ws.length = n) (hk : k < n) (hj : j < n) : (turnL ws k).getD j 0 = (ws ++ ws).getD (k + j) 0 := by
  unfold turnL
  by_cases h : k + j < n
  · simp only [List.getD, List.getElem?_append_left (show j < (ws.drop k).length by rw [List.length_drop]; omega), List.getElem?_append_left (show k + j < ws.length by omega), List.getElem?_drop]
  · simp only [List.getD, List.getElem?_append_right (show (ws.drop k).length ≤ j by rw [List.length_drop]; omega), List.getElem?_append_right (show ws.length ≤ k + j by omega), List.length_drop]
    rw [List.getElem?_take, if_pos (by omega)]
    congr 2; omega

/-- what a turned walk reads as -/
def GdT (ws : List Int) (n : Nat) (n0 : Nat) (x : Nat × Nat) (W : World) : Prop := 1 ≤ x.2 ∧ x.2 < n ∧ n0 ≤ x.1 ∧ ∀ j, j < n → W.cell? ⟨x.1, x.2 + j, none⟩ = some (.int .i64 ((turnL ws x.2).getD j 0))
def allT (g m : Nat) : List (Nat × Nat) := (List.range m).map (fun q => (g, q + 1))
theorem allT_s (g m : Nat) : allT g (m + 1) = allT g m ++ [(g, m + 1)] := by simp [allT, List.range_succ]

end Go.Proofs.YtnblhkhdilkbeaaDoor
