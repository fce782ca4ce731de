/- WeightOfWalk of the program. -/
import Derived.Test.YtebgbplhcaocoaaSpecWw
import Derived.Test.YtebgbplhcaocoaaResid
import Derived.Deep.RegionWith
set_option linter.unusedSimpArgs false
set_option linter.unusedVariables false
set_option maxRecDepth 100000
namespace Go.Proofs.Ytebgbplhcaocoaa
open Go.RowKit

theorem resIn (n p : Int) (w : World) (hn : 0 ≤ n ∧ n < p) (hp : 2 ≤ p ∧ p ≤ 10007) :
    Calls Try.prog 158 #[.int .i64 n, .int .i64 p] w fun e w' => e = .returned (.agg #[.int .i64 n, .int .i64 p]) ∧ Below w.heap.size w w' := by
  have := residueOf n p w (by omega) (by omega)
  rw [Int.emod_eq_of_lt hn.1 hn.2] at this
  exact this

theorem ww_close {w wr w5 : World} {R : Nat} {r p : Int} {u0 u1 : Value} (hB : Below w.heap.size w wr) (bw : Below wr.heap.size wr w5) (hR : w.heap.size ≤ R) (hz : R < wr.heap.size)
    (y0 : w5.cell? ⟨R, 0, none⟩ = some u0) (y1 : w5.cell? ⟨R, 1, none⟩ = some u1) (z0 : w5.frozen? ⟨R, 0, none⟩ = false) (z1 : w5.frozen? ⟨R, 1, none⟩ = false) :
    (R < ((w5.setCell ⟨R, 0, none⟩ (.int .i64 r)).setCell ⟨R, 1, none⟩ (.int .i64 p)).heap.size ∧
      ((w5.setCell ⟨R, 0, none⟩ (.int .i64 r)).setCell ⟨R, 1, none⟩ (.int .i64 p)).cell? ⟨R, 0, none⟩ = some (.int .i64 r) ∧ ((w5.setCell ⟨R, 0, none⟩ (.int .i64 r)).setCell ⟨R, 1, none⟩ (.int .i64 p)).cell? ⟨R, 1, none⟩ = some (.int .i64 p) ∧
      ((w5.setCell ⟨R, 0, none⟩ (.int .i64 r)).setCell ⟨R, 1, none⟩ (.int .i64 p)).frozen? ⟨R, 0, none⟩ = false ∧ ((w5.setCell ⟨R, 0, none⟩ (.int .i64 r)).setCell ⟨R, 1, none⟩ (.int .i64 p)).frozen? ⟨R, 1, none⟩ = false) ∧
    Below w.heap.size w ((w5.setCell ⟨R, 0, none⟩ (.int .i64 r)).setCell ⟨R, 1, none⟩ (.int .i64 p)) := by
  have hs := bw.size
  refine ⟨⟨by simp [World.setCell]; omega, ?_, ?_, ?_, ?_⟩, ((hB.next bw).setCell hR _).setCell hR _⟩
  · rw [World.cell?_setCell_other _ _ _ _ (by simp), World.cell?_setCell_same _ _ _ y0]
  · rw [World.cell?_setCell_same _ _ _ (by rw [World.cell?_setCell_other _ _ _ _ (by simp)]; exact y1)]
  · rw [World.frozen?_setCell, World.frozen?_setCell]; exact z0
  · rw [World.frozen?_setCell, World.frozen?_setCell]; exact z1

end Go.Proofs.Ytebgbplhcaocoaa
