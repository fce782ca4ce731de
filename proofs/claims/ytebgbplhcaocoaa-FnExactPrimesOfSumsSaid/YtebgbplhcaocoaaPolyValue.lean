/- The program's value of a polynomial of bounded numbers. -/
import Derived.Test.YtebgbplhcaocoaaWholes
import Derived.Deep.RegionWith
set_option linter.unusedSimpArgs false
set_option linter.unusedVariables false
namespace Go.Proofs.Ytebgbplhcaocoaa
open Go.RowKit

theorem wtimesA (o p : Option Int) (ho : OLim o) (hp : OLim p) (w : World) :
    Calls Try.prog 129 #[.agg #[.int .i64 (numO o), .bool o.isNone], .agg #[.int .i64 (numO p), .bool p.isNone]] w fun e w' => e = .returned (.agg #[.int .i64 (numO (timesO o p)), .bool (timesO o p).isNone]) ∧ Below w.heap.size w w' := by
  have := wtimes o p ho hp w
  rw [wv_agg, wv_agg, wv_agg] at this
  exact this
theorem wplusA (o p : Option Int) (ho : OLim o) (hp : OLim p) (w : World) :
    Calls Try.prog 130 #[.agg #[.int .i64 (numO o), .bool o.isNone], .agg #[.int .i64 (numO p), .bool p.isNone]] w fun e w' => e = .returned (.agg #[.int .i64 (numO (plusO o p)), .bool (plusO o p).isNone]) ∧ Below w.heap.size w w' := by
  have := wplus o p ho hp w
  rw [wv_agg, wv_agg, wv_agg] at this
  exact this
theorem timesO_lim (o p : Option Int) : OLim (timesO o p) := by
  unfold timesO
  cases fits (numO o) (numO p) with
  | true => exact mk?_lim _ _
  | false => intro v h; cases h
theorem plusO_lim (o p : Option Int) : OLim (plusO o p) := mk?_lim _ _
theorem OLim.some {x : Int} (h : Lim x) : OLim (some x) := fun v e => by cases e; exact h
theorem step_same (o : Option Int) (x c : Int) : plusO (timesO o (some x)) (some c) = valStep x c o := by
  cases o with
  | none => 
    have : fits (numO none) (numO (some x)) = true := by simp [fits, numO]
    simp [timesO, this, plusO, mk?, valStep]
  | some v =>
    unfold timesO valStep
    have e1 : numO (some v) = v := rfl
    have e2 : numO (some x) = x := rfl
    rw [e1, e2]
    cases hf : fits v x with
    | false => simp [plusO, mk?, moreB, hf]
    | true =>
      have hi : inW (v * x) = true := hf
      have e3 : v * x + c = c + v * x := Int.add_comm _ _
      simp [plusO, mk?, moreB, hf, hi, numO, e3]
      cases inW (c + v * x) <;> simp

theorem m_times (f : Nat) (a : Int) (c : Bool) (w : World) : Sem.run Try.prog (method (f + 1) 73 (.agg #[.int .i64 a, .bool c]) "loop.example/g01298/impl.times") w = .ok (129, .agg #[.int .i64 a, .bool c]) w := by kernel_rfl
theorem m_plus (f : Nat) (a : Int) (c : Bool) (w : World) : Sem.run Try.prog (method (f + 1) 73 (.agg #[.int .i64 a, .bool c]) "loop.example/g01298/impl.plus") w = .ok (130, .agg #[.int .i64 a, .bool c]) w := by kernel_rfl

/-- what a round leaves: the boxes are as they were, but for the value's own -/
theorem value_close {w wr w2 : World} {x A : Int} {C : Bool} (hB : Below w.heap.size w wr) (bw : Below wr.heap.size wr w2) (hz : w.heap.size + 1 + 1 < wr.heap.size)
    (hK : wr.cell? ⟨w.heap.size, 0, none⟩ = some (.int .i64 x) ∧ wr.cell? ⟨w.heap.size, 1, none⟩ = some (.bool false) ∧
      wr.cell? ⟨w.heap.size + 1, 0, none⟩ = some (.int .i64 0) ∧ wr.cell? ⟨w.heap.size + 1, 1, none⟩ = some (.bool false) ∧ wr.frozen? ⟨w.heap.size + 1, 0, none⟩ = false ∧ wr.frozen? ⟨w.heap.size + 1, 1, none⟩ = false)
    {u5 u6 : Value} (y5 : w2.cell? ⟨w.heap.size + 1 + 1, 0, none⟩ = some u5) (y6 : w2.cell? ⟨w.heap.size + 1 + 1, 1, none⟩ = some u6) (x5 : w2.frozen? ⟨w.heap.size + 1 + 1, 0, none⟩ = false) (x6 : w2.frozen? ⟨w.heap.size + 1 + 1, 1, none⟩ = false)
    {W : World} (hW : W = (w2.setCell ⟨w.heap.size + 1 + 1, 0, none⟩ (.int .i64 A)).setCell ⟨w.heap.size + 1 + 1, 1, none⟩ (.bool C)) :
    W.cell? ⟨w.heap.size, 0, none⟩ = some (.int .i64 x) ∧ W.cell? ⟨w.heap.size, 1, none⟩ = some (.bool false) ∧
      W.cell? ⟨w.heap.size + 1, 0, none⟩ = some (.int .i64 0) ∧ W.cell? ⟨w.heap.size + 1, 1, none⟩ = some (.bool false) ∧ W.frozen? ⟨w.heap.size + 1, 0, none⟩ = false ∧ W.frozen? ⟨w.heap.size + 1, 1, none⟩ = false ∧
      W.cell? ⟨w.heap.size + 1 + 1, 0, none⟩ = some (.int .i64 A) ∧ W.cell? ⟨w.heap.size + 1 + 1, 1, none⟩ = some (.bool C) ∧ W.frozen? ⟨w.heap.size + 1 + 1, 0, none⟩ = false ∧ W.frozen? ⟨w.heap.size + 1 + 1, 1, none⟩ = false ∧
      Below w.heap.size w W ∧ w.heap.size + 1 + 1 < W.heap.size := by
  obtain ⟨k1, k2, k3, k4, f3, f4⟩ := hK
  have e1 := bw.keep k1
  have e2 := bw.keep k2
  have e3 := bw.keep k3
  have e4 := bw.keep k4
  have q3 := bw.keepf (show _ < wr.heap.size from by show w.heap.size + 1 < _; omega) f3
  have q4 := bw.keepf (show _ < wr.heap.size from by show w.heap.size + 1 < _; omega) f4
  have hs := bw.size
  subst hW
  refine ⟨?_, ?_, ?_, ?_, ?_, ?_, ?_, ?_, ?_, ?_, ?_, ?_⟩
  · rw [World.cell?_setCell_other _ _ _ _ (by simp; try omega), World.cell?_setCell_other _ _ _ _ (by simp; try omega)]; exact e1
  · rw [World.cell?_setCell_other _ _ _ _ (by simp; try omega), World.cell?_setCell_other _ _ _ _ (by simp; try omega)]; exact e2
  · rw [World.cell?_setCell_other _ _ _ _ (by simp), World.cell?_setCell_other _ _ _ _ (by simp)]; exact e3
  · rw [World.cell?_setCell_other _ _ _ _ (by simp), World.cell?_setCell_other _ _ _ _ (by simp)]; exact e4
  · rw [World.frozen?_setCell, World.frozen?_setCell]; exact q3
  · rw [World.frozen?_setCell, World.frozen?_setCell]; exact q4
  · rw [World.cell?_setCell_other _ _ _ _ (by simp), World.cell?_setCell_same _ _ _ y5]
  · rw [World.cell?_setCell_same _ _ _ (by rw [World.cell?_setCell_other _ _ _ _ (by simp)]; exact y6)]
  · rw [World.frozen?_setCell, World.frozen?_setCell]; exact x5
  · rw [World.frozen?_setCell, World.frozen?_setCell]; exact x6
  · exact ((hB.trans (bw.mono (by omega))).setCell (by simp; omega) _).setCell (by simp; omega) _
  · simp [World.setCell]; omega

end Go.Proofs.Ytebgbplhcaocoaa
