/- slices.Delete on a list of edges. -/
import Derived.Test.YtgcidkcedfliiaaSpecDel
import Derived.Test.YtgcidkcedfliiaaImplDegrees2
import Derived.Deep.RegionLaw
set_option linter.unusedSimpArgs false
set_option linter.unusedVariables false
namespace Go.RowKit
theorem chg_setCells (g : Nat) : ∀ (vs : List Value) (o : Nat) (w : World), Chg g (g+1) w (w.setCells g o vs)
  | [], _, w => Chg.refl _ _ _
  | v :: r, o, w => ((Chg.refl g (g+1) w).setCell (p := ⟨g, o, none⟩) ⟨Nat.le_refl _, Nat.lt_succ_self _⟩ v).trans (chg_setCells g r (o+1) _)
/-- 'clear(s)' on a slice of one element of two numbers -/
theorem run_clear_two {P : Program} (w : World) (t e ty : TypeId) (ht : P.underlying t = some (.slice e)) (hv : ∀ w, (zeroValue e).run P w = .ok (.agg #[.int .i64 0, .int .i64 0]) w) (b o c : Nat)
    (hc : ∀ j, j < 2 → (w.cell? ⟨b, o + j, none⟩).isSome = true) (hf : ∀ j, j < 2 → w.frozen? ⟨b, o + j, none⟩ = false) :
    (Builtin.clear_ #[t] ty #[.slice (some ⟨b, o, none⟩) 1 c]).run P w = .ok (.tuple #[]) (w.setCells b o [.int .i64 0, .int .i64 0]) := by
  have hzc : (Builtin.zeroCells (Value.agg #[.int .i64 0, .int .i64 0]).cells 1).toList = [.int .i64 0, .int .i64 0] := by
    simp [Builtin.zeroCells, Value.cells]; rfl
  have hst := run_storeCells_cells (P := P) b o [.int .i64 0, .int .i64 0] 0 w (by simpa using hc) (by simpa using hf) (by intro v hv'; simp at hv'; subst hv'; rfl)
  simp only [Nat.add_zero] at hst
  simp [Builtin.clear_, run_underlying ht, hv, hzc, hst]
end Go.RowKit
namespace Go.Proofs.Ytgcidkcedfliiaa
open Go.RowKit

theorem zero_edge : ∀ w, (zeroValue 64).run Try.prog w = .ok (.agg #[.int .i64 0, .int .i64 0]) w := fun w => by kernel_rfl
theorem flat_erase (es : List (Int × Int)) (k j : Nat) : (flat (es.eraseIdx k))[j]? = if j < k * 2 then (flat es)[j]? else (flat es)[j + 2]? := by
  induction es generalizing k j with
  | nil => simp [flat]
  | cons e r ih =>
    cases k with
    | zero => simp [flat]
    | succ k =>
      rw [List.eraseIdx_cons_succ]
      match j with
      | 0 => simp [flat]
      | 1 => rw [if_pos (by omega)]; simp [flat]
      | j + 2 =>
        have := ih k j
        simp only [flat, List.flatMap_cons, List.cons_append, List.nil_append, List.getElem?_cons_succ] at this ⊢
        rw [this]
        by_cases h : j < k * 2
        · rw [if_pos h, if_pos (by omega)]
        · rw [if_neg h, if_neg (by omega)]

end Go.Proofs.Ytgcidkcedfliiaa
