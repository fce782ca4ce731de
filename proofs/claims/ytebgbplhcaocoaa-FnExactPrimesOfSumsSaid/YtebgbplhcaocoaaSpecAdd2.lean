/- AddWhole of the model. -/
import Derived.Test.YtebgbplhcaocoaaSpecAdd
set_option linter.unusedSimpArgs false
set_option linter.unusedVariables false
set_option maxRecDepth 100000
namespace Go.Proofs.Ytebgbplhcaocoaa
open Go.RowKit

theorem RdI.cells {lo hi : Nat} {w : World} {a : Option Addr} {n c : Nat} {xs : List Int} (h : RdI lo hi w (.slice a n c) xs) (hn : xs.length = n) : ∀ j, j < n → ∃ b off, a = some ⟨b, off, none⟩ ∧ w.cell? ⟨b, off + j, none⟩ = some (.int .i64 (xs.getD j 0)) := by
  intro j hj
  obtain ⟨_, _, ⟨a', c', rfl, _⟩ | ⟨b, off, c', hv, _, _, _, hc⟩⟩ := h
  · simp at hn; omega
  · simp only [Value.slice.injEq] at hv
    obtain ⟨rfl, _, _⟩ := hv
    exact ⟨b, off, rfl, hc j (by omega)⟩

end Go.Proofs.Ytebgbplhcaocoaa
