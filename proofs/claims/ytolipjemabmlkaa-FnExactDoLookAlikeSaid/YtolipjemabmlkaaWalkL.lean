/- Lists of directed edges: the program's check. -/
import Derived.Test.YtolipjemabmlkaaCoreA
set_option linter.unusedSimpArgs false
set_option linter.unusedVariables false
namespace Go.Proofs.Ytolipjemabmlkaa
open Go.RowKit

theorem RdI.at {lo hi : Nat} {w : World} {a : Option Addr} {n c : Nat} {xs : List Int} (h : RdI lo hi w (.slice a n c) xs) (hn : xs.length = n) : ∀ j, j < n → ∃ b off, a = some ⟨b, off, none⟩ ∧ w.cell? ⟨b, off + j, none⟩ = some (.int .i64 (xs.getD j 0)) := by
  intro j hj
  obtain ⟨_, _, ⟨a', c', rfl, _⟩ | ⟨b, off, c', hv, _, _, _, hc⟩⟩ := h
  · simp at hn; omega
  · simp only [Value.slice.injEq] at hv
    exact ⟨b, off, hv.1, hc j (by omega)⟩

/-- at most 20 directed edges of a graph of n edges -/
def walkB (n : Nat) (ws : List Int) : Bool := decide (ws.length ≤ 20) && ws.all (fun e => inR e (2 * (n : Int)))
theorem walkB_of {n : Nat} {ws : List Int} (h : walkB n ws = true) : ws.length ≤ 20 ∧ ∀ j, j < ws.length → inR (ws.getD j 0) (2 * (n : Int)) = true := by
  simp only [walkB, Bool.and_eq_true, decide_eq_true_eq, List.all_eq_true] at h
  refine ⟨h.1, fun j hj => ?_⟩
  have e : ws.getD j 0 = ws[j] := by simp [List.getD, List.getElem?_eq_getElem hj]
  rw [e]
  exact h.2 _ (List.getElem_mem hj)
theorem walkB_long {n : Nat} {ws : List Int} (h : ¬ ws.length ≤ 20) : walkB n ws = false := by simp [walkB, h]
theorem walkB_bad {n : Nat} {ws : List Int} {j : Nat} (hj : j < ws.length) (h : inR (ws.getD j 0) (2 * (n : Int)) = false) : walkB n ws = false := by
  by_cases e : walkB n ws = true
  · have := (walkB_of e).2 j hj
    rw [h] at this; cases this
  · simpa using e
theorem walkB_good {n : Nat} {ws : List Int} (hl : ws.length ≤ 20) (h : ∀ j, j < ws.length → inR (ws.getD j 0) (2 * (n : Int)) = true) : walkB n ws = true := by
  simp only [walkB, Bool.and_eq_true, decide_eq_true_eq, List.all_eq_true]
  refine ⟨hl, fun e he => ?_⟩
  obtain ⟨j, hj, rfl⟩ := List.getElem_of_mem he
  have := h j hj
  simpa [List.getD, List.getElem?_eq_getElem hj] using this

end Go.Proofs.Ytolipjemabmlkaa
