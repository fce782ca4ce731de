/- The program's sums of polynomials of bounded numbers. -/
import Derived.Test.YtebgbplhcaocoaaPolyValue
import Derived.Test.YtebgbplhcaocoaaSpecDeriv
set_option linter.unusedSimpArgs false
set_option linter.unusedVariables false
set_option maxRecDepth 100000
namespace Go.Proofs.Ytebgbplhcaocoaa
open Go.RowKit

/-- a slice value reads as a list of bounded numbers -/
def RdO (w : World) (v : Value) (os : List (Option Int)) : Prop :=
  (∀ j, OLim (os.getD j (some 0))) ∧ ((∃ a cap, os = [] ∧ v = .slice a 0 cap) ∨
  (∃ g cap, v = .slice (some ⟨g, 0, none⟩) os.length cap ∧ 0 < os.length ∧ g < w.heap.size ∧
    ∀ j, j < os.length → w.cell? ⟨g, j * 2, none⟩ = some (.int .i64 (numO (os.getD j (some 0)))) ∧ w.cell? ⟨g, j * 2 + 1, none⟩ = some (.bool (os.getD j (some 0)).isNone)))
theorem RdO.below {w w' : World} {v : Value} {os : List (Option Int)} (h : RdO w v os) (hb : Below w.heap.size w w') : RdO w' v os := by
  obtain ⟨h0, h | ⟨g, cap, hv, hl, hg, hc⟩⟩ := h
  · exact ⟨h0, .inl h⟩
  · exact ⟨h0, .inr ⟨g, cap, hv, hl, Nat.lt_of_lt_of_le hg hb.size, fun j hj => ⟨hb.keep (hc j hj).1, hb.keep (hc j hj).2⟩⟩⟩
theorem RdO.shape {w : World} {v : Value} {os : List (Option Int)} (h : RdO w v os) : ∃ a cap, v = .slice a os.length cap := by
  obtain ⟨_, ⟨a, cap, rfl, h⟩ | ⟨g, cap, h, _⟩⟩ := h
  · exact ⟨a, cap, h⟩
  · exact ⟨_, cap, h⟩
theorem RdO.mk {lo n : Nat} {w : World} {v : Value} {os : List (Option Int)} (h : w.ownsRow lo 73 2 v n (flatO os)) (hx : os.length = n) (hl : ∀ j, OLim (os.getD j (some 0))) : RdO w v os := by
  refine ⟨hl, ?_⟩
  have h' := h
  rcases h.2 with ⟨hv, h1⟩ | ⟨g, cap, cur, hv, _⟩
  · exact .inl ⟨none, 0, List.length_eq_zero_iff.1 (hx.trans h1), hv⟩
  · by_cases h0 : os.length = 0
    · exact .inl ⟨_, cap, List.length_eq_zero_iff.1 h0, by rw [hv]; congr 1; omega⟩
    · subst hv
      refine .inr ⟨g, cap, by rw [hx], by omega, (h'.lt _ rfl).2, fun j hj => ?_⟩
      obtain ⟨g1, g2⟩ := flatO_get os j hj
      have e : os.getD j none = os.getD j (some 0) := by simp [List.getD, List.getElem?_eq_getElem hj]
      rw [e] at g1 g2
      exact ⟨(h'.cellAt _ (by omega)).trans g1, (h'.cellAt _ (by omega)).trans g2⟩

def atO (os : List (Option Int)) (k : Nat) : Option Int := os.getD k (some 0)

theorem at_in (n g cap k : Nat) (o : Option Int) (w : World) (hk : k < n) (hn : n ≤ 1000000)
    (h1 : w.cell? ⟨g, k * 2, none⟩ = some (.int .i64 (numO o))) (h2 : w.cell? ⟨g, k * 2 + 1, none⟩ = some (.bool o.isNone)) :
    Calls Try.prog 133 #[.slice (some ⟨g, 0, none⟩) n cap, .int .i64 k] w fun e w' => e = .returned (.agg #[.int .i64 (numO o), .bool o.isNone]) ∧ Below w.heap.size w w' := by
  generalize numO o = a at *
  generalize o.isNone = c at *
  have hg : g < w.heap.size := World.block_lt_of_cell? w _ h1
  have hb0 : ∀ o, Below w.heap.size w (w.alloc o) := fun o => (Below.refl _ _).alloc (Nat.le_refl _) o
  go_enter Try.func133, Try.ntmps133
  go_wp2
  refine bodyPost_ret (v := .agg #[.int .i64 a, .bool c]) (by simp [results, Try.results133, go_sem]) rfl ⟨rfl, ?_⟩
  repeat (first | exact Below.refl _ _ | refine Below.setCell ?_ (by simp <;> omega) _ | refine Below.alloc ?_ (by simp <;> omega) _)

theorem at_out (a : Option Addr) (n cap k : Nat) (w : World) (hk : ¬ k < n) (hn : k ≤ 1000000) :
    Calls Try.prog 133 #[.slice a n cap, .int .i64 k] w fun e w' => e = .returned (.agg #[.int .i64 0, .bool false]) ∧ Below w.heap.size w w' := by
  have hk' : ¬ (k : Int) < (n : Int) := by omega
  go_enter Try.func133, Try.ntmps133
  go_wp2
  refine bodyPost_ret (v := .agg #[.int .i64 0, .bool false]) (by simp [results, Try.results133, go_sem]) rfl ⟨rfl, ?_⟩
  repeat (first | exact Below.refl _ _ | refine Below.setCell ?_ (by simp <;> omega) _ | refine Below.alloc ?_ (by simp <;> omega) _)

theorem polyAt (v : Value) (os : List (Option Int)) (k : Nat) (w : World) (h : RdO w v os) (hn : os.length ≤ 1000000) (hk : k ≤ 1000000) :
    Calls Try.prog 133 #[v, .int .i64 k] w fun e w' => e = .returned (.agg #[.int .i64 (numO (atO os k)), .bool (atO os k).isNone]) ∧ Below w.heap.size w w' := by
  by_cases hlt : k < os.length
  · obtain ⟨_, ⟨a, cap, rfl, h⟩ | ⟨g, cap, rfl, _, _, hc⟩⟩ := h
    · simp at hlt
    · exact at_in _ g cap k _ w hlt hn (hc k hlt).1 (hc k hlt).2
  · obtain ⟨a, cap, rfl⟩ := h.shape
    have e : atO os k = some 0 := by simp [atO, List.getD, List.getElem?_eq_none (Nat.le_of_not_lt hlt)]
    rw [e]
    exact at_out a _ cap k w hlt hk

end Go.Proofs.Ytebgbplhcaocoaa
