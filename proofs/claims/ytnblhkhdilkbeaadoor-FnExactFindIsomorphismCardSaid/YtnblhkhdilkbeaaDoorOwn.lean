/- The model's lists without zeros at the end. -/
import Derived.Test.YtnblhkhdilkbeaaDoorCoreB
set_option linter.unusedSimpArgs false
set_option linter.unusedVariables false
namespace Go.Proofs.YtnblhkhdilkbeaaDoor
open Go.RowKit

/-- how many are left without the zeros at the end -/
def tl (xs : List Int) : Nat → Nat
  | 0 => 0
  | k + 1 => if xs.getD k 0 = 0 then tl xs k else k + 1
theorem tl_le (xs : List Int) (k : Nat) : tl xs k ≤ k := by
  induction k with
  | zero => exact Nat.le_refl _
  | succ k ih => unfold tl; split <;> omega
def trim (xs : List Int) : List Int := xs.take (tl xs xs.length)

theorem RdI.take {lo hi : Nat} {w : World} {b off cap : Nat} {xs : List Int} {n k : Nat} (h : RdI lo hi w (.slice (some ⟨b, off, none⟩) n cap) xs) (hn : xs.length = n) (hk : k ≤ n) : RdI lo hi w (.slice (some ⟨b, off, none⟩) k cap) (xs.take k) := by
  obtain ⟨h1, h2, h⟩ := h
  have hl : (xs.take k).length = k := by rw [List.length_take]; omega
  refine ⟨by omega, fun x hx => h2 x (List.mem_of_mem_take hx), ?_⟩
  by_cases h0 : k = 0
  · subst h0
    exact .inl ⟨_, _, by simp, rfl⟩
  · rcases h with ⟨a, c, rfl, _⟩ | ⟨b', off', cap', hv, h0', hlo, hhi, hc⟩
    · simp at hn; omega
    · simp only [Value.slice.injEq, Option.some.injEq, Addr.mk.injEq] at hv
      obtain ⟨⟨rfl, rfl, _⟩, _, rfl⟩ := hv
      refine .inr ⟨b, off, cap, by rw [hl], by omega, hlo, hhi, fun j hj => ?_⟩
      rw [hc j (by omega)]
      simp [List.getD, List.getElem?_take, show j < k by omega]

end Go.Proofs.YtnblhkhdilkbeaaDoor
