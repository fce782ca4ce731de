/- DeterminantWhole, both sides. -/
import Derived.Test.YtnblhkhdilkbeaaChI
set_option linter.unusedSimpArgs false
set_option linter.unusedVariables false
set_option maxRecDepth 100000
namespace Go.Proofs.Ytnblhkhdilkbeaa
open Go.RowKit

theorem isWithinL (x l : Int) (hl : 0 ≤ l) (hl' : l ≤ 1000000000000000) (w : World) :
    Calls Try.prog 92 #[.int .i64 x, .int .i64 l] w fun e w' => e = .returned (.bool (decide (-l ≤ x) && decide (x ≤ l))) ∧ Qt w w' := by
  by_cases h1 : -l ≤ x
  · go_enter Try.func92, Try.ntmps92
    go_wp2
    go_ret
    exact ⟨by first | (simp [*]; done) | (simp [*]; intros; omega), Qt.refl _⟩
  · go_enter Try.func92, Try.ntmps92
    go_wp2
    go_ret
    exact ⟨by first | (simp [*]; done) | (simp [*]; intros; omega), Qt.refl _⟩

def ent (xss : List (List Int)) : Nat → Nat → Int := fun i j => (xss.getD i []).getD j 0
/-- the rows are square and small -/
def dwP (xss : List (List Int)) : Prop := xss.length ≤ 8 ∧ ∀ i, i < xss.length → (xss.getD i []).length = xss.length ∧ ∀ k, k < xss.length → -20 ≤ ent xss i k ∧ ent xss i k ≤ 20
instance (xss : List (List Int)) : Decidable (dwP xss) := by unfold dwP; infer_instance
def dwOf (xss : List (List Int)) : List Int × Int := if dwP xss then (trim (dkL (ent xss) xss.length), 0) else ([], 2)
theorem dw_tab {xss : List (List Int)} (h : dwP xss) : xss = tab xss.length (ent xss) := by
  apply List.ext_getElem
  · rw [tab_len]
  · intro i h1 h2
    have e1 : xss.getD i [] = xss[i] := by simp [List.getD, List.getElem?_eq_getElem h1]
    have hl := (h.2 i h1).1
    rw [e1] at hl
    simp only [tab, List.getElem_map, List.getElem_range]
    apply List.ext_getElem
    · simp [hl]
    · intro j h3 h4
      simp [ent, List.getD, List.getElem?_eq_getElem h1, List.getElem?_eq_getElem h3]
theorem dw_fits {xss : List (List Int)} (h : dwP xss) : fits (ent xss) xss.length := fits_small _ _ h.1 fun i j hi hj => (h.2 i hi).2 j hj

theorem specBkD {lo hi : Nat} (n : Nat) (A : Nat → Nat → Int) (a : Option Addr) (c : Nat) (w : World) (h : RdR lo hi w (.slice a n c) (tab n A)) (hn : n ≤ 20) (hf : fits A n) :
    Calls Try.prog 146 #[.slice a n c] w fun e w' => ∃ a' c', e = .returned (.slice a' (trim (dkL A n)).length c') ∧ OwI w.heap.size w'.heap.size w' (.slice a' (trim (dkL A n)).length c') (trim (dkL A n)) ∧ Below w.heap.size w w' := by
  have HD := specBk n A a c w h hn
  rw [nowB_dk n A hf] at HD
  exact HD

end Go.Proofs.Ytnblhkhdilkbeaa
