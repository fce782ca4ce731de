/- CyclicCover of the program, where nothing is wrong. -/
import Derived.Test.YtnblhkhdilkbeaaDoorSpecCyc
import Derived.Test.YtnblhkhdilkbeaaDoorCoreD
import Derived.Test.YtnblhkhdilkbeaaDoorCoreE
import Derived.Deep.RegionHeld3
import Derived.Deep.RegionLaw
set_option linter.unusedSimpArgs false
set_option linter.unusedVariables false
set_option maxRecDepth 100000
namespace Go.Proofs.YtnblhkhdilkbeaaDoor
open Go.RowKit

theorem chg4 (w : World) (b : Nat) (v0 v1 v2 v3 : Value) : Chg b (b+1) w ((((w.setCell ⟨b, 0, none⟩ v0).setCell ⟨b, 1, none⟩ v1).setCell ⟨b, 2, none⟩ v2).setCell ⟨b, 3, none⟩ v3) := by
  repeat (refine Chg.setCell ?_ (by constructor <;> simp) _)
  exact Chg.refl _ _ _

theorem OwV.boxS {lo x n g c : Nat} {w w' : World} {rvs : List Value} {xss : List (List Int)} (h : OwV lo x w (.slice (some ⟨g, 0, none⟩) n c) n rvs xss) (hc : Chg x (x+1) w w') : OwV lo x w' (.slice (some ⟨g, 0, none⟩) n c) n rvs xss := by
  rcases h with ⟨h, _⟩ | ⟨g', c', h, hp⟩
  · simp at h
  · exact .inr ⟨g', c', h, hp.box hc⟩
theorem chg_belowG {lo hi : Nat} {V w w' : World} (h : Chg lo hi V w) (k : Below V.heap.size w w') : Chg lo hi V w' :=
  ⟨k.os.trans h.os, k.tape.trans h.tape, k.output.trans h.output, Nat.le_trans h.size k.size, fun i hi h' => (k.block i hi).trans (h.block i hi h')⟩
theorem Box4.belowB {w w' : World} {b B : Nat} {v0 v1 v2 v3 : Value} (h : Box4 w b v0 v1 v2 v3) (hc : Below B w w') (hb : b < B) : Box4 w' b v0 v1 v2 v3 :=
  ⟨Nat.lt_of_lt_of_le h.lt hc.size, (hc.cell (p := ⟨b, 0, none⟩) hb).trans h.c0, (hc.cell (p := ⟨b, 1, none⟩) hb).trans h.c1, (hc.cell (p := ⟨b, 2, none⟩) hb).trans h.c2, (hc.cell (p := ⟨b, 3, none⟩) hb).trans h.c3,
    (hc.frozen (p := ⟨b, 0, none⟩) hb).trans h.f0, (hc.frozen (p := ⟨b, 1, none⟩) hb).trans h.f1, (hc.frozen (p := ⟨b, 2, none⟩) hb).trans h.f2, (hc.frozen (p := ⟨b, 3, none⟩) hb).trans h.f3⟩
theorem Box4.put4 {w : World} {b : Nat} {u0 u1 u2 u3 : Value} (h : Box4 w b u0 u1 u2 u3) (v0 v1 v2 v3 : Value) : Box4 ((((w.setCell ⟨b, 0, none⟩ v0).setCell ⟨b, 1, none⟩ v1).setCell ⟨b, 2, none⟩ v2).setCell ⟨b, 3, none⟩ v3) b v0 v1 v2 v3 := by
  obtain ⟨lt, c0, c1, c2, c3, f0, f1, f2, f3⟩ := h
  refine ⟨by simpa [World.setCell] using lt, ?_, ?_, ?_, ?_, ?_, ?_, ?_, ?_⟩
  · go_simp
  · go_simp
  · go_simp
  · go_simp
  all_goals (simp only [World.frozen?_setCell]; assumption)

/-- what is at hand when the cover has its base, and no turns yet -/
def CycF (w : World) (R X : Nat) (V : World) (s : Int) (S n : Nat) (a5 : Option Addr) (c5 : Nat) (xss : List (List Int)) : Prop :=
  ∃ lo5 hi5, OwR lo5 hi5 V (.slice a5 n c5) xss ∧ (X < lo5 ∨ hi5 ≤ X) ∧ w.heap.size ≤ lo5 ∧ hi5 ≤ V.heap.size ∧ R < lo5 ∧ R < X ∧ Box4 V X (.int .i64 s) (.slice a5 n c5) (.int .i64 S) (.slice none 0 0) ∧ Box4 V R (.int .i64 0) (.slice none 0 0) (.int .i64 0) (.slice none 0 0) ∧ Below w.heap.size w V

theorem cyc_ok {s : Int} {xss : List (List Int)} {sh : Int} {ys : List Int} (h : cycCode s xss sh ys = 0) : grB s xss = true ∧ shB sh = true ∧ (1 ≤ sh ∧ sh ≤ 4) ∧ ys.length = xss.length ∧ ys.all w1k = true := by
  unfold cycCode at h
  cases hg : grB s xss with
  | false => rw [hg] at h; simp at h
  | true =>
    rw [hg, if_pos rfl] at h
    cases hb : cycB sh xss.length ys with
    | false => rw [hb] at h; simp at h
    | true =>
      unfold cycB at hb
      simp only [Bool.and_eq_true, decide_eq_true_eq] at hb
      obtain ⟨h1, h2, h3⟩ := hb
      have h4 := h1
      unfold shB at h4
      simp only [Bool.and_eq_true, decide_eq_true_eq] at h4
      exact ⟨rfl, h1, h4, h2, h3⟩
theorem w1k_bd {ys : List Int} (h : ys.all w1k = true) : ∀ y ∈ ys, -1000 ≤ y ∧ y ≤ 1000 := by
  intro y hy
  have := List.all_eq_true.1 h y hy
  unfold w1k at this
  simpa using this

end Go.Proofs.YtnblhkhdilkbeaaDoor
