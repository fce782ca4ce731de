/- ReciprocalOf, both sides. -/
import Derived.Test.YtnblhkhdilkbeaaEdF
import Derived.Test.YtnblhkhdilkbeaaFl
import Derived.Test.YtnblhkhdilkbeaaBk
import Derived.Test.YtnblhkhdilkbeaaEdgeMat
set_option linter.unusedSimpArgs false
set_option linter.unusedVariables false
set_option maxRecDepth 100000
namespace Go.Proofs.Ytnblhkhdilkbeaa
open Go.RowKit

theorem specBkD' {lo hi : Nat} (n : Nat) (A : Nat → Nat → Int) (a : Option Addr) (c : Nat) (w : World) (h : RdR lo hi w (.slice a n c) (tab n A)) (hn : n ≤ 20) (hf : fits A n) :
    Calls Try.prog 146 #[.slice a n c] w fun e w' => ∃ a' c', e = .returned (.slice a' (trim (dkL A n)).length c') ∧ OwI w.heap.size w'.heap.size w' (.slice a' (trim (dkL A n)).length c') (trim (dkL A n)) ∧ Below w.heap.size w w' := by
  have HD := specBk n A a c w h hn
  rw [nowB_dk n A hf] at HD
  exact HD

theorem dirE_end {es : List (Int × Int)} {B : Int} (h : ∀ e ∈ es, 0 ≤ e.1 ∧ e.1 < B ∧ 0 ≤ e.2 ∧ e.2 < B) : ∀ d ∈ dirE es, 0 ≤ d.2 ∧ d.2 < B := fun d hd => by
  unfold dirE at hd
  simp only [List.mem_flatMap, List.mem_cons, List.not_mem_nil, or_false] at hd
  obtain ⟨e, he, h1 | h1⟩ := hd
  · have := h e he; rw [h1]; exact ⟨this.2.2.1, this.2.2.2⟩
  · have := h e he; rw [h1]; exact ⟨this.1, this.2.1⟩
theorem edgeS_fits {s : Int} {xss : List (List Int)} (hg : grB s xss = true) (x : Nat → Int) (hx : ∀ c, (x c).natAbs ≤ 1) : fits (edgeS (dirE (pairs xss)) x) (2 * xss.length) := by
  have hs := grB_iff hg
  have hl : (dirE (pairs xss)).length = 2 * xss.length := by rw [dirE_len, pairs_len]
  have hl20 : (dirE (pairs xss)).length ≤ 20 := by omega
  rw [← hl]
  refine fits_like (edgeS_like hl20 (by omega) (fun i hi => ?_) hx) hl20
  have hm : (dirE (pairs xss)).getD i (0, 0) ∈ dirE (pairs xss) := by
    have : (dirE (pairs xss)).getD i (0, 0) = (dirE (pairs xss))[i] := by simp [List.getD, List.getElem?_eq_getElem hi]
    rw [this]; exact List.getElem_mem hi
  refine dirE_end (B := 8) (fun e he => ?_) _ hm
  simp only [pairs, List.mem_map] at he
  obtain ⟨r, hr, rfl⟩ := he
  have := grB_mem hg r hr
  simp only
  omega
theorem edgeS_one (ds : List (Int × Int)) : edgeS ds (fun _ => 1) = edgeM ds := by funext i j; unfold edgeS; rw [Int.mul_one]
theorem edge_fits {s : Int} {xss : List (List Int)} (hg : grB s xss = true) : fits (edgeM (dirE (pairs xss))) (2 * xss.length) := by
  rw [← edgeS_one]; exact edgeS_fits hg _ (fun _ => by decide)

/-- the reciprocal's numbers -/
def recL (xss : List (List Int)) : List Int := trim (dkL (edgeM (dirE (pairs xss))) (2 * xss.length))
def recOf (s : Int) (xss : List (List Int)) : List Int × Int := if grB s xss = true then (recL xss, 0) else ([], 1)
theorem recOf_no {s : Int} {xss : List (List Int)} (h : grB s xss = false) : recOf s xss = ([], 1) := by unfold recOf; rw [h]; rfl
theorem recOf_yes {s : Int} {xss : List (List Int)} (h : grB s xss = true) : recOf s xss = (recL xss, 0) := by unfold recOf; rw [if_pos h]

end Go.Proofs.Ytnblhkhdilkbeaa
