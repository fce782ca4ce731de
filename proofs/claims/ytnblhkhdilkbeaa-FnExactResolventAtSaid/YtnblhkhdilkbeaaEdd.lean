/- EdgeDeterminant, both sides. -/
import Derived.Test.YtnblhkhdilkbeaaBe
import Derived.Test.YtnblhkhdilkbeaaBaE
import Derived.Test.YtnblhkhdilkbeaaEr9
import Derived.Test.YtnblhkhdilkbeaaRec
import Derived.Test.YtnblhkhdilkbeaaChP
set_option linter.unusedSimpArgs false
set_option linter.unusedVariables false
set_option maxRecDepth 100000
namespace Go.Proofs.Ytnblhkhdilkbeaa
open Go.RowKit

theorem edge_likeF {s : Int} {xss : List (List Int)} (hg : grB s xss = true) :
    ∃ hd bk tl : Nat → Nat, likeF (edgeM (dirE (pairs xss))) (2 * xss.length) hd bk tl := by
  have hs := grB_iff hg
  have hl : (dirE (pairs xss)).length = 2 * xss.length := by rw [dirE_len, pairs_len]
  have hl20 : (dirE (pairs xss)).length ≤ 20 := by omega
  have hb : ∀ i, i < (dirE (pairs xss)).length → 0 ≤ ((dirE (pairs xss)).getD i (0, 0)).1 ∧ ((dirE (pairs xss)).getD i (0, 0)).1 < 8 ∧ 0 ≤ ((dirE (pairs xss)).getD i (0, 0)).2 ∧ ((dirE (pairs xss)).getD i (0, 0)).2 < 8 := by
    intro i hi
    have hm : (dirE (pairs xss)).getD i (0, 0) ∈ dirE (pairs xss) := by
      have : (dirE (pairs xss)).getD i (0, 0) = (dirE (pairs xss))[i] := by simp [List.getD, List.getElem?_eq_getElem hi]
      rw [this]; exact List.getElem_mem hi
    generalize (dirE (pairs xss)).getD i (0, 0) = d at hm ⊢
    unfold dirE at hm
    simp only [List.mem_flatMap, List.mem_cons, List.not_mem_nil, or_false] at hm
    obtain ⟨e, he, h1⟩ := hm
    simp only [pairs, List.mem_map] at he
    obtain ⟨r, hr, rfl⟩ := he
    have := grB_mem hg r hr
    rcases h1 with h1 | h1 <;> rw [h1] <;> simp only <;> omega
  have h1 := edgeS_like (x := fun _ => 1) hl20 (by omega) (fun i hi => ⟨(hb i hi).2.2.1, (hb i hi).2.2.2⟩) (fun _ => by decide)
  rw [edgeS_one, hl] at h1
  rw [hl] at hb
  refine ⟨_, _, fun c => ((dirE (pairs xss)).getD c (0, 0)).1.toNat, h1, fun c hc => by have := hb c hc; omega, fun i c hi hc hne => ?_⟩
  have hq : stepQ (dirE (pairs xss)) (i : Int) (c : Int) = true := by
    by_cases e : stepQ (dirE (pairs xss)) (i : Int) (c : Int) = true
    · exact e
    · exact absurd (by unfold edgeM; rw [if_neg e]) hne
  unfold stepQ at hq
  simp at hq
  have e : ((dirE (pairs xss)).getD i (0, 0)).2 = ((dirE (pairs xss)).getD c (0, 0)).1 := hq.2.1
  show ((dirE (pairs xss)).getD c (0, 0)).1.toNat = ((dirE (pairs xss)).getD i (0, 0)).2.toNat
  rw [e]
theorem sgN_even : ∀ n : Nat, sgN (2 * n) = 1
  | 0 => rfl
  | n + 1 => by
    rw [show 2 * (n + 1) = 2 * n + 1 + 1 by omega]
    unfold sgN; unfold sgN
    rw [Int.neg_neg]; exact sgN_even n
def edO (xss : List (List Int)) : Int := dt (tp (edgeM (dirE (pairs xss))) (2 * xss.length)) (List.range (2 * xss.length))
def edOf (s : Int) (xss : List (List Int)) : Int × Int := if grB s xss = true then (edO xss, 0) else (0, 1)
theorem edOf_yes {s : Int} {xss : List (List Int)} (h : grB s xss = true) : edOf s xss = (edO xss, 0) := by unfold edOf; rw [if_pos h]
theorem edOf_no {s : Int} {xss : List (List Int)} (h : grB s xss = false) : edOf s xss = (0, 1) := by unfold edOf; rw [h]; rfl
theorem ed_bk {xss : List (List Int)} : ((trim (dkL (edgeM (dirE (pairs xss))) (2 * xss.length))).length ≤ 2 * xss.length → edO xss = 0) ∧ (trim (dkL (edgeM (dirE (pairs xss))) (2 * xss.length))).getD (2 * xss.length) 0 = edO xss := by
  have h := dk_top (edgeM (dirE (pairs xss))) (2 * xss.length)
  rw [sgN_even, Int.one_mul] at h
  refine ⟨fun h1 => ?_, ?_⟩
  · have := dk_trim0 (A := edgeM (dirE (pairs xss))) (2 * xss.length) h1 (by omega)
    rw [h] at this; exact this
  · rw [dk_trim _ (by omega), h]; rfl
theorem edge_BaH {s : Int} {xss : List (List Int)} (hg : grB s xss = true) : BaH 0 (signed (edgeM (dirE (pairs xss))) (2 * xss.length)) (2 * xss.length) := by
  obtain ⟨hd, bk, tl, hF⟩ := edge_likeF hg
  have hN := grB_iff hg
  refine ⟨fun R a b h1 h2 h => signed_swn h a b (by omega) h2, fun R h k i j h1 h2 h3 => ?_, fun x hx => reg_0 (by simpa using hx)⟩
  have := signed_mn hF (by omega) h k i j h1 h2 h3
  have e : (2 : Nat) ^ 30 = 1073741824 := by decide
  rw [e] at this
  rw [Int.emod_zero]
  omega
theorem edge_self (E : Nat → Nat → Int) (N : Nat) : signed E N E := fun i hi => ⟨i, 1, hi, .inl rfl, by funext c; rw [Int.one_mul]⟩

end Go.Proofs.Ytnblhkhdilkbeaa
