/- Sets that switch, by the program: DoesSwitch. -/
import Derived.Test.YtebgbplhcaocoaaSwI
set_option linter.unusedSimpArgs false
set_option linter.unusedVariables false
set_option maxRecDepth 100000
namespace Go.Proofs.Ytebgbplhcaocoaa
open Go.RowKit

theorem rowRd {lo hi : Nat} {w : World} {a : Option Addr} {S c : Nat} {f : Nat → Nat → Int} (h : RdR lo hi w (.slice a S c) (tab S f)) {k : Nat} (hk : k < S) : ∃ b off b' off' c', a = some ⟨b, off, none⟩ ∧ w.cell? ⟨b, off + k, none⟩ = some (.slice (some ⟨b', off', none⟩) S c') ∧ RdI lo hi w (.slice (some ⟨b', off', none⟩) S c') ((List.range S).map (f k)) := by
  obtain ⟨b, off, rv, e1, e2, e3⟩ := h.at (tab_len _ _) k hk
  obtain ⟨a', c', rfl⟩ := e3.shape
  rw [tab_rlen f hk] at e2 e3
  obtain ⟨b', off', rfl, e4⟩ := e3.at (tab_rlen f hk) k hk
  rw [tab_row f hk] at e3
  exact ⟨b, off, b', off', c', e1, e2, e3⟩
theorem swV_mem {f : Nat → Nat → Int} {xs : List Int} {v : Nat} (h : memB xs v = true) : swV f xs v = decide (nbR (f v) xs xs.length = nbR (f (xs.getD 0 0).toNat) xs xs.length) := by unfold swV; rw [if_pos h]
theorem swV_out {f : Nat → Nat → Int} {xs : List Int} {v : Nat} (h : memB xs v = false) : swV f xs v = decide (nbR (f v) xs xs.length = 0 ∨ nbR (f v) xs xs.length = xs.length ∨ 2 * nbR (f v) xs xs.length = xs.length) := by unfold swV; rw [if_neg (by rw [h]; simp)]

theorem swCode_no {s : Int} {xss : List (List Int)} {xs : List Int} (h : grB s xss = false) : swCode s xss xs = 1 := by unfold swCode; rw [h]; rfl
theorem swCode_rng {s : Int} {xss : List (List Int)} {xs : List Int} (h : grB s xss = true) (h2 : setB s xs = false) : swCode s xss xs = 2 := by unfold swCode; rw [if_pos h, h2]; rfl
theorem swCode_st {S : Nat} {xss : List (List Int)} {xs : List Int} (h : grB (S : Int) xss = true) (h2 : setB (S : Int) xs = true) (h3 : simB (adF xss) S = false) : swCode (S : Int) xss xs = 5 := by unfold swCode; rw [if_pos h, if_pos h2, Int.toNat_natCast, h3]; rfl
theorem swCode_ok {S : Nat} {xss : List (List Int)} {xs : List Int} (h : grB (S : Int) xss = true) (h2 : setB (S : Int) xs = true) (h3 : simB (adF xss) S = true) : swCode (S : Int) xss xs = 0 := by unfold swCode; rw [if_pos h, if_pos h2, Int.toNat_natCast, h3]; rfl
theorem swCode_cases (s : Int) (xss : List (List Int)) (xs : List Int) : (swCode s xss xs ≠ 0) ∨ (∃ S : Nat, s = (S : Int) ∧ S ≤ 8 ∧ grB (S : Int) xss = true ∧ setB (S : Int) xs = true ∧ simB (adF xss) S = true ∧ swCode s xss xs = 0) := by
  cases hg : grB s xss with
  | false => left; rw [swCode_no hg]; decide
  | true =>
    have hg4 := grB_iff hg
    obtain ⟨S, hS⟩ : ∃ S : Nat, s = (S : Int) := ⟨s.toNat, by omega⟩
    subst hS
    cases h2 : setB (S : Int) xs with
    | false => left; rw [swCode_rng hg h2]; decide
    | true =>
      cases h3 : simB (adF xss) S with
      | false => left; rw [swCode_st hg h2 h3]; decide
      | true => right; exact ⟨S, rfl, by omega, hg, h2, h3, swCode_ok hg h2 h3⟩

end Go.Proofs.Ytebgbplhcaocoaa
