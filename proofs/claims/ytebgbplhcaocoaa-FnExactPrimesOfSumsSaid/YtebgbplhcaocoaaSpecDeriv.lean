/- DerivativeOfWhole of the model. -/
import Derived.Test.YtebgbplhcaocoaaNumbersOf
set_option linter.unusedSimpArgs false
set_option linter.unusedVariables false
set_option maxRecDepth 100000
namespace Go.Proofs.Ytebgbplhcaocoaa
open Go.RowKit

/-- the numbers of the derivative, out of those at 1 to k -/
def derL (xs : List Int) (k : Nat) : List Int := (List.range k).map (fun i : Nat => ((i : Int) + 1) * xs.getD (i + 1) 0)
theorem derL_succ (xs : List Int) (k : Nat) : derL xs (k+1) = derL xs k ++ [((k : Int) + 1) * xs.getD (k + 1) 0] := by simp [derL, List.range_succ]
theorem derL_len (xs : List Int) (k : Nat) : (derL xs k).length = k := by simp [derL]
def derOk (xs : List Int) (k : Nat) : Prop := ∀ i, i < k → moreB 0 (i : Int) (xs.getD i 0) = true

theorem fits_lim {a b : Int} (h : fits a b = true) : Lim (a * b) := by simpa [fits, Lim] using h
theorem moreB_fits {a b : Int} (h : moreB 0 a b = true) : fits a b = true := by
  simp only [moreB, Bool.and_eq_true] at h; exact h.1
theorem lim_I64 {a : Int} (h : Lim a) : I64 a := by unfold Lim at h; unfold I64; omega

theorem OwI.lower {lo lo' hi : Nat} {w : World} {v : Value} {xs : List Int} (h : OwI lo hi w v xs) (hl : lo' ≤ lo) : OwI lo' hi w v xs :=
  ⟨h.1, h.2.1, ownsRow_mono h.2.2.1 hl, h.2.2.2⟩
theorem ownsRow_cap {w : World} {B e size n : Nat} {v : Value} {xs : List Value} (h : w.ownsRow B e size v n xs) : ∀ a m c, v = .slice a m c → m ≤ c := by
  intro a m c hv
  rcases h.2 with ⟨h2, _⟩ | ⟨g, cap, cur, h2, _, _, hn, _⟩
  · rw [hv] at h2; simp at h2; omega
  · rw [hv] at h2; simp only [Value.slice.injEq] at h2; omega
theorem derL_I64 {xs : List Int} {k : Nat} (h : derOk xs (k+1)) : ∀ x ∈ derL xs k, I64 x := by
  intro x hx
  simp only [derL, List.mem_map, List.mem_range] at hx
  obtain ⟨i, hi, rfl⟩ := hx
  have := fits_lim (moreB_fits (h (i+1) (by omega)))
  have e2 : (((i + 1 : Nat) : Int)) = (i : Int) + 1 := by omega
  rw [e2] at this
  exact lim_I64 this

/-- the derivative, or 3 where a product is beyond the limit -/
def derivOf (xs : List Int) : List Int × Int :=
  if wholeB xs = false then ([], 1) else if (List.range xs.length).all (fun i => moreB 0 (i : Int) (xs.getD i 0)) = false then ([], 3) else (trim (derL xs (xs.length - 1)), 0)
theorem derOk_all {xs : List Int} (h : (List.range xs.length).all (fun i : Nat => moreB 0 (i : Int) (xs.getD i 0)) = true) : derOk xs xs.length := fun i hi => by
  rw [List.all_eq_true] at h
  exact h i (List.mem_range.2 hi)
theorem derOk_not {xs : List Int} {k : Nat} (hk : k < xs.length) (h : moreB 0 (k : Int) (xs.getD k 0) = false) : (List.range xs.length).all (fun i : Nat => moreB 0 (i : Int) (xs.getD i 0)) = false := by
  rw [List.all_eq_false]
  exact ⟨k, List.mem_range.2 hk, by simp only [h]; simp⟩

end Go.Proofs.Ytebgbplhcaocoaa
