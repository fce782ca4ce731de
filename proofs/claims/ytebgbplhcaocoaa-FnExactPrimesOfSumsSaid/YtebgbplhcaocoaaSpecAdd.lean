/- AddWhole of the model. -/
import Derived.Test.YtebgbplhcaocoaaSpecDeriv2
set_option linter.unusedSimpArgs false
set_option linter.unusedVariables false
set_option maxRecDepth 100000
namespace Go.Proofs.Ytebgbplhcaocoaa
open Go.RowKit

def moreV (s a b : Int) : Int := if fits a b then s + a * b else 0
theorem l01MoreV (s a b : Int) (hs : Lim s) (ha : Lim a) (hb : Lim b) (w : World) :
    Calls Try.prog 70 #[.int .i64 s, .int .i64 a, .int .i64 b] w fun e w' => e = .returned (.tuple #[.int .i64 (moreV s a b), .bool (moreB s a b)]) ∧ Qt w w' := by
  cases hf : fits a b with
  | false => exact (more_bad s a b ha.1 ha.2 hb.1 hb.2 hf w).mono fun e w' ⟨he, hq⟩ => ⟨by rw [he]; simp [moreB, moreV, hf], hq⟩
  | true => exact (more_ok s a b hs.1 hs.2 ha.1 ha.2 hb.1 hb.2 hf w).mono fun e w' ⟨he, hq⟩ => ⟨by rw [he]; simp [moreB, moreV, hf], hq⟩

/-- f with zeros up to N; then with k times the first j numbers of g -/
def padL (f : List Int) (N : Nat) : List Int := f ++ List.replicate (N - f.length) 0
theorem padL_len (f : List Int) (N : Nat) (h : f.length ≤ N) : (padL f N).length = N := by simp [padL]; omega
theorem padL_get (f : List Int) (N j : Nat) (h : j < N) : (padL f N).getD j 0 = f.getD j 0 := by
  unfold padL
  by_cases hj : j < f.length
  · simp [List.getD, List.getElem?_append_left hj]
  · have h1 : j - f.length < N - f.length := by omega
    simp [List.getD, List.getElem?_append_right (Nat.le_of_not_lt hj), List.getElem?_eq_none (Nat.le_of_not_lt hj), List.getElem?_replicate, h1]
theorem setTo_pad (f : List Int) (N : Nat) (h : f.length ≤ N) : setTo (padL f N) f.length N = (padL f N).map (Value.int .i64) := by
  unfold setTo padL
  rw [List.take_left']
  · rfl
def addT (f g : List Int) (k : Int) (N j : Nat) : List Int := (List.range N).map (fun i : Nat => if i < j then f.getD i 0 + k * g.getD i 0 else f.getD i 0)
theorem addT_len (f g : List Int) (k : Int) (N j : Nat) : (addT f g k N j).length = N := by simp [addT]
theorem addT_get (f g : List Int) (k : Int) (N j i : Nat) (h : i < N) : (addT f g k N j).getD i 0 = if i < j then f.getD i 0 + k * g.getD i 0 else f.getD i 0 := by
  simp only [addT, List.getD, List.getElem?_map, List.getElem?_range h]
  rfl
theorem addT_zero (f g : List Int) (k : Int) (N : Nat) (h : f.length ≤ N) : padL f N = addT f g k N 0 := by
  apply List.ext_getElem (by rw [padL_len f N h, addT_len])
  intro i h1 h2
  rw [padL_len f N h] at h1
  have e1 := padL_get f N i h1
  have e2 := addT_get f g k N 0 i h1
  rw [if_neg (Nat.not_lt_zero _)] at e2
  have := e1.trans e2.symm
  simpa [List.getD, List.getElem?_eq_getElem, padL_len f N h, addT_len, h1] using this
theorem addT_step (f g : List Int) (k : Int) (N j : Nat) (h : j < N) : (addT f g k N j).set j (f.getD j 0 + k * g.getD j 0) = addT f g k N (j+1) := by
  apply List.ext_getElem (by simp [addT])
  intro i h1 h2
  rw [addT_len] at h2
  by_cases e : j = i
  · subst e
    simp [addT]
  · by_cases e2 : i < j
    · simp [addT, List.getElem_set, e, e2, show i < j + 1 by omega]
    · simp [addT, List.getElem_set, e, e2, show ¬ i < j + 1 by omega]

def addOk (f g : List Int) (k : Int) (j : Nat) : Prop := ∀ i, i < j → moreB (f.getD i 0) k (g.getD i 0) = true
def addOf (f g : List Int) (k : Int) : List Int × Int :=
  if (wholeB f && wholeB g) = false then ([], 1) else if (decide (-1000 ≤ k) && decide (k ≤ 1000)) = false then ([], 2) else
  if (List.range g.length).all (fun i : Nat => moreB (f.getD i 0) k (g.getD i 0)) = false then ([], 3) else (trim (addT f g k (max f.length g.length) g.length), 0)

theorem getD_lim {f : List Int} (h : wholeB f = true) (j : Nat) : Lim (f.getD j 0) := by
  by_cases hj : j < f.length
  · exact (wholeB_lim h).2 j hj
  · have : f.getD j 0 = 0 := by simp [List.getD, List.getElem?_eq_none (Nat.le_of_not_lt hj)]
    rw [this]; unfold Lim; omega

end Go.Proofs.Ytebgbplhcaocoaa
