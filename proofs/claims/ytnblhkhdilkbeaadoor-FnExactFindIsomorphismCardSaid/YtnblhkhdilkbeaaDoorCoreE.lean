/- Merged: Cov, Cyc, Perm, ImplCyc, SpecPerm, SpecCov (the plain kit of these proofs). -/
import Derived.Test.YtnblhkhdilkbeaaDoorCoreA
import Derived.Test.YtnblhkhdilkbeaaDoorCoreB
import Derived.Test.YtnblhkhdilkbeaaDoorCoreD
import Derived.Deep.RegionHeld3
import Derived.Deep.RegionLaw
set_option linter.unusedSimpArgs false
set_option linter.unusedVariables false
/- The laws' helpers on covers: sizes, copies, equality, marks. -/
set_option maxRecDepth 100000
namespace Go.Proofs.YtnblhkhdilkbeaaDoor
open Go.RowKit

end Go.Proofs.YtnblhkhdilkbeaaDoor

/- Cyclic covers: one turn, by the program and by the model. -/
namespace Go.Proofs.YtnblhkhdilkbeaaDoor
open Go.RowKit

def tw1 (sh y i : Int) : Int := Int.tmod (Int.tmod (i + y) sh + sh) sh
def twB (sh y : Int) : List Int := (List.range sh.toNat).map (fun i : Nat => tw1 sh y i)
theorem twB_len (sh y : Int) : (twB sh y).length = sh.toNat := by simp [twB]
theorem twB_get {sh y : Int} {k : Nat} (h : k < sh.toNat) : (twB sh y).getD k 0 = tw1 sh y k := by simp [twB, List.getD, h]
theorem tmod_bd {x sh : Int} (h : 1 ≤ sh) : -sh < Int.tmod x sh ∧ Int.tmod x sh < sh := by
  have h1 := Int.tmod_lt_of_pos x (show 0 < sh by omega)
  have h2 := Int.lt_tmod_of_pos x (show 0 < sh by omega)
  omega
theorem tw1_bd {sh y i : Int} (h : 1 ≤ sh) : -sh < tw1 sh y i ∧ tw1 sh y i < sh := tmod_bd h
theorem twB_I64 {sh y : Int} (h : 1 ≤ sh) (h4 : sh ≤ 4) : ∀ x ∈ twB sh y, I64 x := by
  intro x hx
  simp only [twB, List.mem_map] at hx
  obtain ⟨k, _, rfl⟩ := hx
  have := tw1_bd (sh := sh) (y := y) (i := k) h
  unfold I64; omega

end Go.Proofs.YtnblhkhdilkbeaaDoor

/- Permutations of at most four sheets: the model looks for a number twice, the program sorts; both say the same. -/
namespace Go.Proofs.YtnblhkhdilkbeaaDoor
open Go.RowKit

def permB (s : Int) (t : List Int) : Bool := decide ((t.length : Int) = s) && (List.range t.length).all (fun i => inR (t.getD i 0) s && !((t.take i).contains (t.getD i 0)))
def swapL (x : List Int) (j : Nat) : List Int := (x.set (j+1) (x.getD j 0)).set j (x.getD (j+1) 0)
def sink : Nat → List Int → List Int
  | 0, x => x
  | j+1, x => if x.getD (j+1) 0 < x.getD j 0 then sink j (swapL x j) else x
def sortTo : Nat → List Int → List Int
  | 0, x => x
  | k+1, x => sink (k+1) (sortTo k x)
def isort (x : List Int) : List Int := sortTo (x.length - 1) x
def pad (t : List Int) : List Int := t ++ ([0, 1, 2, 3] : List Int).drop t.length

theorem swapL_len (x : List Int) (j : Nat) : (swapL x j).length = x.length := by simp [swapL]
theorem sink_len : ∀ (j : Nat) (x : List Int), (sink j x).length = x.length
  | 0, x => rfl
  | j+1, x => by unfold sink; split <;> simp [sink_len j, swapL_len]
theorem sortTo_len : ∀ (k : Nat) (x : List Int), (sortTo k x).length = x.length
  | 0, x => rfl
  | k+1, x => by simp [sortTo, sink_len, sortTo_len k]
theorem swapL_perm {x : List Int} {j : Nat} (h : j + 1 < x.length) : (swapL x j).Perm x := by
  have := List.set_set_perm h (show j < x.length by omega)
  simpa [swapL, List.getD, List.getElem?_eq_getElem h, List.getElem?_eq_getElem (show j < x.length by omega)] using this
theorem sink_perm : ∀ (j : Nat) (x : List Int), j < x.length → (sink j x).Perm x
  | 0, x, _ => .refl _
  | j+1, x, h => by
    unfold sink
    split
    · exact (sink_perm j _ (by rw [swapL_len]; omega)).trans (swapL_perm h)
    · exact .refl _
theorem sortTo_perm : ∀ (k : Nat) (x : List Int), k < x.length → (sortTo k x).Perm x
  | 0, x, _ => .refl _
  | k+1, x, h => (sink_perm (k+1) _ (by rw [sortTo_len]; exact h)).trans (sortTo_perm k x (by omega))
theorem isort_perm {x : List Int} (h : 0 < x.length) : (isort x).Perm x := sortTo_perm _ _ (by omega)

def four : List Int := [0, 1, 2, 3]
theorem fin1 : ∀ a ∈ four, permB 1 [a] = decide (isort (pad [a]) = four) := by decide +kernel
theorem fin2 : ∀ a ∈ four, ∀ b ∈ four, permB 2 [a, b] = decide (isort (pad [a, b]) = four) := by decide +kernel
theorem fin3 : ∀ a ∈ four, ∀ b ∈ four, ∀ c ∈ four, permB 3 [a, b, c] = decide (isort (pad [a, b, c]) = four) := by decide +kernel
theorem fin4 : ∀ a ∈ four, ∀ b ∈ four, ∀ c ∈ four, ∀ d ∈ four, permB 4 [a, b, c, d] = decide (isort (pad [a, b, c, d]) = four) := by decide +kernel

theorem len1 {t : List Int} (h : t.length = 1) : ∃ a, t = [a] := by
  match t, h with
  | [a], _ => exact ⟨a, rfl⟩
theorem len2 {t : List Int} (h : t.length = 2) : ∃ a b, t = [a, b] := by
  match t, h with
  | [a, b], _ => exact ⟨a, b, rfl⟩
theorem len3 {t : List Int} (h : t.length = 3) : ∃ a b c, t = [a, b, c] := by
  match t, h with
  | [a, b, c], _ => exact ⟨a, b, c, rfl⟩
theorem len4 {t : List Int} (h : t.length = 4) : ∃ a b c d, t = [a, b, c, d] := by
  match t, h with
  | [a, b, c, d], _ => exact ⟨a, b, c, d, rfl⟩

theorem inR_four {x s : Int} (h : inR x s = true) (hs : s ≤ 4) : x ∈ four := by
  unfold inR at h
  simp at h
  have : x = 0 ∨ x = 1 ∨ x = 2 ∨ x = 3 := by omega
  simpa [four] using this
theorem permB_in {s : Int} {t : List Int} (h : permB s t = true) : ∀ i, i < t.length → inR (t.getD i 0) s = true := by
  intro i hi
  unfold permB at h
  simp only [Bool.and_eq_true, List.all_eq_true, List.mem_range] at h
  exact (h.2 i hi).1
theorem permB_len {s : Int} {t : List Int} (h : permB s t = true) : (t.length : Int) = s := by
  unfold permB at h
  simp only [Bool.and_eq_true, decide_eq_true_eq] at h
  exact h.1

theorem permB_sort {s : Int} {t : List Int} (h1 : 1 ≤ s) (h2 : s ≤ 4) (hl : (t.length : Int) = s) : permB s t = decide (isort (pad t) = four) := by
  by_cases hall : ∀ x ∈ t, x ∈ four
  · have hs : s = 1 ∨ s = 2 ∨ s = 3 ∨ s = 4 := by omega
    rcases hs with rfl | rfl | rfl | rfl
    · obtain ⟨a, rfl⟩ := len1 (by omega : t.length = 1)
      exact fin1 a (hall a (by simp))
    · obtain ⟨a, b, rfl⟩ := len2 (by omega : t.length = 2)
      exact fin2 a (hall a (by simp)) b (hall b (by simp))
    · obtain ⟨a, b, c, rfl⟩ := len3 (by omega : t.length = 3)
      exact fin3 a (hall a (by simp)) b (hall b (by simp)) c (hall c (by simp))
    · obtain ⟨a, b, c, d, rfl⟩ := len4 (by omega : t.length = 4)
      exact fin4 a (hall a (by simp)) b (hall b (by simp)) c (hall c (by simp)) d (hall d (by simp))
  · have h3 : permB s t = false := by
      cases e : permB s t with
      | false => rfl
      | true =>
        exfalso
        apply hall
        intro x hx
        obtain ⟨i, hi, rfl⟩ := List.getElem_of_mem hx
        have := permB_in e i hi
        simp only [List.getD, List.getElem?_eq_getElem hi, Option.getD_some] at this
        exact inR_four this h2
    rw [h3]
    symm
    rw [decide_eq_false_iff_not]
    intro e
    apply hall
    intro x hx
    have hm : x ∈ isort (pad t) := (isort_perm (x := pad t) (by simp [pad]; omega)).mem_iff.2 (by simp [pad, hx])
    rw [e] at hm
    exact hm

end Go.Proofs.YtnblhkhdilkbeaaDoor

/- CyclicCover of the program. -/
set_option maxRecDepth 100000
namespace Go.Proofs.YtnblhkhdilkbeaaDoor
open Go.RowKit

theorem RdI.cellsC {lo hi : Nat} {w : World} {a : Option Addr} {n c : Nat} {xs : List Int} (h : RdI lo hi w (.slice a n c) xs) (hn : xs.length = n) : ∀ j, j < n → ∃ b off, a = some ⟨b, off, none⟩ ∧ w.cell? ⟨b, off + j, none⟩ = some (.int .i64 (xs.getD j 0)) := by
  intro j hj
  obtain ⟨_, _, ⟨a', c', rfl, _⟩ | ⟨b, off, c', hv, _, _, _, hc⟩⟩ := h
  · simp at hn; omega
  · simp only [Value.slice.injEq] at hv
    obtain ⟨rfl, _, _⟩ := hv
    exact ⟨b, off, rfl, hc j (by omega)⟩


/-- a block of four cells -/
structure Box4 (w : World) (b : Nat) (v0 v1 v2 v3 : Value) : Prop where
  lt : b < w.heap.size
  c0 : w.cell? ⟨b, 0, none⟩ = some v0
  c1 : w.cell? ⟨b, 1, none⟩ = some v1
  c2 : w.cell? ⟨b, 2, none⟩ = some v2
  c3 : w.cell? ⟨b, 3, none⟩ = some v3
  f0 : w.frozen? ⟨b, 0, none⟩ = false
  f1 : w.frozen? ⟨b, 1, none⟩ = false
  f2 : w.frozen? ⟨b, 2, none⟩ = false
  f3 : w.frozen? ⟨b, 3, none⟩ = false
theorem Box4.chg {w w' : World} {b lo hi : Nat} {v0 v1 v2 v3 : Value} (h : Box4 w b v0 v1 v2 v3) (hc : Chg lo hi w w') (hb : b < lo ∨ hi ≤ b) : Box4 w' b v0 v1 v2 v3 :=
  ⟨Nat.lt_of_lt_of_le h.lt hc.size, hc.cell h.c0 hb, hc.cell h.c1 hb, hc.cell h.c2 hb, hc.cell h.c3 hb, hc.frozen h.lt hb h.f0, hc.frozen h.lt hb h.f1, hc.frozen h.lt hb h.f2, hc.frozen h.lt hb h.f3⟩
theorem Box4.below {w w' : World} {b : Nat} {v0 v1 v2 v3 : Value} (h : Box4 w b v0 v1 v2 v3) (hc : Below w.heap.size w w') : Box4 w' b v0 v1 v2 v3 := h.chg (hc.chg 0 0) (.inr (Nat.zero_le _))
theorem Box4.qt {w w' : World} {b : Nat} {v0 v1 v2 v3 : Value} (h : Box4 w b v0 v1 v2 v3) (hc : Qt w w') : Box4 w' b v0 v1 v2 v3 := h.below hc.below

def shB (sh : Int) : Bool := decide (1 ≤ sh) && decide (sh ≤ 4)
def w1k (y : Int) : Bool := decide (-1000 ≤ y) && decide (y ≤ 1000)
def cycB (sh : Int) (n : Nat) (ys : List Int) : Bool := shB sh && (decide (ys.length = n) && ys.all w1k)
def cycCode (s : Int) (xss : List (List Int)) (sh : Int) (ys : List Int) : Int := if grB s xss then (if cycB sh xss.length ys then 0 else 2) else 1
theorem all_takeI {ys : List Int} {f : Int → Bool} {k : Nat} (hk : k < ys.length) (h : (ys.take k).all f = true) (e : f (ys.getD k 0) = true) : (ys.take (k+1)).all f = true := by
  rw [List.take_add_one, List.all_append, h, List.getElem?_eq_getElem hk]
  simp [List.getD, List.getElem?_eq_getElem hk] at e
  simp [e]
theorem all_notI {ys : List Int} {f : Int → Bool} {k : Nat} (hk : k < ys.length) (e : f (ys.getD k 0) = false) : ys.all f = false := by
  simp [List.getD, List.getElem?_eq_getElem hk] at e
  rw [List.all_eq_false]
  exact ⟨_, List.getElem_mem hk, by simp [e]⟩

end Go.Proofs.YtnblhkhdilkbeaaDoor

/- Permutations of sheets, by the model: a number is met or not, in an array of four. -/
set_option maxRecDepth 100000
namespace Go.Proofs.YtnblhkhdilkbeaaDoor
open Go.RowKit

/-- a block of four bools: which of 0 to 3 are in the list -/
def BoxM (w : World) (b : Nat) (M : List Int) : Prop := Box4 w b (.bool (M.contains 0)) (.bool (M.contains 1)) (.bool (M.contains 2)) (.bool (M.contains 3))

theorem contains_snoc (M : List Int) (x j : Int) : (M ++ [x]).contains j = (M.contains j || decide (j = x)) := by
  rw [Bool.eq_iff_iff]; simp
theorem BoxM.put {w : World} {b : Nat} {M : List Int} (h : BoxM w b M) {x : Nat} (hx : x < 4) : BoxM (w.setCell ⟨b, x, none⟩ (.bool true)) b (M ++ [(x : Int)]) := by
  obtain ⟨lt, c0, c1, c2, c3, f0, f1, f2, f3⟩ := h
  unfold BoxM
  have hx' : x = 0 ∨ x = 1 ∨ x = 2 ∨ x = 3 := by omega
  rw [contains_snoc, contains_snoc, contains_snoc, contains_snoc]
  generalize M.contains 0 = m0 at *
  generalize M.contains 1 = m1 at *
  generalize M.contains 2 = m2 at *
  generalize M.contains 3 = m3 at *
  rcases hx' with rfl | rfl | rfl | rfl <;> refine ⟨by simpa [World.setCell] using lt, ?_, ?_, ?_, ?_, ?_, ?_, ?_, ?_⟩ <;> first | (simp; done) | (go_simp; done) | (rw [World.frozen?_setCell]; assumption) | (simp; go_simp; done)

theorem permB_no_len {s : Int} {t : List Int} (h : ¬ (t.length : Int) = s) : permB s t = false := by unfold permB; simp [h]
theorem permB_no {s : Int} {t : List Int} {k : Nat} (hk : k < t.length) (h : (inR (t.getD k 0) s && !((t.take k).contains (t.getD k 0))) = false) : permB s t = false := by
  unfold permB
  rw [Bool.and_eq_false_iff]; right
  rw [List.all_eq_false]
  exact ⟨k, List.mem_range.2 hk, by rw [h]; simp⟩
def permTo (s : Int) (t : List Int) (k : Nat) : Bool := (List.range k).all (fun i => inR (t.getD i 0) s && !((t.take i).contains (t.getD i 0)))
theorem permTo_step {s : Int} {t : List Int} {k : Nat} (h : permTo s t k = true) (e : (inR (t.getD k 0) s && !((t.take k).contains (t.getD k 0))) = true) : permTo s t (k+1) = true := by
  unfold permTo at *
  rw [List.range_succ, List.all_append, h]; simp only [List.all_cons, List.all_nil, Bool.and_true, Bool.true_and]; exact e
theorem permB_yes {s : Int} {t : List Int} (hl : (t.length : Int) = s) (h : permTo s t t.length = true) : permB s t = true := by
  unfold permB; unfold permTo at h; rw [h]; simp [hl]
theorem take_snoc {t : List Int} {k : Nat} (h : k < t.length) : t.take (k+1) = t.take k ++ [t.getD k 0] := by
  rw [List.take_add_one, List.getElem?_eq_getElem h]; simp [List.getD, List.getElem?_eq_getElem h]

end Go.Proofs.YtnblhkhdilkbeaaDoor

/- IsCover of the model. -/
set_option maxRecDepth 100000
namespace Go.Proofs.YtnblhkhdilkbeaaDoor
open Go.RowKit

def cvB (s : Int) (xss : List (List Int)) (sh : Int) (ts : List (List Int)) : Bool := grB s xss && (shB sh && (decide (ts.length = xss.length) && ts.all (permB sh)))

theorem RdR.cellsR {lo hi : Nat} {w : World} {a : Option Addr} {n c : Nat} {xss : List (List Int)} (h : RdR lo hi w (.slice a n c) xss) (hn : xss.length = n) :
    ∀ j, j < n → ∃ b off a' c', a = some ⟨b, off, none⟩ ∧ w.cell? ⟨b, off + j, none⟩ = some (.slice a' (xss.getD j []).length c') ∧ RdI lo hi w (.slice a' (xss.getD j []).length c') (xss.getD j []) := by
  intro j hj
  obtain ⟨_, ⟨a', c', rfl, _⟩ | ⟨b, off, c', hv, _, _, _, hc⟩⟩ := h
  · simp at hn; omega
  · simp only [Value.slice.injEq] at hv
    obtain ⟨rfl, _, _⟩ := hv
    obtain ⟨rv, h1, h2⟩ := hc j (by omega)
    obtain ⟨a', c', rfl⟩ := h2.shape
    exact ⟨b, off, a', c', rfl, h1, h2⟩

end Go.Proofs.YtnblhkhdilkbeaaDoor
