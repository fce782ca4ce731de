/- Graphs of rows of 0 and 1: plain facts, and the program's. -/
import Derived.Test.YtnblhkhdilkbeaaDoorSimP
import Derived.Test.YtnblhkhdilkbeaaDoorCoreB
import Derived.Deep.AppendLies
set_option linter.unusedSimpArgs false
set_option linter.unusedVariables false
set_option maxRecDepth 100000
namespace Go.Proofs.YtnblhkhdilkbeaaDoor
open Go.RowKit

/-- the edges i, j with i < j < m -/
def smR (f : Nat → Nat → Int) (i : Nat) : Nat → List (Int × Int)
  | 0 => []
  | m + 1 => if i < m ∧ f i m ≠ 0 then smR f i m ++ [((i : Int), (m : Int))] else smR f i m
def smT (f : Nat → Nat → Int) (S : Nat) : Nat → List (Int × Int)
  | 0 => []
  | k + 1 => smT f S k ++ smR f k S
theorem smR_low (f : Nat → Nat → Int) (i : Nat) : ∀ m, m ≤ i + 1 → smR f i m = []
  | 0, _ => rfl
  | m + 1, h => by
    unfold smR
    rw [if_neg (by omega)]
    exact smR_low f i m (by omega)
theorem smR_in {f : Nat → Nat → Int} {i m : Nat} (h : i < m) (hf : f i m ≠ 0) : smR f i (m + 1) = smR f i m ++ [((i : Int), (m : Int))] := by
  show (if i < m ∧ f i m ≠ 0 then _ else _) = _
  rw [if_pos ⟨h, hf⟩]
theorem smR_out {f : Nat → Nat → Int} {i m : Nat} (hf : f i m = 0) : smR f i (m + 1) = smR f i m := by
  show (if i < m ∧ f i m ≠ 0 then _ else _) = _
  rw [if_neg (fun e => e.2 hf)]
theorem smR_len (f : Nat → Nat → Int) (i : Nat) : ∀ m, (smR f i m).length ≤ m
  | 0 => Nat.le_refl _
  | m + 1 => by
    have := smR_len f i m
    unfold smR
    split
    · simp; omega
    · omega
theorem smT_len (f : Nat → Nat → Int) (S : Nat) (hS : S ≤ 8) : ∀ k, (smT f S k).length ≤ 8 * k
  | 0 => Nat.le_refl _
  | k + 1 => by
    have := smT_len f S hS k
    have h2 := smR_len f k S
    unfold smT
    simp; omega
theorem smR_mem {f : Nat → Nat → Int} {i : Nat} : ∀ m, ∀ e ∈ smR f i m, e.1 = (i : Int) ∧ 0 ≤ e.2 ∧ e.2 < (m : Int)
  | 0, e, h => by simp [smR] at h
  | m + 1, e, h => by
    have ih := smR_mem (f := f) (i := i) m
    unfold smR at h
    split at h
    · rcases List.mem_append.mp h with h | h
      · have := ih e h; omega
      · simp at h; subst h; simp; omega
    · have := ih e h; omega
theorem smT_mem {f : Nat → Nat → Int} {S : Nat} : ∀ k, k ≤ S → ∀ e ∈ smT f S k, (0 ≤ e.1 ∧ e.1 < (S : Int)) ∧ 0 ≤ e.2 ∧ e.2 < (S : Int)
  | 0, _, e, h => by simp [smT] at h
  | k + 1, hk, e, h => by
    unfold smT at h
    rcases List.mem_append.mp h with h | h
    · exact smT_mem k (by omega) e h
    · have := smR_mem S e h; omega
def simE (f : Nat → Nat → Int) (S : Nat) : List (Int × Int) := smT f S S
def smgOf (f : Nat → Nat → Int) (S : Nat) : (Int × List (List Int)) × Int := if (simE f S).length ≤ 10 then (((S : Int), unp (simE f S)), 0) else ((0, []), 3)
theorem smgOf_yes {f : Nat → Nat → Int} {S : Nat} (h : (simE f S).length ≤ 10) : smgOf f S = (((S : Int), unp (simE f S)), 0) := by unfold smgOf; rw [if_pos h]
theorem smgOf_no {f : Nat → Nat → Int} {S : Nat} (h : ¬ (simE f S).length ≤ 10) : smgOf f S = ((0, []), 3) := by unfold smgOf; rw [if_neg h]
theorem unp_lensS (es : List (Int × Int)) : lens (unp es) = 2 * es.length := by
  unfold lens unp
  rw [List.map_map]
  induction es with
  | nil => rfl
  | cons e r ih => simp only [List.map_cons, List.sum_cons, ih, List.length_cons, Function.comp]; simp; omega
theorem smgOf_lens (f : Nat → Nat → Int) (S : Nat) : lens (smgOf f S).1.2 ≤ 1000 := by
  unfold smgOf
  split
  · simp only [unp_lensS]; omega
  · simp [lens]
theorem simE_I64 {f : Nat → Nat → Int} {S : Nat} (hS : S ≤ 8) (j : Nat) (hj : j < (simE f S).length) : I64 ((simE f S).getD j (0, 0)).1 ∧ I64 ((simE f S).getD j (0, 0)).2 := by
  have hm : (simE f S).getD j (0, 0) ∈ simE f S := by
    have : (simE f S).getD j (0, 0) = (simE f S)[j] := by simp [List.getD, List.getElem?_eq_getElem hj]
    rw [this]; exact List.getElem_mem hj
  have := smT_mem S (Nat.le_refl _) _ hm
  unfold I64; omega
theorem smT_congr {f g : Nat → Nat → Int} {S : Nat} (h : ∀ i j, i < S → j < S → (f i j = 0 ↔ g i j = 0)) : ∀ k, k ≤ S → smT f S k = smT g S k := by
  have hr : ∀ i, i < S → ∀ m, m ≤ S → smR f i m = smR g i m := by
    intro i hi m
    induction m with
    | zero => intro _; rfl
    | succ m ih =>
      intro hm
      unfold smR
      rw [ih (by omega)]
      have : (i < m ∧ f i m ≠ 0) ↔ (i < m ∧ g i m ≠ 0) := by rw [Ne, Ne, h i m hi (by omega)]
      simp only [this]
  intro k
  induction k with
  | zero => intro _; rfl
  | succ k ih =>
    intro hk
    unfold smT
    rw [ih (by omega), hr k (by omega) S (Nat.le_refl _)]

/-- what the loops keep: the result's box -/
structure SmI (y : Nat) (w W : World) : Prop where
  below : Below y w W
  y0 : W.cell? ⟨y, 0, none⟩ = some (.int .i64 0)
  y1 : W.cell? ⟨y, 1, none⟩ = some (.slice none 0 0)
  f0 : W.frozen? ⟨y, 0, none⟩ = false
  f1 : W.frozen? ⟨y, 1, none⟩ = false
  ylt : y < W.heap.size
theorem SmI.next {y L : Nat} {w W W' : World} (h : SmI y w W) (b : Below L W W') (hL : y < L) (hs : L ≤ W.heap.size) : SmI y w W' :=
  ⟨h.below.trans (b.mono (Nat.le_of_lt hL)), (b.cell hL).trans h.y0, (b.cell hL).trans h.y1, (b.frozen hL).trans h.f0, (b.frozen hL).trans h.f1, Nat.lt_of_lt_of_le h.ylt b.size⟩

/-- a row of a table: where it lies -/
theorem rowsAt {lo hi : Nat} {w : World} {a : Option Addr} {S c : Nat} {f : Nat → Nat → Int} (h : RdR lo hi w (.slice a S c) (tab S f)) {i : Nat} (hi' : i < S) : ∃ b off b' off' c', a = some ⟨b, off, none⟩ ∧ w.cell? ⟨b, off + i, none⟩ = some (.slice (some ⟨b', off', none⟩) S c') ∧ b < w.heap.size ∧ b' < w.heap.size ∧ ∀ j, j < S → w.cell? ⟨b', off' + j, none⟩ = some (.int .i64 (f i j)) := by
  obtain ⟨b, off, rv, e1, e2, e3⟩ := h.at (tab_len _ _) i hi'
  obtain ⟨a', c', rfl⟩ := e3.shape
  rw [tab_rlen f hi'] at e2 e3
  obtain ⟨b', off', rfl, e4⟩ := e3.at (tab_rlen f hi') i hi'
  refine ⟨b, off, b', off', c', e1, e2, World.block_lt_of_cell? w _ e2, World.block_lt_of_cell? w _ e4, fun j hj => ?_⟩
  obtain ⟨b2, off2, ee, e5⟩ := e3.at (tab_rlen f hi') j hj
  simp only [Option.some.injEq, Addr.mk.injEq, and_true] at ee
  obtain ⟨rfl, rfl⟩ := ee
  rw [tab_get f hi' hj] at e5
  exact e5

end Go.Proofs.YtnblhkhdilkbeaaDoor
