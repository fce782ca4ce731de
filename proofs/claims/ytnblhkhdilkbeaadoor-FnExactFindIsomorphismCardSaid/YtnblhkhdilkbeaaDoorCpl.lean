/- ComplementOf, both sides. -/
import Derived.Test.YtnblhkhdilkbeaaDoorSpOf
import Derived.Test.YtnblhkhdilkbeaaDoorSimI
import Derived.Test.YtnblhkhdilkbeaaDoorCoreG
set_option linter.unusedSimpArgs false
set_option linter.unusedVariables false
set_option maxRecDepth 100000
namespace Go.Proofs.YtnblhkhdilkbeaaDoor
open Go.RowKit

/-- of the rows those before k, and of the row k the numbers before m, are turned -/
def cpS (f : Nat → Nat → Int) (k m : Nat) : Nat → Nat → Int := fun i j => if i < k ∨ (i = k ∧ j < m) then 1 - f i j else f i j
def cpF (f : Nat → Nat → Int) : Nat → Nat → Int := fun i j => 1 - f i j
theorem cpS_start (f : Nat → Nat → Int) : cpS f 0 0 = f := by
  funext i j; unfold cpS; rw [if_neg (by omega)]
theorem cpS_at (f : Nat → Nat → Int) (k m : Nat) : cpS f k m k m = f k m := by unfold cpS; rw [if_neg (by omega)]
theorem cpS_put (f : Nat → Nat → Int) (k m : Nat) : put (cpS f k m) k m (1 - f k m) = cpS f k (m + 1) := by
  funext i j
  unfold put cpS
  by_cases h : i = k ∧ j = m
  · obtain ⟨rfl, rfl⟩ := h
    rw [if_pos ⟨rfl, rfl⟩, if_pos (by omega)]
  · rw [if_neg h]
    by_cases h2 : i < k ∨ (i = k ∧ j < m)
    · rw [if_pos h2, if_pos (by omega)]
    · rw [if_neg h2, if_neg (by omega)]
theorem cpS_row (f : Nat → Nat → Int) (N k : Nat) : tab N (cpS f k N) = tab N (cpS f (k + 1) 0) := tab_congr fun i j hi hj => by
  unfold cpS
  by_cases h : i < k ∨ (i = k ∧ j < N)
  · rw [if_pos h, if_pos (by omega)]
  · rw [if_neg h, if_neg (by omega)]
theorem cpS_all (f : Nat → Nat → Int) (N : Nat) : tab N (cpS f N 0) = tab N (cpF f) := tab_congr fun i j hi hj => by
  unfold cpS cpF
  rw [if_pos (by omega)]

def cplOf (s : Int) (xss : List (List Int)) : (Int × List (List Int)) × Int := if grB s xss = true then (if simB (adF xss) s.toNat = true then smgOf (cpF (adF xss)) s.toNat else ((0, []), 5)) else ((0, []), 1)
theorem cplOf_no {s : Int} {xss : List (List Int)} (h : grB s xss = false) : cplOf s xss = ((0, []), 1) := by unfold cplOf; rw [h]; rfl
theorem cplOf_st {S : Nat} {xss : List (List Int)} (h : grB (S : Int) xss = true) (h2 : simB (adF xss) S = false) : cplOf (S : Int) xss = ((0, []), 5) := by unfold cplOf; rw [if_pos h, Int.toNat_natCast, h2]; rfl
theorem cplOf_yes {S : Nat} {xss : List (List Int)} (h : grB (S : Int) xss = true) (h2 : simB (adF xss) S = true) : cplOf (S : Int) xss = smgOf (cpF (adF xss)) S := by unfold cplOf; rw [if_pos h, Int.toNat_natCast, h2]; rfl
theorem cplOf_lens (s : Int) (xss : List (List Int)) : lens (cplOf s xss).1.2 ≤ 1000 := by
  unfold cplOf
  split
  · split
    · exact smgOf_lens _ _
    · simp [lens]
  · simp [lens]

/-- the result's box, and what lies below -/
structure RbI (B y : Nat) (w W : World) : Prop where
  below : Below B w W
  y0 : W.cell? ⟨y, 0, none⟩ = some (.int .i64 0)
  y1 : W.cell? ⟨y, 1, none⟩ = some (.slice none 0 0)
  f0 : W.frozen? ⟨y, 0, none⟩ = false
  f1 : W.frozen? ⟨y, 1, none⟩ = false
  ylt : y < W.heap.size
  by0 : B ≤ y
theorem RbI.next {B y : Nat} {w W W' : World} (h : RbI B y w W) (b : Below W.heap.size W W') : RbI B y w W' := by
  have h1 := h.ylt
  have h2 := h.by0
  exact ⟨h.below.trans (b.mono (by omega)), b.keep h.y0, b.keep h.y1, b.keepf h1 h.f0, b.keepf h1 h.f1, Nat.lt_of_lt_of_le h1 b.size, h2⟩
theorem RbI.chg {B y lo hi : Nat} {w W W' : World} (h : RbI B y w W) (b : Chg lo hi W W') (hl : y < lo) : RbI B y w W' := by
  have h1 := h.ylt
  have h2 := h.by0
  exact ⟨h.below.chgn b (by omega) (by omega), b.cell h.y0 (.inl hl), b.cell h.y1 (.inl hl), b.frozen h1 (.inl hl) h.f0, b.frozen h1 (.inl hl) h.f1, Nat.lt_of_lt_of_le h1 b.size, h2⟩

end Go.Proofs.YtnblhkhdilkbeaaDoor
