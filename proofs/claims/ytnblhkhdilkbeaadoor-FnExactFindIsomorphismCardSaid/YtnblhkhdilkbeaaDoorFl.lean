/- The program's way to a determinant (Faddeev, LeVerrier). -/
import Derived.Test.YtnblhkhdilkbeaaDoorDetB
import Derived.Test.YtnblhkhdilkbeaaDoorCoreG
import Derived.Test.YtnblhkhdilkbeaaDoorWz
import Derived.StillTailTactics
set_option linter.unusedSimpArgs false
set_option linter.unusedVariables false
set_option maxRecDepth 100000
namespace Go.Proofs.YtnblhkhdilkbeaaDoor
open Go.RowKit

/-- the determinant's numbers, from that at u^0 on -/
def dkL (A : Nat → Nat → Int) (n : Nat) : List Int := (List.range (n + 1)).map (dk A n)
def dkT (A : Nat → Nat → Int) (n k : Nat) : List Int := (List.range (k + 1)).map (dk A n)
theorem dkT_len (A : Nat → Nat → Int) (n k : Nat) : (dkT A n k).length = k + 1 := by simp [dkT]
theorem dkT_get {A : Nat → Nat → Int} {n k j : Nat} (h : j < k + 1) : (dkT A n k).getD j 0 = dk A n j := by simp [dkT, List.getD, h]
theorem dkT_s (A : Nat → Nat → Int) (n k : Nat) : dkT A n (k + 1) = dkT A n k ++ [dk A n (k + 1)] := by
  unfold dkT
  rw [List.range_succ (n := k + 1), List.map_append]; rfl
theorem dkT_I64 {A : Nat → Nat → Int} {n : Nat} (h : fits A n) {k : Nat} (hk : k ≤ n) : ∀ x ∈ dkT A n k, I64 x := fun x hx => by
  unfold dkT at hx
  obtain ⟨j, hj, rfl⟩ := List.mem_map.mp hx
  exact fits_I64 h (by have : j < k + 1 := by simpa using hj
                       omega)

/-- the diagonal done up to a row -/
def dgS (S : Nat → Nat → Int) (c : Int) (q : Nat) : Nat → Nat → Int := fun i j => if i = j ∧ i < q then wrap64 (S i j + c) else S i j
theorem dgS_0 (S : Nat → Nat → Int) (c : Int) : dgS S c 0 = S := by funext i j; simp [dgS]
theorem dgS_at (S : Nat → Nat → Int) (c : Int) (q : Nat) : dgS S c q q q = S q q := by simp [dgS]
theorem dgS_put (S : Nat → Nat → Int) (c : Int) (q : Nat) : put (dgS S c q) q q (wrap64 (S q q + c)) = dgS S c (q + 1) := by
  funext i j
  unfold put dgS
  by_cases h : i = q ∧ j = q
  · obtain ⟨rfl, rfl⟩ := h; simp
  · rw [if_neg h]
    by_cases h2 : i = j ∧ i < q
    · rw [if_pos h2, if_pos ⟨h2.1, by omega⟩]
    · rw [if_neg h2, if_neg (by omega)]
theorem dgS_n (S : Nat → Nat → Int) (c : Int) (n : Nat) : tab n (dgS S c n) = tab n (addD S c) := by
  refine tab_congr fun i j hi hj => ?_
  unfold dgS addD
  by_cases h : i = j
  · rw [if_pos ⟨h, hi⟩, if_pos h]
  · rw [if_neg (fun x => h x.1), if_neg h]

/-- what the steps keep -/
structure flI (w : World) (n : Nat) (A : Nat → Nat → Int) (k : Nat) (W : World) (g cg : Nat) (sa : Option Addr) (cs L H : Nat) : Prop where
  own : W.ownsRow w.heap.size 2 1 (.slice (some ⟨g, 0, none⟩) (k + 1) cg) (k + 1) ((dkT A n k).map (Value.int .i64))
  st : OwR L H W (.slice sa n cs) (tab n (flP n A k).1)
  sep : g < L ∨ H ≤ g
  below : Below w.heap.size w W
  base : w.heap.size ≤ L
  top : H ≤ W.heap.size

end Go.Proofs.YtnblhkhdilkbeaaDoor
