/- The model's copy of a graph. -/
import Derived.Test.YtgcidkcedfliiaaGraphWith
import Derived.Test.YtgcidkcedfliiaaOwnI
import Derived.Deep.RegionLaw
set_option linter.unusedSimpArgs false
set_option linter.unusedVariables false
namespace Go.Proofs.Ytgcidkcedfliiaa
open Go.RowKit

theorem take_snocR {xss : List (List Int)} {k : Nat} (hk : k < xss.length) : xss.take (k+1) = xss.take k ++ [xss.getD k []] := by
  rw [List.take_add_one, List.getElem?_eq_getElem hk]
  simp [List.getD, List.getElem?_eq_getElem hk]

theorem copy_close {G x g k c' g2 c3 hi : Nat} {wr w1 w3 : World} {o : Obj} {rvs : List Value} {xs : List (List Int)} {rv : Value} {ys : List Int} (HP : OwP G x wr g k c' rvs xs) (hx : x < wr.heap.size) (bb : Below wr.heap.size wr w1) (o2 : OwI wr.heap.size hi w1 rv ys)
    (hown : w3.ownsRow G 25 1 (.slice (some ⟨g2, 0, none⟩) (k + 1) c3) (k + 1) (rvs ++ [rv])) (hgr : (w1.alloc o).grownBy w3 (some g)) (hlie : some g = some g2 ∨ g2 = (w1.alloc o).heap.size) (v : Value) :
    OwP G x (w3.setCell ⟨x, 1, none⟩ v) g2 (k + 1) c3 (rvs ++ [rv]) (xs ++ [ys]) :=
  (HP.snocF hx bb o2 hown hgr hlie).box ((Chg.refl x (x+1) _).setCell (p := ⟨x, 1, none⟩) ⟨Nat.le_refl _, Nat.lt_succ_self _⟩ _)

end Go.Proofs.Ytgcidkcedfliiaa
