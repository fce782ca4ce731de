/- RenumberGraph of the model. -/
import Derived.Test.YtnblhkhdilkbeaaDoorMpS
import Derived.Test.YtnblhkhdilkbeaaDoorCoreB
import Derived.Test.YtnblhkhdilkbeaaDoorCpl
import Derived.Test.YtnblhkhdilkbeaaDoorCoreF
import Derived.Deep.RegionLaw
set_option linter.unusedSimpArgs false
set_option linter.unusedVariables false
set_option maxRecDepth 100000
namespace Go.Proofs.YtnblhkhdilkbeaaDoor
open Go.RowKit

/-- the edges, renumbered -/
def rnE (xs : List Int) (xss : List (List Int)) : List (Int × Int) := (pairs xss).map (fun p => (xs.getD p.1.toNat 0, xs.getD p.2.toNat 0))
theorem rnE_len (xs : List Int) (xss : List (List Int)) : (rnE xs xss).length = xss.length := by simp [rnE, pairs]
def rnR (xs : List Int) (xss : List (List Int)) : List (List Int) := unp (rnE xs xss)
theorem rnR_len (xs : List Int) (xss : List (List Int)) : (rnR xs xss).length = xss.length := by unfold rnR; rw [unp_len, rnE_len]
theorem rnR_get {xs : List Int} {xss : List (List Int)} {k : Nat} (hk : k < xss.length) : (rnR xs xss).getD k [] = [xs.getD ((xss.getD k []).getD 0 0).toNat 0, xs.getD ((xss.getD k []).getD 1 0).toNat 0] := by
  unfold rnR unp rnE pairs
  simp [List.getD, hk]
def rnOf (s : Int) (xss : List (List Int)) (xs : List Int) : (Int × List (List Int)) × Int := if grB s xss = true then (if permB s xs = true then ((s, rnR xs xss), 0) else ((0, []), 2)) else ((0, []), 1)
theorem rnOf_lens (s : Int) (xss : List (List Int)) (xs : List Int) : lens (rnOf s xss xs).1.2 ≤ 1000 := by
  unfold rnOf
  split
  · rename_i hg
    split
    · show lens (rnR xs xss) ≤ 1000
      unfold rnR
      rw [unp_lensS, rnE_len]
      have := grB_iff hg
      omega
    · simp [lens]
  · simp [lens]

theorem snocCr {W0 w1 w3 : World} {o : Obj} {g : Nat} (hb : Below W0.heap.size W0 w1.drew) (hgr : (w1.alloc o).drew.grownBy w3 (some g)) : Chg g (g + 1) W0 w3 := snocC (w := w1.drew) (o := o) hb hgr
theorem copy_closeR {G x g k c' g2 c3 hi : Nat} {wr w1 w3 : World} {o : Obj} {rvs : List Value} {xs : List (List Int)} {rv : Value} {ys : List Int} (HP : OwP G x wr g k c' rvs xs) (hx : x < wr.heap.size) (bb : Below wr.heap.size wr w1.drew) (o2 : OwI wr.heap.size hi w1.drew rv ys)
    (hown : w3.ownsRow G 25 1 (.slice (some ⟨g2, 0, none⟩) (k + 1) c3) (k + 1) (rvs ++ [rv])) (hgr : (w1.alloc o).drew.grownBy w3 (some g)) (hlie : some g = some g2 ∨ g2 = (w1.alloc o).drew.heap.size) (v : Value) :
    OwP G x (w3.setCell ⟨x, 1, none⟩ v) g2 (k + 1) c3 (rvs ++ [rv]) (xs ++ [ys]) := copy_close (w1 := w1.drew) (o := o) HP hx bb o2 hown hgr hlie v
theorem rn_step {B R G x g : Nat} {s : Int} {w wr w3 : World} {V0 V1 : Value} (h1 : B < R) (h2 : R < G) (h3 : G < x) (h4 : G ≤ g) (hgx : x < g ∨ g + 1 ≤ x) (hch : Chg g (g + 1) wr w3) (hB : Below B w wr) (hx : x < wr.heap.size)
    (hf : wr.cell? ⟨B, 1, none⟩ = some V0 ∧ wr.cell? ⟨R, 0, none⟩ = some (.int .i64 0) ∧ wr.cell? ⟨R, 1, none⟩ = some (.slice none 0 0) ∧ wr.frozen? ⟨R, 0, none⟩ = false ∧ wr.frozen? ⟨R, 1, none⟩ = false ∧ wr.cell? ⟨x, 0, none⟩ = some (.int .i64 s))
    (y5 : w3.cell? ⟨x, 1, none⟩ = some V1) (yf5 : w3.frozen? ⟨x, 1, none⟩ = false) (v : Value) :
    Below B w (w3.setCell ⟨x, 1, none⟩ v) ∧ x < (w3.setCell ⟨x, 1, none⟩ v).heap.size ∧ (w3.setCell ⟨x, 1, none⟩ v).cell? ⟨B, 1, none⟩ = some V0 ∧ (w3.setCell ⟨x, 1, none⟩ v).cell? ⟨R, 0, none⟩ = some (.int .i64 0) ∧ (w3.setCell ⟨x, 1, none⟩ v).cell? ⟨R, 1, none⟩ = some (.slice none 0 0) ∧ (w3.setCell ⟨x, 1, none⟩ v).frozen? ⟨R, 0, none⟩ = false ∧ (w3.setCell ⟨x, 1, none⟩ v).frozen? ⟨R, 1, none⟩ = false ∧ (w3.setCell ⟨x, 1, none⟩ v).cell? ⟨x, 0, none⟩ = some (.int .i64 s) ∧ (w3.setCell ⟨x, 1, none⟩ v).cell? ⟨x, 1, none⟩ = some v ∧ (w3.setCell ⟨x, 1, none⟩ v).frozen? ⟨x, 1, none⟩ = false := by
  obtain ⟨p1, p2, p3, q2, q3, p4⟩ := hf
  have hbx : Chg x (x+1) w3 (w3.setCell ⟨x, 1, none⟩ v) := (Chg.refl x (x+1) _).setCell (p := ⟨x, 1, none⟩) ⟨Nat.le_refl _, Nat.lt_succ_self _⟩ _
  have hsz3 := hch.size
  have z6 := hbx.size
  have hbs := hB.size
  refine ⟨(hB.chgn hch (by omega) (by omega)).chgn hbx (by omega) (by omega), by omega, ?_, ?_, ?_, ?_, ?_, ?_, ?_, ?_⟩
  · exact hbx.cell (hch.cell p1 (show B < g ∨ _ by left; omega)) (show B < x ∨ _ by left; omega)
  · exact hbx.cell (hch.cell p2 (show R < g ∨ _ by left; omega)) (show R < x ∨ _ by left; omega)
  · exact hbx.cell (hch.cell p3 (show R < g ∨ _ by left; omega)) (show R < x ∨ _ by left; omega)
  · exact hbx.frozen (show R < w3.heap.size by omega) (show R < x ∨ _ by left; omega) (hch.frozen (show R < wr.heap.size by omega) (show R < g ∨ _ by left; omega) q2)
  · exact hbx.frozen (show R < w3.heap.size by omega) (show R < x ∨ _ by left; omega) (hch.frozen (show R < wr.heap.size by omega) (show R < g ∨ _ by left; omega) q3)
  · rw [World.cell?_setCell_other _ _ _ _ (by simp)]
    exact hch.cell p4 hgx
  · exact World.cell?_setCell_same w3 ⟨x, 1, none⟩ v y5
  · exact (World.frozen?_setCell (w := w3) (a := ⟨x, 1, none⟩) (v := v) (b := ⟨x, 1, none⟩)).trans yf5

end Go.Proofs.YtnblhkhdilkbeaaDoor
