/- Small laws on worlds, of whatever program. -/
import Derived.Test.YtgcidkcedfliiaaBase
set_option linter.unusedSimpArgs false
set_option linter.unusedVariables false
namespace Go.RowKit
/-- behind an append onto the call's own slice -/
theorem grown_own {w w2 w3 : World} {o : Obj} {base e size n : Nat} {v : Value} {xs : List Value} (hB : Below w.heap.size w w2) (hown : w2.ownsRow base e size v n xs) (hbase : w.heap.size ≤ base) (hgr : (w2.alloc o).grownBy w3 v.ownBlock) :
    Below w.heap.size w w3 ∧ w2.heap.size < w3.heap.size ∧ (∀ p u, p.block < base → w2.cell? p = some u → w3.cell? p = some u) ∧ Chg base w2.heap.size w2 w3 := by
  have hs := hgr.size
  have hs2 : w2.heap.size + 1 ≤ w3.heap.size := by simpa using hs
  have hsB := hB.size
  have hlt := hown.lt
  refine ⟨(hB.alloc hB.size o).grown hgr (by simp; omega) (fun k hk => by have := (hlt k hk).1; omega), by omega, fun p u hp hu => ?_, ?_⟩
  · have hb := World.block_lt_of_cell? w2 p hu
    exact hgr.cell ((World.cell?_of_block (w := w2) (Below.heap_alloc w2 o p.block hb)).trans hu) (fun e => by have := (hlt p.block e.symm).1; omega)
  · refine ⟨hgr.os, hgr.tape, hgr.output, by omega, fun k hk h' => ?_⟩
    rw [hgr.block k (by simp; omega) (fun e => by have := hlt k e.symm; omega)]
    exact Below.heap_alloc _ _ _ hk
theorem ownsRow_mono {w : World} {B B' e size n : Nat} {v : Value} {xs : List Value} (h : w.ownsRow B e size v n xs) (hb : B' ≤ B) : w.ownsRow B' e size v n xs := by
  obtain ⟨h3, h4⟩ := h
  refine ⟨h3, ?_⟩
  rcases h4 with h4 | ⟨g, cap, cur, hv, hg, r⟩
  · exact .inl h4
  · exact .inr ⟨g, cap, cur, hv, Nat.le_trans hb hg, r⟩
theorem news_one (w : World) (t : TypeId) (x : Value) : ∀ (j : Nat) (u : Value), [x][j]? = some u → (w.alloc (.cells #[x] t)).cell? (({ block := w.heap.size, off := 0 } : Addr).add j) = some u := by
  intro j u hj
  match j, hj with
  | 0, hj => simp at hj; subst hj; simp [Addr.add]
end Go.RowKit
