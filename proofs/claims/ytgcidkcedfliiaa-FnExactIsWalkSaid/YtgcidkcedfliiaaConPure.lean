/- What ContractEdge answers. -/
import Derived.Test.YtgcidkcedfliiaaImplDel
set_option linter.unusedSimpArgs false
set_option linter.unusedVariables false
namespace Go.Proofs.Ytgcidkcedfliiaa
open Go.RowKit

/-- what becomes of a vertex -/
def vb (a b v : Int) : Int := if v = b then a else if b < v then v - 1 else v
def lowI (x y : Int) : Int := if y < x then y else x
def topI (x y : Int) : Int := if x < y then y else x
def conRow (x y : Int) (e : List Int) : List Int := e.map (vb (lowI x y) (topI x y))
def conRows (x y : Int) (xss : List (List Int)) : List (List Int) := xss.map (conRow x y)
def conOf (s : Int) (xss : List (List Int)) (k : Int) : (Int × List (List Int)) × Int :=
  if edgeCode s xss k ≠ 0 then ((0, []), edgeCode s xss k) else
  if (xss.getD k.toNat []).getD 0 0 = (xss.getD k.toNat []).getD 1 0 then ((0, []), 5) else
  ((s - 1, conRows ((xss.getD k.toNat []).getD 0 0) ((xss.getD k.toNat []).getD 1 0) (xss.eraseIdx k.toNat)), 0)

theorem conOf_lens (s : Int) (xss : List (List Int)) (k : Int) : lens (conOf s xss k).1.2 ≤ 1000 := by
  unfold conOf
  split
  · simp [lens]
  · rename_i hc
    split
    · simp [lens]
    · obtain ⟨hg, h0, h1⟩ := edgeCode_ok (s := s) (xss := xss) (k := k) (by omega)
      have h3 := (grB_iff hg).2.2.1
      show lens (conRows _ _ (xss.eraseIdx k.toNat)) ≤ 1000
      rw [lens_two]
      · have := List.length_eraseIdx_le xss k.toNat
        simp only [conRows, List.length_map]
        omega
      · intro e he
        simp only [conRows, List.mem_map] at he
        obtain ⟨e', he', rfl⟩ := he
        simp only [conRow, List.length_map]
        exact gr_two hg e' (List.mem_of_mem_eraseIdx he')

end Go.Proofs.Ytgcidkcedfliiaa
