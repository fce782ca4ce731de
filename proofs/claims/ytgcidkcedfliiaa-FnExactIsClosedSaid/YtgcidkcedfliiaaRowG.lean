/- How the arguments of a law are read: graphs. -/
import Derived.Test.YtgcidkcedfliiaaRowR
import Derived.Lib.SmallJoins
set_option linter.unusedSimpArgs false
set_option linter.unusedVariables false
namespace Go.Proofs.Ytgcidkcedfliiaa
open Go.RowKit Go.ChangeShapes Go.WideShapes Go.ChangeAt Go.Deep Go.Joins

theorem cellsG : Try.prog.cellsOf 24 = 2 := by kernel_rfl

theorem openG {H : Type} {enc : TypeId × Value → H} {W : World} {base : Nat} {v : Value} {d : DataW H} {p : List MemPlace}
    (hok : Value.okWide Try.prog W .any base 24 v) (h : DataW.Trod enc Try.prog W 0 (fun _ => true) true 24 v d p)
    (hwt : ∀ n ∈ d.weights Try.prog 24, n ≤ reachBytes) :
    ∃ s a n c xss, v = .agg #[.int .i64 s, .slice a n c] ∧ xss.length = n ∧ RdR 0 W.heap.size W (.slice a n c) xss ∧ I64 s := by
  obtain ⟨c0, c1, y0, y1, m, rfl, rfl, rfl, hy0, hy1⟩ := open_agg2 Try.underlying24 (by kernel_rfl) cellsG hok h
  obtain ⟨s, e0, e1, ws⟩ := DataW.trod_int Try.underlying2 hy0
  have hw2 : ∀ n ∈ y1.1.weights Try.prog 22, n ≤ reachBytes := by
    intro n hn
    refine hwt n ?_
    simp only [DataW.weights, Try.underlying24, DataW.weightsEach, List.mem_append]
    simp [DataW.weightsEach, hn]
  obtain ⟨a, n, c, xss, rfl, hl, hr⟩ := openR_cell hy1 hw2
  simp at e0
  subst e0
  exact ⟨s, a, n, c, xss, rfl, hl, hr, wf_I64 ws⟩

end Go.Proofs.Ytgcidkcedfliiaa
