/- How the arguments of a law are read: covers. -/
import Derived.Test.YtlahfglblgppgaaCoreA
import Derived.Test.YtlahfglblgppgaaCov
set_option linter.unusedSimpArgs false
set_option linter.unusedVariables false
namespace Go.Proofs.Ytlahfglblgppgaa
open Go.RowKit Go.ChangeShapes Go.WideShapes Go.ChangeAt Go.Deep Go.Joins

theorem cellsC : Try.prog.cellsOf 53 = 4 := by kernel_rfl
theorem cellsRR : Try.prog.cellsOf 22 = 1 := by kernel_rfl
theorem cellsG' : Try.prog.cellsOf 24 = 2 := by kernel_rfl

set_option maxRecDepth 100000 in
theorem openC {H : Type} {enc : TypeId × Value → H} {W : World} {base : Nat} {v : Value} {d : DataW H} {p : List MemPlace}
    (hok : Value.okWide Try.prog W .any base 53 v) (h : DataW.Trod enc Try.prog W 0 (fun _ => true) true 53 v d p)
    (hwt : ∀ n ∈ d.weights Try.prog 53, n ≤ reachBytes) :
    ∃ s a n c xss sh ta tn tc ts, v = .agg #[.int .i64 s, .slice a n c, .int .i64 sh, .slice ta tn tc] ∧ xss.length = n ∧ RdR 0 W.heap.size W (.slice a n c) xss ∧ I64 s ∧ ts.length = tn ∧ RdR 0 W.heap.size W (.slice ta tn tc) ts ∧ I64 sh := by
  obtain ⟨cs, rfl, hsz⟩ := okWide_struct Try.underlying53 hok
  obtain ⟨c0, c1, c2, c3, rfl⟩ := array4 (hsz.trans cellsC)
  obtain ⟨fuel, hf⟩ := h
  obtain ⟨y0, y1, y2, m, hx, _, h0, h1, h2⟩ := trod_struct3 Try.underlying53 hf
  have g0 : DataW.trod enc Try.prog W 0 (fun _ => true) true m 24 [c0, c1] = some y0 := by simpa [Value.cells, cellsG'] using h0
  have g1 : DataW.trod enc Try.prog W 0 (fun _ => true) true m 2 [c2] = some y1 := by simpa [Value.cells, cellsI] using h1
  have g2 : DataW.trod enc Try.prog W 0 (fun _ => true) true m 22 [c3] = some y2 := by simpa [Value.cells, cellsRR] using h2
  clear h0 h1 h2
  obtain ⟨z0, z1, m', hz, _, e0, e1⟩ := trod_struct2 Try.underlying24 g0
  have e0' : DataW.trod enc Try.prog W 0 (fun _ => true) true m' 2 [c0] = some z0 := by simpa [Value.cells, cellsI] using e0
  have e1' : DataW.trod enc Try.prog W 0 (fun _ => true) true m' 22 [c1] = some z1 := by simpa [Value.cells, cellsRR] using e1
  clear e0 e1
  obtain ⟨s, k0, _, ws⟩ := DataW.trod_int Try.underlying2 e0'
  obtain ⟨sh, k2, _, wh⟩ := DataW.trod_int Try.underlying2 g1
  simp only [Prod.mk.injEq] at hx
  obtain ⟨hd, hp⟩ := hx
  have hw1 : ∀ n ∈ z1.1.weights Try.prog 22, n ≤ reachBytes := by
    intro n hn
    refine hwt n ?_
    rw [hd]
    simp only [DataW.weights, Try.underlying53, DataW.weightsEach, List.mem_append]
    simp [DataW.weightsEach, hz, DataW.weights, Try.underlying24, hn]
  have hw2 : ∀ n ∈ y2.1.weights Try.prog 22, n ≤ reachBytes := by
    intro n hn
    refine hwt n ?_
    rw [hd]
    simp only [DataW.weights, Try.underlying53, DataW.weightsEach, List.mem_append]
    simp [DataW.weightsEach, hn]
  obtain ⟨a, n, c, xss, rfl, hl, hr⟩ := openR_cell e1' hw1
  obtain ⟨ta, tn, tc, ts, rfl, hl2, hr2⟩ := openR_cell g2 hw2
  simp at k0 k2
  subst k0 k2
  exact ⟨s, a, n, c, xss, sh, ta, tn, tc, ts, rfl, hl, hr, wf_I64 ws, hl2, hr2, wf_I64 wh⟩

end Go.Proofs.Ytlahfglblgppgaa
