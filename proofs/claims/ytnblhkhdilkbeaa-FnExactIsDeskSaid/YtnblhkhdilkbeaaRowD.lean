/- How the arguments of a law are read: desks. -/
import Derived.Test.YtnblhkhdilkbeaaCoreA
import Derived.Test.YtnblhkhdilkbeaaDsk
set_option linter.unusedSimpArgs false
set_option linter.unusedVariables false
namespace Go.Proofs.Ytnblhkhdilkbeaa
open Go.RowKit Go.ChangeShapes Go.WideShapes Go.ChangeAt Go.Deep Go.Joins

theorem cellsDk : Try.prog.cellsOf 27 = 4 := by kernel_rfl
theorem cellsRRd : Try.prog.cellsOf 22 = 1 := by kernel_rfl
theorem cellsIId : Try.prog.cellsOf 25 = 1 := by kernel_rfl
theorem cellsGd : Try.prog.cellsOf 24 = 2 := by kernel_rfl

set_option maxRecDepth 100000 in
theorem openI_cell {H : Type} {enc : TypeId × Value → H} {W : World} {v : Value} {x : DataW H × List MemPlace} {fuel : Nat}
    (hf : DataW.trod enc Try.prog W 0 (fun _ => true) true fuel 25 [v] = some x) (hwt : ∀ n ∈ x.1.weights Try.prog 25, n ≤ reachBytes) :
    ∃ a n c xs, v = .slice a n c ∧ xs.length = n ∧ RdI 0 W.heap.size W v xs := by
  rcases open_ints Try.underlying25 Try.underlying2 cellsI hf with ⟨hcs, hx⟩ | ⟨a, len, cap, zs, hcs, _, hl, hm, hz, hx, hcell, hwz⟩
  · simp at hcs
    subst hcs
    exact ⟨none, 0, 0, [], rfl, rfl, by simp, by simp, .inl ⟨_, _, rfl, rfl⟩⟩
  · simp at hcs
    subst hcs
    simp only [if_true] at hz
    by_cases hl0 : len = 0
    · subst hl0
      exact ⟨_, 0, cap, [], rfl, rfl, by simp, by simp, .inl ⟨_, _, rfl, rfl⟩⟩
    · have e1 := congrArg Prod.fst hx
      simp only at e1
      rw [e1] at hwt
      simp only [DataW.weights, Try.underlying25] at hwt
      have hreach : len * 8 ≤ 140737488351232 := by
        have := hwt _ (List.mem_cons_self ..)
        rw [bytesI] at this
        simp only [lits, List.length_map, List.length_take, List.length_drop, reachBytes] at this
        omega
      obtain ⟨b, off, spot⟩ := a
      have h0 := hcell 0 (by omega)
      have hspot : spot = none := by simpa [Addr.add] using World.cell?_spot h0
      subst hspot
      have hbW : b < W.heap.size := World.block_lt_of_cell? W _ h0
      have hlen : (zs.take len).length = len := by rw [List.length_take]; omega
      refine ⟨_, len, cap, zs.take len, rfl, hlen, by omega, fun x hx => wf_I64 (hwz x (List.mem_of_mem_take hx)), .inr ⟨b, off, cap, by rw [hlen], by omega, Nat.zero_le _, hbW, fun j hj => ?_⟩⟩
      have e := hcell j (by omega)
      rw [← add_plain, e]
      simp [List.getD, List.getElem?_take, show j < len by omega]

set_option maxRecDepth 100000 in
theorem openD {H : Type} {enc : TypeId × Value → H} {W : World} {base : Nat} {v : Value} {d : DataW H} {p : List MemPlace}
    (hok : Value.okWide Try.prog W .any base 27 v) (h : DataW.Trod enc Try.prog W 0 (fun _ => true) true 27 v d p)
    (hwt : ∀ n ∈ d.weights Try.prog 27, n ≤ reachBytes) :
    ∃ s a n c xss sa sn sc ss ca cn cc cs, v = .agg #[.int .i64 s, .slice a n c, .slice sa sn sc, .slice ca cn cc] ∧ xss.length = n ∧ RdR 0 W.heap.size W (.slice a n c) xss ∧ I64 s ∧ ss.length = sn ∧ RdI 0 W.heap.size W (.slice sa sn sc) ss ∧ cs.length = cn ∧ RdI 0 W.heap.size W (.slice ca cn cc) cs := by
  obtain ⟨cs, rfl, hsz⟩ := okWide_struct Try.underlying27 hok
  obtain ⟨c0, c1, c2, c3, rfl⟩ := array4 (hsz.trans cellsDk)
  obtain ⟨fuel, hf⟩ := h
  obtain ⟨y0, y1, y2, m, hx, _, h0, h1, h2⟩ := trod_struct3 Try.underlying27 hf
  have g0 : DataW.trod enc Try.prog W 0 (fun _ => true) true m 24 [c0, c1] = some y0 := by simpa [Value.cells, cellsGd] using h0
  have g1 : DataW.trod enc Try.prog W 0 (fun _ => true) true m 25 [c2] = some y1 := by simpa [Value.cells, cellsIId] using h1
  have g2 : DataW.trod enc Try.prog W 0 (fun _ => true) true m 25 [c3] = some y2 := by simpa [Value.cells, cellsIId] using h2
  clear h0 h1 h2
  obtain ⟨z0, z1, m', hz, _, e0, e1⟩ := trod_struct2 Try.underlying24 g0
  have e0' : DataW.trod enc Try.prog W 0 (fun _ => true) true m' 2 [c0] = some z0 := by simpa [Value.cells, cellsI] using e0
  have e1' : DataW.trod enc Try.prog W 0 (fun _ => true) true m' 22 [c1] = some z1 := by simpa [Value.cells, cellsRRd] using e1
  clear e0 e1
  obtain ⟨s, k0, _, ws⟩ := DataW.trod_int Try.underlying2 e0'
  simp only [Prod.mk.injEq] at hx
  obtain ⟨hd, hp⟩ := hx
  have hw1 : ∀ n ∈ z1.1.weights Try.prog 22, n ≤ reachBytes := by
    intro n hn
    refine hwt n ?_
    rw [hd]
    simp only [DataW.weights, Try.underlying27, DataW.weightsEach, List.mem_append]
    simp [DataW.weightsEach, hz, DataW.weights, Try.underlying24, hn]
  have hw2 : ∀ n ∈ y1.1.weights Try.prog 25, n ≤ reachBytes := by
    intro n hn
    refine hwt n ?_
    rw [hd]
    simp only [DataW.weights, Try.underlying27, DataW.weightsEach, List.mem_append]
    simp [DataW.weightsEach, hn]
  have hw3 : ∀ n ∈ y2.1.weights Try.prog 25, n ≤ reachBytes := by
    intro n hn
    refine hwt n ?_
    rw [hd]
    simp only [DataW.weights, Try.underlying27, DataW.weightsEach, List.mem_append]
    simp [DataW.weightsEach, hn]
  obtain ⟨a, n, c, xss, rfl, hl, hr⟩ := openR_cell e1' hw1
  obtain ⟨sa, sn, sc, ss, rfl, hl2, hr2⟩ := openI_cell g1 hw2
  obtain ⟨ca, cn, cc, cs, rfl, hl3, hr3⟩ := openI_cell g2 hw3
  simp at k0
  subst k0
  exact ⟨s, a, n, c, xss, sa, sn, sc, ss, ca, cn, cc, cs, rfl, hl, hr, wf_I64 ws, hl2, hr2, hl3, hr3⟩
end Go.Proofs.Ytnblhkhdilkbeaa
