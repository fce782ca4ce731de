/- How the arguments of a law are read: lists of lists of numbers. -/
import Derived.Test.YtgcidkcedfliiaaRow
import Derived.Test.YtgcidkcedfliiaaSlR
import Derived.Deep.Matrix
set_option linter.unusedSimpArgs false
set_option linter.unusedVariables false
namespace Go.Proofs.Ytgcidkcedfliiaa
open Go.RowKit Go.ChangeShapes Go.WideShapes Go.ChangeAt Go.Deep

theorem cellsR : Try.prog.cellsOf 25 = 1 := by kernel_rfl
theorem bytesR : Try.prog.bytesOf 25 = 24 := by kernel_rfl

theorem weights_all_mem {H : Type} {P : Program} {e : TypeId} {l : List (DataW H)} {d : DataW H} (h : d ∈ l) : ∀ n ∈ d.weights P e, n ∈ DataW.weightsAll P e l := by
  induction l with
  | nil => cases h
  | cons x r ih =>
    intro n hn
    simp only [DataW.weightsAll, List.mem_append]
    cases List.mem_cons.1 h with
    | inl e => subst e; exact .inl hn
    | inr e => exact .inr (ih e n hn)

theorem openR_cell {H : Type} {enc : TypeId × Value → H} {W : World} {v : Value} {x : DataW H × List MemPlace} {fuel : Nat}
    (hf : DataW.trod enc Try.prog W 0 (fun _ => true) true fuel 22 [v] = some x) (hwt : ∀ n ∈ x.1.weights Try.prog 22, n ≤ reachBytes) :
    ∃ a n c xss, v = .slice a n c ∧ xss.length = n ∧ RdR 0 W.heap.size W v xss := by
  rcases open_int_rows Try.underlying22 Try.underlying25 Try.underlying2 cellsR cellsI hf with ⟨hcs, hx⟩ | ⟨a, len, cap, A, L, C, Z, hcs, _, hl, hm, hx, hall⟩
  · simp at hcs
    subst hcs
    exact ⟨none, 0, 0, [], rfl, rfl, by simp, .inl ⟨_, _, rfl, rfl⟩⟩
  · simp at hcs
    subst hcs
    by_cases hl0 : len = 0
    · subst hl0
      exact ⟨_, 0, cap, [], rfl, rfl, by simp, .inl ⟨_, _, rfl, rfl⟩⟩
    · obtain ⟨b, off, spot⟩ := a
      have h0 := (hall 0 (by omega)).1
      have hspot : spot = none := by simpa [Addr.add] using World.cell?_spot h0
      subst hspot
      have hbW : b < W.heap.size := World.block_lt_of_cell? W _ h0
      have e1 : x.1 = .slice ((List.range len).map fun r => intRow .i64 (A r) (L r) (Z r)) ((List.range (cap - len)).map fun j => intRow .i64 (A (len + j)) (L (len + j)) (Z (len + j))) := by rw [hx]
      rw [e1] at hwt
      simp only [DataW.weights, Try.underlying22] at hwt
      have hlen : len ≤ 5864062014805 := by
        have := hwt _ (List.mem_cons_self ..)
        rw [bytesR] at this
        simp only [List.length_map, List.length_range, reachBytes] at this
        omega
      have hrow : ∀ r, r < len → ∀ n ∈ (intRow (H := H) .i64 (A r) (L r) (Z r)).weights Try.prog 25, n ≤ reachBytes := fun r hr n hn =>
        hwt n (List.mem_cons_of_mem _ (List.mem_append_left _ (weights_all_mem (List.mem_map.2 ⟨r, List.mem_range.2 hr, rfl⟩) n hn)))
      refine ⟨_, len, cap, (List.range len).map (fun r => (Z r).take (L r)), rfl, by simp, by simp; omega, .inr ⟨b, off, cap, by simp, by simp; omega, Nat.zero_le _, hbW, fun j hj => ?_⟩⟩
      simp only [List.length_map, List.length_range] at hj
      obtain ⟨c1, c2, c3, c4, c5, c6, c7⟩ := hall j (by omega)
      refine ⟨_, by rw [← add_plain]; exact c1, ?_⟩
      have e2 : ((List.range len).map (fun r => (Z r).take (L r))).getD j [] = (Z j).take (L j) := by simp [List.getD, hj]
      rw [e2]
      by_cases hL : L j = 0
      · rw [hL]
        exact ⟨by simp, by simp, .inl ⟨_, _, by simp, rfl⟩⟩
      · cases hA : A j with
        | none => have := c6 hA; omega
        | some a' =>
          obtain ⟨b', off', spot'⟩ := a'
          have g0 := (c7 _ hA).2 0 (by omega)
          have hspot' : spot' = none := by simpa [Addr.add] using World.cell?_spot g0
          subst hspot'
          have hlz : ((Z j).take (L j)).length = L j := by rw [List.length_take]; omega
          have hr := hrow j hj
          rw [hA] at hr
          simp only [intRow, DataW.weights, Try.underlying25] at hr
          have hLb : L j * 8 ≤ 140737488351232 := by
            have := hr _ (List.mem_cons_self ..)
            rw [bytesI] at this
            simp only [lits, List.length_map, List.length_take, List.length_drop, reachBytes] at this
            omega
          refine ⟨by omega, fun x hx => wf_I64 (c5 x (List.mem_of_mem_take hx)), .inr ⟨b', off', C j, by rw [hlz], by omega, Nat.zero_le _, World.block_lt_of_cell? W _ g0, fun i hi => ?_⟩⟩
          have := (c7 _ hA).2 i (by omega)
          rw [← add_plain, this]
          simp [List.getD, List.getElem?_take, show i < L j by omega]

end Go.Proofs.Ytgcidkcedfliiaa
