/- How the arguments of a law are read: lists of numbers. -/
import Derived.Test.YtgcidkcedfliiaaBase
import Derived.OpenShut
set_option linter.unusedSimpArgs false
set_option linter.unusedVariables false
namespace Go.Proofs.Ytgcidkcedfliiaa
open Go.RowKit Go.ChangeShapes Go.WideShapes Go.ChangeAt

theorem own : ownKnob Try.prog.godebug = none := by kernel_rfl
theorem laidOut : laidOutB Try.prog = true := by kernel_rfl
theorem cellsI : Try.prog.cellsOf 2 = 1 := by kernel_rfl
theorem bytesI : Try.prog.bytesOf 2 = 8 := by kernel_rfl

theorem wf_I64 {x : Int} (h : (Lit.int .i64 x).wf = true) : I64 x := by
  have h1 : IntKind.i64.min = -9223372036854775808 := rfl
  have h2 : IntKind.i64.max = 9223372036854775807 := rfl
  simp only [Lit.wf, Bool.and_eq_true, decide_eq_true_eq] at h
  unfold I64; omega

/-- an argument that is a list of numbers -/
theorem openI {H : Type} {enc : TypeId × Value → H} {W : World} {base : Nat} {v : Value} {d : DataW H} {p : List MemPlace}
    (hok : Value.okWide Try.prog W .any base 25 v) (h : DataW.Trod enc Try.prog W 0 (fun _ => true) true 25 v d p)
    (hlt : ∀ x ∈ p, x.block < W.heap.size) (hs : ∀ es sp, d = .slice es sp → (es.length + sp.length) * Try.prog.bytesOf 2 ≤ reachBytes) :
    ∃ a n cap xs, v = .slice a n cap ∧ xs.length = n ∧ RdI 0 W.heap.size W v xs := by
  obtain ⟨a0, len, cap, rfl⟩ := okWide_slice Try.underlying25 hok
  obtain ⟨fuel, hf⟩ := h
  refine ⟨a0, len, cap, ?_⟩
  suffices hrd : ∃ xs, RdI 0 W.heap.size W (.slice a0 len cap) xs ∧ xs.length = len by
    obtain ⟨xs, h1, h2⟩ := hrd
    exact ⟨xs, rfl, h2, h1⟩
  rcases open_ints Try.underlying25 Try.underlying2 cellsI hf with ⟨hcs, hx⟩ | ⟨a, len', cap', zs, hcs, _, hl, hm, hz, hx, hcell, hwz⟩
  · simp [Value.cells] at hcs
    obtain ⟨rfl, rfl, rfl⟩ := hcs
    exact ⟨[], ⟨by simp, by simp, .inl ⟨_, _, rfl, rfl⟩⟩, rfl⟩
  · simp [Value.cells] at hcs
    obtain ⟨rfl, rfl, rfl⟩ := hcs
    simp only [Prod.mk.injEq] at hx
    obtain ⟨rfl, rfl⟩ := hx
    simp only [if_true] at hz
    have hreach : len * 8 ≤ 140737488351232 := by
      have := hs _ _ rfl
      rw [bytesI] at this
      simp only [lits, List.length_map, List.length_take, List.length_drop, reachBytes] at this
      omega
    by_cases hl0 : len = 0
    · subst hl0
      exact ⟨[], ⟨by simp, by simp, .inl ⟨_, _, rfl, rfl⟩⟩, rfl⟩
    · obtain ⟨b, off, spot⟩ := a
      have hspot : spot = none := by simpa [Addr.add] using World.cell?_spot (hcell 0 (by omega))
      subst hspot
      have hbW : b < W.heap.size := hlt (.cell b off) (MemPlace.mem_row.2 ⟨0, by omega, by simp⟩)
      have hlen : (zs.take len).length = len := by rw [List.length_take]; omega
      refine ⟨zs.take len, ⟨by omega, fun x hx => wf_I64 (hwz x (List.mem_of_mem_take hx)), .inr ⟨b, off, cap, by rw [hlen], by omega, Nat.zero_le _, hbW, fun j hj => ?_⟩⟩, hlen⟩
      have e := hcell j (by omega)
      rw [← add_plain, e]
      simp [List.getD, List.getElem?_take, show j < len by omega]

end Go.Proofs.Ytgcidkcedfliiaa
