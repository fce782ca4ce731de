/- How the arguments of a law are read: rows alone. -/
import Derived.Test.YtkhfhdmhhkfehaaCoreA
namespace Go.Proofs.Ytkhfhdmhhkfehaa
open Go.RowKit Go.ChangeShapes Go.WideShapes Go.ChangeAt Go.Deep
set_option maxRecDepth 100000 in
theorem openR {H : Type} {enc : TypeId × Value → H} {W : World} {base : Nat} {v : Value} {d : DataW H} {p : List MemPlace}
    (hok : Value.okWide Try.prog W .any base 22 v) (h : DataW.Trod enc Try.prog W 0 (fun _ => true) true 22 v d p)
    (hwt : ∀ n ∈ d.weights Try.prog 22, n ≤ reachBytes) :
    ∃ a n c xss, v = .slice a n c ∧ xss.length = n ∧ RdR 0 W.heap.size W v xss := by
  obtain ⟨a0, len, cap, rfl⟩ := okWide_slice Try.underlying22 hok
  obtain ⟨fuel, hf⟩ := h
  have hf' : DataW.trod enc Try.prog W 0 (fun _ => true) true fuel 22 [Value.slice a0 len cap] = some (d, p) := by simpa [Value.cells] using hf
  exact openR_cell hf' hwt
end Go.Proofs.Ytkhfhdmhhkfehaa
