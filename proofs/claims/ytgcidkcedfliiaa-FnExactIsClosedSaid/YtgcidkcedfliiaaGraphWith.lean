/- The program's graph made of pairs. -/
import Derived.Test.YtgcidkcedfliiaaOwP2
import Derived.Test.YtgcidkcedfliiaaBip
set_option linter.unusedSimpArgs false
set_option linter.unusedVariables false
namespace Go.RowKit
theorem Chg.frozen {lo hi : Nat} {w w' : World} (h : Chg lo hi w w') {p : Addr} (hp : p.block < w.heap.size) (ho : p.block < lo ∨ hi ≤ p.block) {b : Bool} (hc : w.frozen? p = b) : w'.frozen? p = b := (World.frozen?_of_block (w := w) (h.block _ hp ho)).trans hc
end Go.RowKit
namespace Go.Proofs.Ytgcidkcedfliiaa
open Go.RowKit

/-- a slice value reads as a list of pairs -/
def RdE (w : World) (a : Option Addr) (es : List (Int × Int)) : Prop :=
  ∀ j, j < es.length → ∃ b, a = some ⟨b, 0, none⟩ ∧ b < w.heap.size ∧ w.cell? ⟨b, j * 2, none⟩ = some (.int .i64 (es.getD j (0, 0)).1) ∧ w.cell? ⟨b, j * 2 + 1, none⟩ = some (.int .i64 (es.getD j (0, 0)).2)
theorem RdE.below {w w' : World} {a : Option Addr} {es : List (Int × Int)} (h : RdE w a es) (hb : Below w.heap.size w w') : RdE w' a es := fun j hj => by
  obtain ⟨b, h1, h2, h3, h4⟩ := h j hj
  exact ⟨b, h1, Nat.lt_of_lt_of_le h2 hb.size, hb.keep h3, hb.keep h4⟩
theorem flat_getE (es : List (Int × Int)) (k : Nat) (hk : k < es.length) : (flat es)[k * 2]? = some (.int .i64 (es.getD k (0, 0)).1) ∧ (flat es)[k * 2 + 1]? = some (.int .i64 (es.getD k (0, 0)).2) := by
  induction es generalizing k with
  | nil => simp at hk
  | cons e r ih =>
    cases k with
    | zero => simp [flat]
    | succ k =>
      have := ih k (by simpa using hk)
      have e1 : (k + 1) * 2 = k * 2 + 2 := by omega
      rw [e1]
      simpa [flat] using this
theorem RdE.mk {B n c : Nat} {a : Option Addr} {w : World} {es : List (Int × Int)} (h : w.ownsRow B 64 2 (.slice a n c) n (flat es)) (hn : es.length = n) : RdE w a es := by
  intro j hj
  obtain ⟨g, cap, hv, _, hg⟩ := h.form (by omega)
  simp only [Value.slice.injEq] at hv
  obtain ⟨rfl, _, rfl⟩ := hv
  obtain ⟨f1, f2⟩ := flat_getE es j hj
  exact ⟨g, rfl, hg, (h.cellAt (j * 2) (by omega)).trans f1, (h.cellAt (j * 2 + 1) (by omega)).trans f2⟩

def unp (es : List (Int × Int)) : List (List Int) := es.map (fun e => [e.1, e.2])
theorem unp_len (es : List (Int × Int)) : (unp es).length = es.length := by simp [unp]
theorem unp_get {es : List (Int × Int)} {k : Nat} (h : k < es.length) : (unp es).getD k [] = [(es.getD k (0, 0)).1, (es.getD k (0, 0)).2] := by
  simp [unp, List.getD, h]

end Go.Proofs.Ytgcidkcedfliiaa
