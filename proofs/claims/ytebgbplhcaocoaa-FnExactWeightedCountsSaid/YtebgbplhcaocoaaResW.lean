/- The growth of a determinant modulo a prime, of the program. -/
import Derived.Test.YtebgbplhcaocoaaResV
import Derived.Deep.AppendLies
set_option linter.unusedSimpArgs false
set_option linter.unusedVariables false
set_option maxRecDepth 100000
namespace Go.Proofs.Ytebgbplhcaocoaa
open Go.RowKit

/-- the column r above the row r, k times multiplied -/
def colK (p : Int) (N : Nat) (f : Nat → Nat → Int) (r : Nat) : Nat → List Int
  | 0 => (colL p N f r).take r
  | k + 1 => mulL p N f (colK p N f r k) r
theorem colK_len {p : Int} {N : Nat} {f : Nat → Nat → Int} {r : Nat} (h : r ≤ N) : ∀ k, (colK p N f r k).length = r
  | 0 => by unfold colK; rw [List.length_take, colL_len]; omega
  | k + 1 => mulL_len _ _ _ _ _
theorem colK_in {p : Int} {N : Nat} {f : Nat → Nat → Int} {r : Nat} (hp : 2 ≤ p) (h : r ≤ N) : ∀ k j, j < r → 0 ≤ (colK p N f r k).getD j 0 ∧ (colK p N f r k).getD j 0 < p
  | 0, j, hj => by
    have e : (colK p N f r 0).getD j 0 = f j r % p := by
      unfold colK
      rw [← colL_get (p := p) (N := N) (f := f) (j := r) (show j < N by omega)]
      simp [List.getD, List.getElem?_take, hj]
    rw [e]
    exact ⟨Int.emod_nonneg _ (by omega), Int.emod_lt_of_pos _ (by omega)⟩
  | k + 1, j, hj => by
    have e : (colK p N f r (k + 1)).getD j 0 = _ := mulL_get hj
    rw [e]
    exact wsN_in hp _
/-- the numbers of the growth -/
def growK (p : Int) (N : Nat) (f : Nat → Nat → Int) (r : Nat) : Nat → List Int
  | 0 => [1, (-(f r r % p)) % p]
  | k + 1 => growK p N f r k ++ [(-(wsN p (colK p N f r k) (rowL p N f r) r)) % p]
theorem growK_len (p : Int) (N : Nat) (f : Nat → Nat → Int) (r : Nat) : ∀ k, (growK p N f r k).length = 2 + k
  | 0 => rfl
  | k + 1 => by rw [growK, List.length_append, growK_len p N f r k]; rfl

theorem fld0 (a b : Int) (w : World) : Sem.run Try.prog (Instr.field 119 (.agg #[.int .i64 a, .int .i64 b]) 0) w = .ok (.int .i64 a) w := by kernel_rfl

theorem RdP.grown {w w' : World} {o : Obj} {a : Option Addr} {es : List (Int × Int)} {vb : Option Nat} (h : RdP w a es) (hgr : (w.alloc o).grownBy w' vb) (hne : ∀ b off, a = some ⟨b, off, none⟩ → some b ≠ vb) : RdP w' a es := fun j hj => by
  obtain ⟨b, off, h1, h2, h3⟩ := h j hj
  have hA : Below w.heap.size w (w.alloc o) := (Below.refl _ _).alloc (Nat.le_refl _) _
  exact ⟨b, off, h1, hgr.cell (hA.keep h2) (hne b off h1), hgr.cell (hA.keep h3) (hne b off h1)⟩

end Go.Proofs.Ytebgbplhcaocoaa
