/- slices.Compare of two lists of one length. -/
import Derived.Test.YtbfgehgjecgfmaaBefore
import Derived.Laws.AppendOwnNone
set_option linter.unusedSimpArgs false
set_option linter.unusedVariables false
namespace Go.Proofs.Ytbfgehgjecgfmaa
open Go.RowKit

def cmpI (x y : Int) : Int := if x < y then -1 else if y < x then 1 else 0
/-- of the m places from k on, the first where they differ says it -/
def cmpL (xs ys : List Int) : Nat → Nat → Int
  | 0, _ => 0
  | m + 1, k => if xs.getD k 0 = ys.getD k 0 then cmpL xs ys m (k + 1) else cmpI (xs.getD k 0) (ys.getD k 0)
theorem cmpL_bef (xs ys : List Int) (m : Nat) : ∀ k, cmpL xs ys m k < 0 ↔ bef xs ys m k = true := by
  induction m with
  | zero => intro k; simp [cmpL, bef]
  | succ m ih =>
    intro k
    simp only [cmpL, bef]
    by_cases e : xs.getD k 0 = ys.getD k 0
    · rw [if_pos e, if_pos e]; exact ih _
    · rw [if_neg e, if_neg e, decide_eq_true_eq]
      unfold cmpI
      by_cases h1 : xs.getD k 0 < ys.getD k 0
      · rw [if_pos h1]; exact ⟨fun _ => h1, fun _ => by decide⟩
      · rw [if_neg h1, if_pos (by omega)]; exact ⟨fun h => absurd h (by decide), fun h => absurd h h1⟩

theorem isNaN (x : Int) (w : World) :
    Calls Try.prog 178 #[.int .i64 x] w fun e w' => e = .returned (.bool false) ∧ Qt w w' := by
  go_enter Try.func178, Try.ntmps178
  go_wp2
  go_ret
  exact ⟨rfl, Qt.refl _⟩

theorem eqNil (ad : Addr) (n cap : Nat) (w : World) : Sem.run Try.prog (binOp BinOp.eql 26 (.slice (some ad) n cap) (.slice none 0 0)) w = .ok (Value.bool false) w := by kernel_rfl

end Go.Proofs.Ytbfgehgjecgfmaa
