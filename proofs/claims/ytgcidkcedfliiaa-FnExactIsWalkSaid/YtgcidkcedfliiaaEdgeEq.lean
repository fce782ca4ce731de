/- Two edges compared. -/
import Derived.Test.YtgcidkcedfliiaaEdges
import Derived.ChangeKeysEq
set_option linter.unusedSimpArgs false
set_option linter.unusedVariables false
namespace Go.Proofs.Ytgcidkcedfliiaa
open Go.RowKit

theorem cells64 : Try.prog.cellsOf 2 = 1 := by kernel_rfl
theorem eq_edge (a b c d : Int) (w : World) : (Op.equalIn 10000 64 (.agg #[.int .i64 a, .int .i64 b]) (.agg #[.int .i64 c, .int .i64 d])).run Try.prog w = .ok (a == c && b == d) w := by
  obtain ⟨i0, hi, _⟩ := info_parts Try.info2
  have hu : Try.prog.underlying 64 = some (.array 2 2) := by kernel_rfl
  rw [show (10000 : Nat) = 9999 + 1 from rfl, run_equalIn_array (P := Try.prog) (i := i0) (n := 2) (e := 2) w 9999 _ _ hu hi]
  have h1 : ∀ p q w, (Op.equalIn 9999 2 (.int .i64 p) (.int .i64 q)).run Try.prog w = .ok (p == q) w := fun p q w => run_equalIn_int w 9998 _ _ .i64 p q Try.underlying2
  simp only [List.range, List.range.loop, Op.eqItems, cells64]
  have p1 : ∀ x y w, (part 2 #[.int .i64 x, .int .i64 y] (0 * 1)).run Try.prog w = .ok (.int .i64 x) w := fun x y w => by kernel_rfl
  have p2 : ∀ x y w, (part 2 #[.int .i64 x, .int .i64 y] (1 * 1)).run Try.prog w = .ok (.int .i64 y) w := fun x y w => by kernel_rfl
  simp only [Sem.run_bind, p1, p2, h1, Result.andThen_ok]
  cases a == c <;> simp only [Bool.not_false, Bool.not_true, if_true, Bool.false_eq_true, if_false, Sem.run_pure, Sem.run_bind, p1, p2, h1, Result.andThen_ok, Bool.false_and, Bool.true_and]
  cases b == d <;> simp only [Bool.not_false, Bool.not_true, if_true, Bool.false_eq_true, if_false, Sem.run_pure]

end Go.Proofs.Ytgcidkcedfliiaa
