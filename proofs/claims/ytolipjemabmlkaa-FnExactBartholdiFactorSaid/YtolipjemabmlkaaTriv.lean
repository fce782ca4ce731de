/- TrivialCover of the model and of the program. -/
import Derived.Test.YtolipjemabmlkaaCycLaw
import Derived.StillTailTactics
set_option linter.unusedSimpArgs false
set_option linter.unusedVariables false
set_option maxRecDepth 100000
namespace Go.Proofs.Ytolipjemabmlkaa
open Go.RowKit

def zl (n : Nat) : List Int := List.replicate n 0
theorem zl_len (n : Nat) : (zl n).length = n := by simp [zl]
theorem zl_own {lo n : Nat} {w : World} {v : Value} (h : w.ownsRow lo 2 1 v n (madeCells #[Value.int .i64 0] n).toList) (hn : n ≤ 17592186044416) : OwI lo w.heap.size w v (zl n) := by
  rw [toList_madeCells_one] at h
  refine OwI.mk (n := n) ?_ hn (fun x hx => ?_)
  · simpa [zl] using h
  · have := List.eq_of_mem_replicate hx
    subst this
    unfold I64; omega

theorem makeI (n : Nat) (hn : n ≤ 17592186044416) : ∃ Ob : Obj, ∀ w : World, (Instr.makeSlice 26 (.int .i64 (n : Int)) (.int .i64 (n : Int))).run Try.prog w = .ok (.slice (some ⟨w.heap.size, 0, none⟩) n n) (w.alloc Ob) ∧
    OwI w.heap.size (w.alloc Ob).heap.size (w.alloc Ob) (.slice (some ⟨w.heap.size, 0, none⟩) n n) (zl n) := by
  obtain ⟨i0, hi', z0, z1, z2⟩ := info_parts Try.info2
  refine ⟨.cells (madeCells (Value.int .i64 0).cells (n * i0.size)) 2, fun w => ?_⟩
  have h1 := run_make (P := Try.prog) w 26 2 i0 (.int .i64 0) Try.underlying26 hi' z0 .i64 .i64 (n : Int) (n : Int) (by omega) (Int.le_refl _) (by rw [z2]; omega) (by omega)
  rw [Int.toNat_natCast] at h1
  refine ⟨h1, ?_⟩
  obtain ⟨w', h2, h3, _⟩ := run_make_full (P := Try.prog) w w.heap.size 26 2 i0 (.int .i64 0) 1 Try.underlying26 hi' z0 z1 .i64 .i64 n (by rw [z2]; omega) (by unfold maxLen; omega) (Nat.le_refl _)
  rw [h1] at h2
  simp only [Result.ok.injEq, true_and] at h2
  rw [h2]
  exact zl_own (by rw [Nat.mul_one] at h3; exact h3) hn

theorem zl_all (n : Nat) : (zl n).all (wM 1000) = true := by
  rw [List.all_eq_true]
  intro x hx
  have := List.eq_of_mem_replicate hx
  subst this
  rfl
theorem zl_list (n : Nat) : listB n 1000 (zl n) = true := by unfold listB; rw [zl_all, zl_len]; simp

end Go.Proofs.Ytolipjemabmlkaa
