/- slices.Grow of the nil slice. -/
import Derived.Test.YtebgbplhcaocoaaCoreA
import Derived.Lib.Walk
import Derived.Lib.SliceRun
import Derived.Lib.AppendZerosOnto
set_option linter.unusedSimpArgs false
set_option linter.unusedVariables false
namespace Go.Proofs.Ytebgbplhcaocoaa
open Go.RowKit Go.Lib

set_option maxRecDepth 100000 in
set_option maxHeartbeats 4000000 in
theorem slGrow (k : Nat) (hk : 0 < k) (hk1 : k ≤ 1000) (w : World) :
    Calls Try.prog 169 #[.slice none 0 0, .int .i64 k] w fun e w' => ∃ G, k ≤ G ∧ G ≤ maxLen ∧ e = .returned (.slice (some ⟨w.heap.size, 0, none⟩) 0 G) ∧ w' = w.drew.alloc (.cells (#[] ++ Builtin.zeroCells (Value.cells (.int .i64 0)) k ++ Builtin.zeroCells (Value.cells (.int .i64 0)) (G - k)) 2) := by
  obtain ⟨i0, hi', z0, z1, z2⟩ := info_parts Try.info2
  have h1 : ¬ ((k : Int) < 0) := by omega
  have h3 : wrap64 (k : Int) = (k : Int) := by unfold wrap64; omega
  have h4 : (k : Int) > 0 := by omega
  have hold : (Builtin.firstCells i0.size 0 (.slice none 0 0)).run Try.prog w.drew = .ok (#[] : Array Value) w.drew := run_firstCells_none w.drew i0.size 0 0 0
  have hrz : ∀ ty, (Builtin.append_ #[37, 3] ty #[.slice none 0 0, .int .i64 (k : Int)]).run Try.prog w =
      .ok (.slice (some ⟨w.heap.size, 0, none⟩) k (grownCap w k 0 2)) (w.drew.alloc (.cells (#[] ++ Builtin.zeroCells (Value.cells (.int .i64 0)) k ++ Builtin.zeroCells (Value.cells (.int .i64 0)) (grownCap w k 0 2 - k)) 2)) := fun ty => by
    have h := Lib.run_append_grow_zeros w 37 3 ty 2 i0 (.int .i64 0) .i64 .i64 Try.underlying37 Try.underlying3 hi' z0 none 0 0 [] hold k (by omega) (by omega) (by omega) (by omega)
      (by rw [z2]; omega)
      (by rw [Nat.zero_add]; exact growslice_fits (by omega) (by rw [z2]; omega))
    rw [Nat.zero_add] at h
    exact h
  have hGn : k ≤ grownCap w k 0 2 := grownCap_ge w _ _ _
  have hG63 : grownCap w k 0 2 ≤ 9223372036854775807 := by
    have := grownCap_le_maxLen w k 0 2 (by unfold maxLen; omega)
    unfold maxLen at this
    omega
  have hGm : grownCap w k 0 2 ≤ maxLen := by unfold maxLen; omega
  obtain ⟨G, hG⟩ : ∃ G, G = grownCap w k 0 2 := ⟨_, rfl⟩
  rw [← hG] at hrz hGn hG63 hGm
  clear hold hG
  go_enter Try.func169, Try.ntmps169
  go_wp2_with (at_builtin; refine Lib.wpList_append_run _ rfl _ _ _ _ rfl _ _ rfl rfl _ _ (hrz _) ?_)
  go_ret
  exact ⟨G, hGn, hGm, rfl, rfl⟩

theorem zc_size (n : Nat) : (Builtin.zeroCells (Value.cells (.int .i64 0)) n).size = n := by simp [Builtin.zeroCells, Value.cells]
theorem slGrowO (k : Nat) (hk : 0 < k) (hk1 : k ≤ 1000) (w : World) :
    Calls Try.prog 169 #[.slice none 0 0, .int .i64 k] w fun e w' => ∃ G, e = .returned (.slice (some ⟨w.heap.size, 0, none⟩) 0 G) ∧ k ≤ G ∧ w'.ownsRow w.heap.size 2 1 (.slice (some ⟨w.heap.size, 0, none⟩) 0 G) 0 [] ∧ Below w.heap.size w w' := by
  refine (slGrow k hk hk1 w).mono ?_
  rintro e w' ⟨G, hG, hm, rfl, rfl⟩
  refine ⟨G, rfl, hG, ?_, ((Below.refl _ _).drew).alloc (Nat.le_refl _) _⟩
  refine ⟨rfl, .inr ⟨_, _, _, rfl, Nat.le_refl _, (MapKept.heap_alloc w.drew _).1, Nat.zero_le _, hm, ?_, by simp⟩⟩
  simp only [Array.size_append, zc_size]
  simp
  omega

end Go.Proofs.Ytebgbplhcaocoaa
