/- Permutations of four sheets as arrays: one behind another, the inverse, along a directed edge. -/
import Derived.Test.YtkipfjdlmomkfaaProjV
set_option linter.unusedSimpArgs false
set_option linter.unusedVariables false
set_option maxRecDepth 100000
namespace Go.Proofs.Ytkipfjdlmomkfaa
open Go.RowKit

def perms4 : List (List Int) := four.flatMap fun a => four.flatMap fun b => four.flatMap fun c => four.flatMap fun d => if [a, b, c, d].Nodup then [[a, b, c, d]] else []
def thenL (p q : List Int) : List Int := p.map fun x => q.getD x.toNat 0
def invL (p : List Int) : List Int := (((([0, 0, 0, 0] : List Int).set (p.getD 0 0).toNat 0).set (p.getD 1 0).toNat 1).set (p.getD 2 0).toNat 2).set (p.getD 3 0).toNat 3

theorem pm1 : ∀ a ∈ four, permB 1 [a] = true → pad [a] ∈ perms4 := by decide +kernel
theorem pm2 : ∀ a ∈ four, ∀ b ∈ four, permB 2 [a, b] = true → pad [a, b] ∈ perms4 := by decide +kernel
theorem pm3 : ∀ a ∈ four, ∀ b ∈ four, ∀ c ∈ four, permB 3 [a, b, c] = true → pad [a, b, c] ∈ perms4 := by decide +kernel
theorem pm4 : ∀ a ∈ four, ∀ b ∈ four, ∀ c ∈ four, ∀ d ∈ four, permB 4 [a, b, c, d] = true → pad [a, b, c, d] ∈ perms4 := by decide +kernel
theorem pad_perms {sh : Int} {t : List Int} (h1 : 1 ≤ sh) (h4 : sh ≤ 4) (h : permB sh t = true) : pad t ∈ perms4 := by
  have hl := permB_len h
  have hin : ∀ x ∈ t, x ∈ four := fun x hx => by
    obtain ⟨i, hi, rfl⟩ := List.getElem_of_mem hx
    have := permB_in h i hi
    simp only [List.getD, List.getElem?_eq_getElem hi, Option.getD_some] at this
    exact inR_four this h4
  have hs : sh = 1 ∨ sh = 2 ∨ sh = 3 ∨ sh = 4 := by omega
  rcases hs with rfl | rfl | rfl | rfl
  · obtain ⟨a, rfl⟩ := len1 (by omega : t.length = 1)
    exact pm1 a (hin a (by simp)) h
  · obtain ⟨a, b, rfl⟩ := len2 (by omega : t.length = 2)
    exact pm2 a (hin a (by simp)) b (hin b (by simp)) h
  · obtain ⟨a, b, c, rfl⟩ := len3 (by omega : t.length = 3)
    exact pm3 a (hin a (by simp)) b (hin b (by simp)) c (hin c (by simp)) h
  · obtain ⟨a, b, c, d, rfl⟩ := len4 (by omega : t.length = 4)
    exact pm4 a (hin a (by simp)) b (hin b (by simp)) c (hin c (by simp)) d (hin d (by simp)) h
theorem perms4_list : perms4 = [[0,1,2,3],[0,1,3,2],[0,2,1,3],[0,2,3,1],[0,3,1,2],[0,3,2,1],[1,0,2,3],[1,0,3,2],[1,2,0,3],[1,2,3,0],[1,3,0,2],[1,3,2,0],[2,0,1,3],[2,0,3,1],[2,1,0,3],[2,1,3,0],[2,3,0,1],[2,3,1,0],[3,0,1,2],[3,0,2,1],[3,1,0,2],[3,1,2,0],[3,2,0,1],[3,2,1,0]] := by decide +kernel
theorem perms4_then : ∀ p ∈ perms4, ∀ q ∈ perms4, thenL p q ∈ perms4 := by decide +kernel
theorem perms4_inv : ∀ p ∈ perms4, invL p ∈ perms4 := by decide +kernel
theorem perms4_len : ∀ p ∈ perms4, p.length = 4 := by decide +kernel
theorem four_perms : four ∈ perms4 := by decide +kernel

theorem idx0 (a b c d : Int) (w : World) : (Instr.index 81 (.agg #[.int .i64 a, .int .i64 b, .int .i64 c, .int .i64 d]) (.int .i64 0)).run Try.prog w = .ok (.int .i64 a) w := by kernel_rfl
theorem idx1 (a b c d : Int) (w : World) : (Instr.index 81 (.agg #[.int .i64 a, .int .i64 b, .int .i64 c, .int .i64 d]) (.int .i64 1)).run Try.prog w = .ok (.int .i64 b) w := by kernel_rfl
theorem idx2 (a b c d : Int) (w : World) : (Instr.index 81 (.agg #[.int .i64 a, .int .i64 b, .int .i64 c, .int .i64 d]) (.int .i64 2)).run Try.prog w = .ok (.int .i64 c) w := by kernel_rfl
theorem idx3 (a b c d : Int) (w : World) : (Instr.index 81 (.agg #[.int .i64 a, .int .i64 b, .int .i64 c, .int .i64 d]) (.int .i64 3)).run Try.prog w = .ok (.int .i64 d) w := by kernel_rfl

set_option maxHeartbeats 6400000 in
theorem permInverse (p : List Int) (hp : p ∈ perms4) (w : World) :
    Calls Try.prog 111 #[arr p] w fun e w' => e = .returned (arr (invL p)) ∧ Below w.heap.size w w' := by
  have hb0 : ∀ o o' o'', Below w.heap.size w (((w.alloc o).alloc o').alloc o'') := fun o o' o'' => (((Below.refl _ _).alloc (Nat.le_refl _) o).alloc (by simp) o').alloc (by simp; omega) o''
  rw [perms4_list] at hp
  simp only [List.mem_cons, List.not_mem_nil, or_false] at hp
  rcases hp with rfl | rfl | rfl | rfl | rfl | rfl | rfl | rfl | rfl | rfl | rfl | rfl | rfl | rfl | rfl | rfl | rfl | rfl | rfl | rfl | rfl | rfl | rfl | rfl
  · have i0 := idx0 0 1 2 3
    have i1 := idx1 0 1 2 3
    have i2 := idx2 0 1 2 3
    have i3 := idx3 0 1 2 3
    show Calls _ _ #[.agg #[.int .i64 0, .int .i64 1, .int .i64 2, .int .i64 3]] _ _
    go_enter Try.func111, Try.ntmps111
    go_wp2
    refine wp_loop_rounds 5 ?_
    rw [rounds_succ]
    go_wp2
    rw [rounds_succ]
    go_wp2
    rw [rounds_succ]
    go_wp2
    rw [rounds_succ]
    go_wp2
    rw [rounds_succ]
    go_wp2
    refine bodyPost_ret (v := arr [0, 1, 2, 3]) (by simp [results, Try.results111, go_sem, arr]) rfl ⟨by rw [show invL [0, 1, 2, 3] = [0, 1, 2, 3] by decide], ?_⟩
    repeat (refine Below.setCell ?_ (by simp <;> omega) _)
    exact hb0 _ _ _
  · have i0 := idx0 0 1 3 2
    have i1 := idx1 0 1 3 2
    have i2 := idx2 0 1 3 2
    have i3 := idx3 0 1 3 2
    show Calls _ _ #[.agg #[.int .i64 0, .int .i64 1, .int .i64 3, .int .i64 2]] _ _
    go_enter Try.func111, Try.ntmps111
    go_wp2
    refine wp_loop_rounds 5 ?_
    rw [rounds_succ]
    go_wp2
    rw [rounds_succ]
    go_wp2
    rw [rounds_succ]
    go_wp2
    rw [rounds_succ]
    go_wp2
    rw [rounds_succ]
    go_wp2
    refine bodyPost_ret (v := arr [0, 1, 3, 2]) (by simp [results, Try.results111, go_sem, arr]) rfl ⟨by rw [show invL [0, 1, 3, 2] = [0, 1, 3, 2] by decide], ?_⟩
    repeat (refine Below.setCell ?_ (by simp <;> omega) _)
    exact hb0 _ _ _
  · have i0 := idx0 0 2 1 3
    have i1 := idx1 0 2 1 3
    have i2 := idx2 0 2 1 3
    have i3 := idx3 0 2 1 3
    show Calls _ _ #[.agg #[.int .i64 0, .int .i64 2, .int .i64 1, .int .i64 3]] _ _
    go_enter Try.func111, Try.ntmps111
    go_wp2
    refine wp_loop_rounds 5 ?_
    rw [rounds_succ]
    go_wp2
    rw [rounds_succ]
    go_wp2
    rw [rounds_succ]
    go_wp2
    rw [rounds_succ]
    go_wp2
    rw [rounds_succ]
    go_wp2
    refine bodyPost_ret (v := arr [0, 2, 1, 3]) (by simp [results, Try.results111, go_sem, arr]) rfl ⟨by rw [show invL [0, 2, 1, 3] = [0, 2, 1, 3] by decide], ?_⟩
    repeat (refine Below.setCell ?_ (by simp <;> omega) _)
    exact hb0 _ _ _
  · have i0 := idx0 0 2 3 1
    have i1 := idx1 0 2 3 1
    have i2 := idx2 0 2 3 1
    have i3 := idx3 0 2 3 1
    show Calls _ _ #[.agg #[.int .i64 0, .int .i64 2, .int .i64 3, .int .i64 1]] _ _
    go_enter Try.func111, Try.ntmps111
    go_wp2
    refine wp_loop_rounds 5 ?_
    rw [rounds_succ]
    go_wp2
    rw [rounds_succ]
    go_wp2
    rw [rounds_succ]
    go_wp2
    rw [rounds_succ]
    go_wp2
    rw [rounds_succ]
    go_wp2
    refine bodyPost_ret (v := arr [0, 3, 1, 2]) (by simp [results, Try.results111, go_sem, arr]) rfl ⟨by rw [show invL [0, 2, 3, 1] = [0, 3, 1, 2] by decide], ?_⟩
    repeat (refine Below.setCell ?_ (by simp <;> omega) _)
    exact hb0 _ _ _
  · have i0 := idx0 0 3 1 2
    have i1 := idx1 0 3 1 2
    have i2 := idx2 0 3 1 2
    have i3 := idx3 0 3 1 2
    show Calls _ _ #[.agg #[.int .i64 0, .int .i64 3, .int .i64 1, .int .i64 2]] _ _
    go_enter Try.func111, Try.ntmps111
    go_wp2
    refine wp_loop_rounds 5 ?_
    rw [rounds_succ]
    go_wp2
    rw [rounds_succ]
    go_wp2
    rw [rounds_succ]
    go_wp2
    rw [rounds_succ]
    go_wp2
    rw [rounds_succ]
    go_wp2
    refine bodyPost_ret (v := arr [0, 2, 3, 1]) (by simp [results, Try.results111, go_sem, arr]) rfl ⟨by rw [show invL [0, 3, 1, 2] = [0, 2, 3, 1] by decide], ?_⟩
    repeat (refine Below.setCell ?_ (by simp <;> omega) _)
    exact hb0 _ _ _
  · have i0 := idx0 0 3 2 1
    have i1 := idx1 0 3 2 1
    have i2 := idx2 0 3 2 1
    have i3 := idx3 0 3 2 1
    show Calls _ _ #[.agg #[.int .i64 0, .int .i64 3, .int .i64 2, .int .i64 1]] _ _
    go_enter Try.func111, Try.ntmps111
    go_wp2
    refine wp_loop_rounds 5 ?_
    rw [rounds_succ]
    go_wp2
    rw [rounds_succ]
    go_wp2
    rw [rounds_succ]
    go_wp2
    rw [rounds_succ]
    go_wp2
    rw [rounds_succ]
    go_wp2
    refine bodyPost_ret (v := arr [0, 3, 2, 1]) (by simp [results, Try.results111, go_sem, arr]) rfl ⟨by rw [show invL [0, 3, 2, 1] = [0, 3, 2, 1] by decide], ?_⟩
    repeat (refine Below.setCell ?_ (by simp <;> omega) _)
    exact hb0 _ _ _
  · have i0 := idx0 1 0 2 3
    have i1 := idx1 1 0 2 3
    have i2 := idx2 1 0 2 3
    have i3 := idx3 1 0 2 3
    show Calls _ _ #[.agg #[.int .i64 1, .int .i64 0, .int .i64 2, .int .i64 3]] _ _
    go_enter Try.func111, Try.ntmps111
    go_wp2
    refine wp_loop_rounds 5 ?_
    rw [rounds_succ]
    go_wp2
    rw [rounds_succ]
    go_wp2
    rw [rounds_succ]
    go_wp2
    rw [rounds_succ]
    go_wp2
    rw [rounds_succ]
    go_wp2
    refine bodyPost_ret (v := arr [1, 0, 2, 3]) (by simp [results, Try.results111, go_sem, arr]) rfl ⟨by rw [show invL [1, 0, 2, 3] = [1, 0, 2, 3] by decide], ?_⟩
    repeat (refine Below.setCell ?_ (by simp <;> omega) _)
    exact hb0 _ _ _
  · have i0 := idx0 1 0 3 2
    have i1 := idx1 1 0 3 2
    have i2 := idx2 1 0 3 2
    have i3 := idx3 1 0 3 2
    show Calls _ _ #[.agg #[.int .i64 1, .int .i64 0, .int .i64 3, .int .i64 2]] _ _
    go_enter Try.func111, Try.ntmps111
    go_wp2
    refine wp_loop_rounds 5 ?_
    rw [rounds_succ]
    go_wp2
    rw [rounds_succ]
    go_wp2
    rw [rounds_succ]
    go_wp2
    rw [rounds_succ]
    go_wp2
    rw [rounds_succ]
    go_wp2
    refine bodyPost_ret (v := arr [1, 0, 3, 2]) (by simp [results, Try.results111, go_sem, arr]) rfl ⟨by rw [show invL [1, 0, 3, 2] = [1, 0, 3, 2] by decide], ?_⟩
    repeat (refine Below.setCell ?_ (by simp <;> omega) _)
    exact hb0 _ _ _
  · have i0 := idx0 1 2 0 3
    have i1 := idx1 1 2 0 3
    have i2 := idx2 1 2 0 3
    have i3 := idx3 1 2 0 3
    show Calls _ _ #[.agg #[.int .i64 1, .int .i64 2, .int .i64 0, .int .i64 3]] _ _
    go_enter Try.func111, Try.ntmps111
    go_wp2
    refine wp_loop_rounds 5 ?_
    rw [rounds_succ]
    go_wp2
    rw [rounds_succ]
    go_wp2
    rw [rounds_succ]
    go_wp2
    rw [rounds_succ]
    go_wp2
    rw [rounds_succ]
    go_wp2
    refine bodyPost_ret (v := arr [2, 0, 1, 3]) (by simp [results, Try.results111, go_sem, arr]) rfl ⟨by rw [show invL [1, 2, 0, 3] = [2, 0, 1, 3] by decide], ?_⟩
    repeat (refine Below.setCell ?_ (by simp <;> omega) _)
    exact hb0 _ _ _
  · have i0 := idx0 1 2 3 0
    have i1 := idx1 1 2 3 0
    have i2 := idx2 1 2 3 0
    have i3 := idx3 1 2 3 0
    show Calls _ _ #[.agg #[.int .i64 1, .int .i64 2, .int .i64 3, .int .i64 0]] _ _
    go_enter Try.func111, Try.ntmps111
    go_wp2
    refine wp_loop_rounds 5 ?_
    rw [rounds_succ]
    go_wp2
    rw [rounds_succ]
    go_wp2
    rw [rounds_succ]
    go_wp2
    rw [rounds_succ]
    go_wp2
    rw [rounds_succ]
    go_wp2
    refine bodyPost_ret (v := arr [3, 0, 1, 2]) (by simp [results, Try.results111, go_sem, arr]) rfl ⟨by rw [show invL [1, 2, 3, 0] = [3, 0, 1, 2] by decide], ?_⟩
    repeat (refine Below.setCell ?_ (by simp <;> omega) _)
    exact hb0 _ _ _
  · have i0 := idx0 1 3 0 2
    have i1 := idx1 1 3 0 2
    have i2 := idx2 1 3 0 2
    have i3 := idx3 1 3 0 2
    show Calls _ _ #[.agg #[.int .i64 1, .int .i64 3, .int .i64 0, .int .i64 2]] _ _
    go_enter Try.func111, Try.ntmps111
    go_wp2
    refine wp_loop_rounds 5 ?_
    rw [rounds_succ]
    go_wp2
    rw [rounds_succ]
    go_wp2
    rw [rounds_succ]
    go_wp2
    rw [rounds_succ]
    go_wp2
    rw [rounds_succ]
    go_wp2
    refine bodyPost_ret (v := arr [2, 0, 3, 1]) (by simp [results, Try.results111, go_sem, arr]) rfl ⟨by rw [show invL [1, 3, 0, 2] = [2, 0, 3, 1] by decide], ?_⟩
    repeat (refine Below.setCell ?_ (by simp <;> omega) _)
    exact hb0 _ _ _
  · have i0 := idx0 1 3 2 0
    have i1 := idx1 1 3 2 0
    have i2 := idx2 1 3 2 0
    have i3 := idx3 1 3 2 0
    show Calls _ _ #[.agg #[.int .i64 1, .int .i64 3, .int .i64 2, .int .i64 0]] _ _
    go_enter Try.func111, Try.ntmps111
    go_wp2
    refine wp_loop_rounds 5 ?_
    rw [rounds_succ]
    go_wp2
    rw [rounds_succ]
    go_wp2
    rw [rounds_succ]
    go_wp2
    rw [rounds_succ]
    go_wp2
    rw [rounds_succ]
    go_wp2
    refine bodyPost_ret (v := arr [3, 0, 2, 1]) (by simp [results, Try.results111, go_sem, arr]) rfl ⟨by rw [show invL [1, 3, 2, 0] = [3, 0, 2, 1] by decide], ?_⟩
    repeat (refine Below.setCell ?_ (by simp <;> omega) _)
    exact hb0 _ _ _
  · have i0 := idx0 2 0 1 3
    have i1 := idx1 2 0 1 3
    have i2 := idx2 2 0 1 3
    have i3 := idx3 2 0 1 3
    show Calls _ _ #[.agg #[.int .i64 2, .int .i64 0, .int .i64 1, .int .i64 3]] _ _
    go_enter Try.func111, Try.ntmps111
    go_wp2
    refine wp_loop_rounds 5 ?_
    rw [rounds_succ]
    go_wp2
    rw [rounds_succ]
    go_wp2
    rw [rounds_succ]
    go_wp2
    rw [rounds_succ]
    go_wp2
    rw [rounds_succ]
    go_wp2
    refine bodyPost_ret (v := arr [1, 2, 0, 3]) (by simp [results, Try.results111, go_sem, arr]) rfl ⟨by rw [show invL [2, 0, 1, 3] = [1, 2, 0, 3] by decide], ?_⟩
    repeat (refine Below.setCell ?_ (by simp <;> omega) _)
    exact hb0 _ _ _
  · have i0 := idx0 2 0 3 1
    have i1 := idx1 2 0 3 1
    have i2 := idx2 2 0 3 1
    have i3 := idx3 2 0 3 1
    show Calls _ _ #[.agg #[.int .i64 2, .int .i64 0, .int .i64 3, .int .i64 1]] _ _
    go_enter Try.func111, Try.ntmps111
    go_wp2
    refine wp_loop_rounds 5 ?_
    rw [rounds_succ]
    go_wp2
    rw [rounds_succ]
    go_wp2
    rw [rounds_succ]
    go_wp2
    rw [rounds_succ]
    go_wp2
    rw [rounds_succ]
    go_wp2
    refine bodyPost_ret (v := arr [1, 3, 0, 2]) (by simp [results, Try.results111, go_sem, arr]) rfl ⟨by rw [show invL [2, 0, 3, 1] = [1, 3, 0, 2] by decide], ?_⟩
    repeat (refine Below.setCell ?_ (by simp <;> omega) _)
    exact hb0 _ _ _
  · have i0 := idx0 2 1 0 3
    have i1 := idx1 2 1 0 3
    have i2 := idx2 2 1 0 3
    have i3 := idx3 2 1 0 3
    show Calls _ _ #[.agg #[.int .i64 2, .int .i64 1, .int .i64 0, .int .i64 3]] _ _
    go_enter Try.func111, Try.ntmps111
    go_wp2
    refine wp_loop_rounds 5 ?_
    rw [rounds_succ]
    go_wp2
    rw [rounds_succ]
    go_wp2
    rw [rounds_succ]
    go_wp2
    rw [rounds_succ]
    go_wp2
    rw [rounds_succ]
    go_wp2
    refine bodyPost_ret (v := arr [2, 1, 0, 3]) (by simp [results, Try.results111, go_sem, arr]) rfl ⟨by rw [show invL [2, 1, 0, 3] = [2, 1, 0, 3] by decide], ?_⟩
    repeat (refine Below.setCell ?_ (by simp <;> omega) _)
    exact hb0 _ _ _
  · have i0 := idx0 2 1 3 0
    have i1 := idx1 2 1 3 0
    have i2 := idx2 2 1 3 0
    have i3 := idx3 2 1 3 0
    show Calls _ _ #[.agg #[.int .i64 2, .int .i64 1, .int .i64 3, .int .i64 0]] _ _
    go_enter Try.func111, Try.ntmps111
    go_wp2
    refine wp_loop_rounds 5 ?_
    rw [rounds_succ]
    go_wp2
    rw [rounds_succ]
    go_wp2
    rw [rounds_succ]
    go_wp2
    rw [rounds_succ]
    go_wp2
    rw [rounds_succ]
    go_wp2
    refine bodyPost_ret (v := arr [3, 1, 0, 2]) (by simp [results, Try.results111, go_sem, arr]) rfl ⟨by rw [show invL [2, 1, 3, 0] = [3, 1, 0, 2] by decide], ?_⟩
    repeat (refine Below.setCell ?_ (by simp <;> omega) _)
    exact hb0 _ _ _
  · have i0 := idx0 2 3 0 1
    have i1 := idx1 2 3 0 1
    have i2 := idx2 2 3 0 1
    have i3 := idx3 2 3 0 1
    show Calls _ _ #[.agg #[.int .i64 2, .int .i64 3, .int .i64 0, .int .i64 1]] _ _
    go_enter Try.func111, Try.ntmps111
    go_wp2
    refine wp_loop_rounds 5 ?_
    rw [rounds_succ]
    go_wp2
    rw [rounds_succ]
    go_wp2
    rw [rounds_succ]
    go_wp2
    rw [rounds_succ]
    go_wp2
    rw [rounds_succ]
    go_wp2
    refine bodyPost_ret (v := arr [2, 3, 0, 1]) (by simp [results, Try.results111, go_sem, arr]) rfl ⟨by rw [show invL [2, 3, 0, 1] = [2, 3, 0, 1] by decide], ?_⟩
    repeat (refine Below.setCell ?_ (by simp <;> omega) _)
    exact hb0 _ _ _
  · have i0 := idx0 2 3 1 0
    have i1 := idx1 2 3 1 0
    have i2 := idx2 2 3 1 0
    have i3 := idx3 2 3 1 0
    show Calls _ _ #[.agg #[.int .i64 2, .int .i64 3, .int .i64 1, .int .i64 0]] _ _
    go_enter Try.func111, Try.ntmps111
    go_wp2
    refine wp_loop_rounds 5 ?_
    rw [rounds_succ]
    go_wp2
    rw [rounds_succ]
    go_wp2
    rw [rounds_succ]
    go_wp2
    rw [rounds_succ]
    go_wp2
    rw [rounds_succ]
    go_wp2
    refine bodyPost_ret (v := arr [3, 2, 0, 1]) (by simp [results, Try.results111, go_sem, arr]) rfl ⟨by rw [show invL [2, 3, 1, 0] = [3, 2, 0, 1] by decide], ?_⟩
    repeat (refine Below.setCell ?_ (by simp <;> omega) _)
    exact hb0 _ _ _
  · have i0 := idx0 3 0 1 2
    have i1 := idx1 3 0 1 2
    have i2 := idx2 3 0 1 2
    have i3 := idx3 3 0 1 2
    show Calls _ _ #[.agg #[.int .i64 3, .int .i64 0, .int .i64 1, .int .i64 2]] _ _
    go_enter Try.func111, Try.ntmps111
    go_wp2
    refine wp_loop_rounds 5 ?_
    rw [rounds_succ]
    go_wp2
    rw [rounds_succ]
    go_wp2
    rw [rounds_succ]
    go_wp2
    rw [rounds_succ]
    go_wp2
    rw [rounds_succ]
    go_wp2
    refine bodyPost_ret (v := arr [1, 2, 3, 0]) (by simp [results, Try.results111, go_sem, arr]) rfl ⟨by rw [show invL [3, 0, 1, 2] = [1, 2, 3, 0] by decide], ?_⟩
    repeat (refine Below.setCell ?_ (by simp <;> omega) _)
    exact hb0 _ _ _
  · have i0 := idx0 3 0 2 1
    have i1 := idx1 3 0 2 1
    have i2 := idx2 3 0 2 1
    have i3 := idx3 3 0 2 1
    show Calls _ _ #[.agg #[.int .i64 3, .int .i64 0, .int .i64 2, .int .i64 1]] _ _
    go_enter Try.func111, Try.ntmps111
    go_wp2
    refine wp_loop_rounds 5 ?_
    rw [rounds_succ]
    go_wp2
    rw [rounds_succ]
    go_wp2
    rw [rounds_succ]
    go_wp2
    rw [rounds_succ]
    go_wp2
    rw [rounds_succ]
    go_wp2
    refine bodyPost_ret (v := arr [1, 3, 2, 0]) (by simp [results, Try.results111, go_sem, arr]) rfl ⟨by rw [show invL [3, 0, 2, 1] = [1, 3, 2, 0] by decide], ?_⟩
    repeat (refine Below.setCell ?_ (by simp <;> omega) _)
    exact hb0 _ _ _
  · have i0 := idx0 3 1 0 2
    have i1 := idx1 3 1 0 2
    have i2 := idx2 3 1 0 2
    have i3 := idx3 3 1 0 2
    show Calls _ _ #[.agg #[.int .i64 3, .int .i64 1, .int .i64 0, .int .i64 2]] _ _
    go_enter Try.func111, Try.ntmps111
    go_wp2
    refine wp_loop_rounds 5 ?_
    rw [rounds_succ]
    go_wp2
    rw [rounds_succ]
    go_wp2
    rw [rounds_succ]
    go_wp2
    rw [rounds_succ]
    go_wp2
    rw [rounds_succ]
    go_wp2
    refine bodyPost_ret (v := arr [2, 1, 3, 0]) (by simp [results, Try.results111, go_sem, arr]) rfl ⟨by rw [show invL [3, 1, 0, 2] = [2, 1, 3, 0] by decide], ?_⟩
    repeat (refine Below.setCell ?_ (by simp <;> omega) _)
    exact hb0 _ _ _
  · have i0 := idx0 3 1 2 0
    have i1 := idx1 3 1 2 0
    have i2 := idx2 3 1 2 0
    have i3 := idx3 3 1 2 0
    show Calls _ _ #[.agg #[.int .i64 3, .int .i64 1, .int .i64 2, .int .i64 0]] _ _
    go_enter Try.func111, Try.ntmps111
    go_wp2
    refine wp_loop_rounds 5 ?_
    rw [rounds_succ]
    go_wp2
    rw [rounds_succ]
    go_wp2
    rw [rounds_succ]
    go_wp2
    rw [rounds_succ]
    go_wp2
    rw [rounds_succ]
    go_wp2
    refine bodyPost_ret (v := arr [3, 1, 2, 0]) (by simp [results, Try.results111, go_sem, arr]) rfl ⟨by rw [show invL [3, 1, 2, 0] = [3, 1, 2, 0] by decide], ?_⟩
    repeat (refine Below.setCell ?_ (by simp <;> omega) _)
    exact hb0 _ _ _
  · have i0 := idx0 3 2 0 1
    have i1 := idx1 3 2 0 1
    have i2 := idx2 3 2 0 1
    have i3 := idx3 3 2 0 1
    show Calls _ _ #[.agg #[.int .i64 3, .int .i64 2, .int .i64 0, .int .i64 1]] _ _
    go_enter Try.func111, Try.ntmps111
    go_wp2
    refine wp_loop_rounds 5 ?_
    rw [rounds_succ]
    go_wp2
    rw [rounds_succ]
    go_wp2
    rw [rounds_succ]
    go_wp2
    rw [rounds_succ]
    go_wp2
    rw [rounds_succ]
    go_wp2
    refine bodyPost_ret (v := arr [2, 3, 1, 0]) (by simp [results, Try.results111, go_sem, arr]) rfl ⟨by rw [show invL [3, 2, 0, 1] = [2, 3, 1, 0] by decide], ?_⟩
    repeat (refine Below.setCell ?_ (by simp <;> omega) _)
    exact hb0 _ _ _
  · have i0 := idx0 3 2 1 0
    have i1 := idx1 3 2 1 0
    have i2 := idx2 3 2 1 0
    have i3 := idx3 3 2 1 0
    show Calls _ _ #[.agg #[.int .i64 3, .int .i64 2, .int .i64 1, .int .i64 0]] _ _
    go_enter Try.func111, Try.ntmps111
    go_wp2
    refine wp_loop_rounds 5 ?_
    rw [rounds_succ]
    go_wp2
    rw [rounds_succ]
    go_wp2
    rw [rounds_succ]
    go_wp2
    rw [rounds_succ]
    go_wp2
    rw [rounds_succ]
    go_wp2
    refine bodyPost_ret (v := arr [3, 2, 1, 0]) (by simp [results, Try.results111, go_sem, arr]) rfl ⟨by rw [show invL [3, 2, 1, 0] = [3, 2, 1, 0] by decide], ?_⟩
    repeat (refine Below.setCell ?_ (by simp <;> omega) _)
    exact hb0 _ _ _

theorem perm_ent {p : List Int} (hp : p ∈ perms4) : ∃ a b c d : Nat, p = [(a : Int), (b : Int), (c : Int), (d : Int)] ∧ a < 4 ∧ b < 4 ∧ c < 4 ∧ d < 4 := by
  have h : ∀ p ∈ perms4, p = [((p.getD 0 0).toNat : Int), ((p.getD 1 0).toNat : Int), ((p.getD 2 0).toNat : Int), ((p.getD 3 0).toNat : Int)] ∧ (p.getD 0 0).toNat < 4 ∧ (p.getD 1 0).toNat < 4 ∧ (p.getD 2 0).toNat < 4 ∧ (p.getD 3 0).toNat < 4 := by decide +kernel
  exact ⟨_, _, _, _, h p hp⟩

set_option maxHeartbeats 6400000 in
theorem permThen (p q : List Int) (hp : p ∈ perms4) (hq : q ∈ perms4) (w : World) :
    Calls Try.prog 72 #[arr p, arr q] w fun e w' => e = .returned (arr (thenL p q)) ∧ Below w.heap.size w w' := by
  obtain ⟨a, b, c, d, rfl, ha, hb, hc, hd⟩ := perm_ent hp
  obtain ⟨r0, r1, r2, r3, rfl⟩ := len4 (perms4_len q hq)
  clear hp hq
  have hb0 : ∀ o o' o'' o3, Below w.heap.size w ((((w.alloc o).alloc o').alloc o'').alloc o3) := fun o o' o'' o3 => ((((Below.refl _ _).alloc (Nat.le_refl _) o).alloc (by simp) o').alloc (by simp; omega) o'').alloc (by simp; omega) o3
  have i0 := idx0 a b c d
  have i1 := idx1 a b c d
  have i2 := idx2 a b c d
  have i3 := idx3 a b c d
  have hcell : ∀ j, j < 4 → ∀ o o' o'', (((w.alloc o).alloc (.cells #[.int .i64 r0, .int .i64 r1, .int .i64 r2, .int .i64 r3] 81)).alloc o' |>.alloc o'').cell? ⟨w.heap.size + 1, j, none⟩ = some (.int .i64 ([r0, r1, r2, r3].getD j 0)) := by
    intro j hj o o' o''
    have hj' : j = 0 ∨ j = 1 ∨ j = 2 ∨ j = 3 := by omega
    rcases hj' with rfl | rfl | rfl | rfl <;> (simp; go_simp)
  have ca := hcell a ha
  have cb := hcell b hb
  have cc := hcell c hc
  have cd := hcell d hd
  have hth : thenL [(a : Int), (b : Int), (c : Int), (d : Int)] [r0, r1, r2, r3] = [[r0, r1, r2, r3].getD a 0, [r0, r1, r2, r3].getD b 0, [r0, r1, r2, r3].getD c 0, [r0, r1, r2, r3].getD d 0] := by simp [thenL]
  rw [hth]
  generalize [r0, r1, r2, r3].getD a 0 = xa at *
  generalize [r0, r1, r2, r3].getD b 0 = xb at *
  generalize [r0, r1, r2, r3].getD c 0 = xc at *
  generalize [r0, r1, r2, r3].getD d 0 = xd at *
  clear hcell hth
  show Calls _ _ #[.agg #[.int .i64 a, .int .i64 b, .int .i64 c, .int .i64 d], .agg #[.int .i64 r0, .int .i64 r1, .int .i64 r2, .int .i64 r3]] _ _
  go_enter Try.func72, Try.ntmps72
  go_wp2
  refine wp_loop_rounds 5 ?_
  rw [rounds_succ]
  go_wp2
  rw [rounds_succ]
  go_wp2
  rw [rounds_succ]
  go_wp2
  rw [rounds_succ]
  go_wp2
  rw [rounds_succ]
  go_wp2
  refine bodyPost_ret (v := arr [xa, xb, xc, xd]) (by simp [results, Try.results72, go_sem, arr]) rfl ⟨rfl, ?_⟩
  repeat (refine Below.setCell ?_ (by simp <;> omega) _)
  exact hb0 _ _ _ _

end Go.Proofs.Ytkipfjdlmomkfaa
