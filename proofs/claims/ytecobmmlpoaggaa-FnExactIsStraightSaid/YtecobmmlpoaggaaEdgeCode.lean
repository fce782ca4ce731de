/- A graph and one of its edges: the code of both sides. -/
import Derived.Test.YtecobmmlpoaggaaIsGraph3
import Derived.Test.YtecobmmlpoaggaaDegs
set_option linter.unusedSimpArgs false
set_option linter.unusedVariables false
namespace Go.Proofs.Ytecobmmlpoaggaa
open Go.RowKit

def edgeCode (s : Int) (xss : List (List Int)) (k : Int) : Int := if grB s xss then (if inR k xss.length then 0 else 2) else 1
theorem edgeCode_ok {s : Int} {xss : List (List Int)} {k : Int} (h : edgeCode s xss k = 0) : grB s xss = true ∧ 0 ≤ k ∧ k < xss.length := by
  unfold edgeCode at h
  split at h
  · rename_i hg
    split at h
    · rename_i hr
      simp only [inR, Bool.and_eq_true, decide_eq_true_eq] at hr
      exact ⟨hg, hr⟩
    · omega
  · omega

set_option maxHeartbeats 800000 in
theorem checkEdge {lo hi : Nat} (s : Int) (a : Option Addr) (n c : Nat) (xss : List (List Int)) (k : Int) (w : World) (h : RdR lo hi w (.slice a n c) xss) (hn : xss.length = n) :
    Calls Try.prog 69 #[.agg #[.int .i64 s, .slice a n c], .int .i64 k] w fun e w' => e = .returned (.int .i64 (edgeCode s xss k)) ∧ Below w.heap.size w w' := by
  have hb0 : ∀ o, Below w.heap.size w (w.alloc o) := fun o => (Below.refl _ _).alloc (Nat.le_refl _) o
  have hec : edgeCode s xss k = if grB s xss then (if inR k n then 0 else 2) else 1 := by unfold edgeCode; rw [hn]
  have HEC := Lib.hid hec
  have HN := Lib.hid hn
  clear hec hn
  go_enter Try.func69, Try.ntmps69
  go_wp2_with fail
  refine calls_gen (fun W => Below w.heap.size w W ∧ w.heap.size < W.heap.size ∧ W.cell? ⟨w.heap.size, 0, none⟩ = some (.int .i64 s) ∧ W.cell? ⟨w.heap.size, 1, none⟩ = some (.slice a n c)) ⟨hb0 _, by simp, by go_simp, by go_simp⟩ ?_
  rintro W ⟨hB, hz, k1, k2⟩
  refine (implIsGraph s a n c xss W (h.below hB) HN.out).mono ?_
  cases hg : grB s xss with
  | false =>
    rintro e w1 ⟨rfl, b1⟩
    replace hB := hB.next b1
    go_wp2
    go_ret
    exact ⟨by rw [HEC.out, hg]; rfl, hB⟩
  | true =>
    rintro e w1 ⟨rfl, b1⟩
    replace k1 := b1.keep k1
    replace k2 := b1.keep k2
    replace hB := hB.next b1
    obtain ⟨_, _, h3, _⟩ := grB_iff hg
    have hn10 : n ≤ 10 := by have := HN.out; omega
    clear b1
    cases hr : inR k n with
    | false =>
      go_wp2_with fail
      refine (isIndexV k n false hr _).mono ?_
      rintro e w2 ⟨rfl, q2⟩
      replace hB := hB.qt q2
      go_wp2
      go_ret
      exact ⟨by rw [HEC.out, hg, hr]; rfl, hB⟩
    | true =>
      go_wp2_with fail
      refine (isIndexV k n true hr _).mono ?_
      rintro e w2 ⟨rfl, q2⟩
      replace hB := hB.qt q2
      go_wp2
      go_ret
      exact ⟨by rw [HEC.out, hg, hr]; rfl, hB⟩

set_option maxHeartbeats 800000 in
theorem l01Edge {lo hi : Nat} (s : Int) (a : Option Addr) (n c : Nat) (xss : List (List Int)) (k : Int) (w : World) (h : RdR lo hi w (.slice a n c) xss) (hn : xss.length = n) :
    Calls Try.prog 67 #[.agg #[.int .i64 s, .slice a n c], .int .i64 k] w fun e w' => e = .returned (.int .i64 (edgeCode s xss k)) ∧ Below w.heap.size w w' := by
  have hb0 : ∀ o, Below w.heap.size w (w.alloc o) := fun o => (Below.refl _ _).alloc (Nat.le_refl _) o
  have hec : edgeCode s xss k = if grB s xss then (if inR k n then 0 else 2) else 1 := by unfold edgeCode; rw [hn]
  have HEC := Lib.hid hec
  have HN := Lib.hid hn
  clear hec hn
  go_enter Try.func67, Try.ntmps67
  go_wp2_with fail
  refine calls_gen (fun W => Below w.heap.size w W ∧ w.heap.size < W.heap.size ∧ W.cell? ⟨w.heap.size, 0, none⟩ = some (.int .i64 s) ∧ W.cell? ⟨w.heap.size, 1, none⟩ = some (.slice a n c)) ⟨hb0 _, by simp, by go_simp, by go_simp⟩ ?_
  rintro W ⟨hB, hz, k1, k2⟩
  refine (l01Is s a n c xss W (h.below hB) HN.out).mono ?_
  cases hg : grB s xss with
  | false =>
    rintro e w1 ⟨rfl, b1⟩
    replace hB := hB.next b1
    go_wp2
    go_ret
    exact ⟨by rw [HEC.out, hg]; rfl, hB⟩
  | true =>
    rintro e w1 ⟨rfl, b1⟩
    replace k1 := b1.keep k1
    replace k2 := b1.keep k2
    replace hB := hB.next b1
    obtain ⟨_, _, h3, _⟩ := grB_iff hg
    have hn10 : n ≤ 10 := by have := HN.out; omega
    clear b1
    have hin : (decide (0 ≤ k) && decide (k ≤ (n : Int) - 1)) = inR k n := by
      unfold inR
      congr 1
      simp; omega
    cases hr : inR k n with
    | false =>
      rw [hr] at hin
      go_wp2_with fail
      refine (l01In k 0 ((n : Int) - 1) _).mono ?_
      rw [hin]
      rintro e w2 ⟨rfl, q2⟩
      replace hB := hB.qt q2
      go_wp2
      go_ret
      exact ⟨by rw [HEC.out, hg, hr]; rfl, hB⟩
    | true =>
      rw [hr] at hin
      go_wp2_with fail
      refine (l01In k 0 ((n : Int) - 1) _).mono ?_
      rw [hin]
      rintro e w2 ⟨rfl, q2⟩
      replace hB := hB.qt q2
      go_wp2
      go_ret
      exact ⟨by rw [HEC.out, hg, hr]; rfl, hB⟩

end Go.Proofs.Ytecobmmlpoaggaa
