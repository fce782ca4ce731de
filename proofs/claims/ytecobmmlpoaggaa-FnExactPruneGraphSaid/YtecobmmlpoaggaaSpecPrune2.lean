/- PruneGraph of the model: the head. -/
import Derived.Test.YtecobmmlpoaggaaSpecPrune
import Derived.Test.YtecobmmlpoaggaaIsGraph3
set_option linter.unusedSimpArgs false
set_option linter.unusedVariables false
namespace Go.Proofs.Ytecobmmlpoaggaa
open Go.RowKit

theorem specPrune_no {lo hi : Nat} (s : Int) (a : Option Addr) (n c : Nat) (xss : List (List Int)) (w : World) (h : RdR lo hi w (.slice a n c) xss) (hn : xss.length = n) (hg : grB s xss = false) :
    Calls Try.prog 45 #[.agg #[.int .i64 s, .slice a n c]] w fun e w' => e = .returned (.tuple #[.agg #[.int .i64 0, .slice none 0 0], .int .i64 1]) ∧ Below w.heap.size w w' := by
  have hb0 : ∀ o o', Below w.heap.size w ((w.alloc o).alloc o') := fun o o' => ((Below.refl _ _).alloc (Nat.le_refl _) o).alloc (by simp) o'
  go_enter Try.func45, Try.ntmps45
  go_wp2_with fail
  refine calls_gen (fun W => Below w.heap.size w W ∧ w.heap.size + 1 < W.heap.size ∧ W.cell? ⟨w.heap.size + 1, 0, none⟩ = some (.int .i64 0) ∧ W.cell? ⟨w.heap.size + 1, 1, none⟩ = some (.slice none 0 0) ∧ W.frozen? ⟨w.heap.size + 1, 0, none⟩ = false ∧ W.frozen? ⟨w.heap.size + 1, 1, none⟩ = false) ⟨hb0 _ _, by simp, by go_simp, by go_simp, by go_simp, by go_simp⟩ ?_
  rintro W ⟨hB, hz, k1, k2, f1, f2⟩
  refine (l01Is s a n c xss W (h.below hB) hn).mono ?_
  rw [hg]
  rintro e w1 ⟨rfl, b1⟩
  replace k1 := b1.keep k1
  replace k2 := b1.keep k2
  replace f1 := b1.keepf hz f1
  replace f2 := b1.keepf hz f2
  replace hB := hB.next b1
  clear b1
  go_wp2
  refine bodyPost_ret (v := .tuple #[.agg #[.int .i64 0, .slice none 0 0], .int .i64 1]) (by simp [results, Try.results45, go_sem, k1, k2]) rfl ⟨rfl, ?_⟩
  repeat (refine Below.setCell ?_ (by simp <;> omega) _)
  exact hB

theorem specPrune_yes {lo hi : Nat} (S : Nat) (a : Option Addr) (n c : Nat) (xss : List (List Int)) (w : World) (h : RdR lo hi w (.slice a n c) xss) (hn : xss.length = n) (hg : grB (S : Int) xss = true) :
    Calls Try.prog 45 #[.agg #[.int .i64 (S : Int), .slice a n c]] w fun e w' => ∃ a' c', e = .returned (.tuple #[.agg #[.int .i64 ((prune S xss).1 : Int), .slice a' (prune S xss).2.length c'], .int .i64 0]) ∧ OwR w.heap.size w'.heap.size w' (.slice a' (prune S xss).2.length c') (prune S xss).2 ∧ Below w.heap.size w w' := by
  have hb0 : ∀ o o', Below w.heap.size w ((w.alloc o).alloc o') := fun o o' => ((Below.refl _ _).alloc (Nat.le_refl _) o).alloc (by simp) o'
  have HN := Lib.hid hn
  have HG := Lib.hid hg
  clear hg hn
  go_enter Try.func45, Try.ntmps45
  go_wp2_with fail
  refine calls_gen (fun W => Below w.heap.size w W ∧ w.heap.size + 1 < W.heap.size ∧ W.cell? ⟨w.heap.size, 0, none⟩ = some (.int .i64 S) ∧ W.cell? ⟨w.heap.size, 1, none⟩ = some (.slice a n c) ∧ W.cell? ⟨w.heap.size + 1, 0, none⟩ = some (.int .i64 0) ∧ W.cell? ⟨w.heap.size + 1, 1, none⟩ = some (.slice none 0 0) ∧ W.frozen? ⟨w.heap.size + 1, 0, none⟩ = false ∧ W.frozen? ⟨w.heap.size + 1, 1, none⟩ = false) ⟨hb0 _ _, by simp, by go_simp, by go_simp, by go_simp, by go_simp, by go_simp, by go_simp⟩ ?_
  rintro W ⟨hB, hz, k1, k2, k3, k4, f3, f4⟩
  obtain ⟨R, hR⟩ : ∃ R, R = w.heap.size + 1 := ⟨_, rfl⟩
  rw [← hR] at hz k3 k4 f3 f4 ⊢
  have hwR : w.heap.size < R := by omega
  clear hR
  refine (l01Is (S : Int) a n c xss W (h.below hB) HN.out).mono ?_
  rw [HG.out]
  rintro e w1 ⟨rfl, b1⟩
  replace k1 := b1.keep k1
  replace k2 := b1.keep k2
  replace k3 := b1.keep k3
  replace k4 := b1.keep k4
  replace f3 := b1.keepf hz f3
  replace f4 := b1.keepf hz f4
  replace hB := hB.next b1
  have hz1 : R < w1.heap.size := Nat.lt_of_lt_of_le hz b1.size
  clear b1 hz
  go_wp2_with fail
  refine (l02Prune S a n c xss _ (h.below hB) HN.out HG.out).mono ?_
  rintro e w4 ⟨a4, c4, rfl, o4, b4⟩
  replace k3 := b4.keep k3
  replace k4 := b4.keep k4
  replace f3 := b4.keepf hz1 f3
  replace f4 := b4.keepf hz1 f4
  replace hB := hB.next b4
  have hz4 := b4.size
  clear b4
  go_wp2
  refine bodyPost_ret (v := .tuple #[.agg #[.int .i64 ((prune S xss).1 : Int), .slice a4 (prune S xss).2.length c4], .int .i64 0]) (by simp [results, Try.results45, go_sem, k3, k4]) rfl ⟨a4, c4, rfl, ?_, ?_⟩
  · refine (OwR.chg (lo' := w.heap.size) (hi' := w1.heap.size) o4 ?_ (.inr (Nat.le_refl _))).mono (by omega) (by simp [World.setCell])
    repeat (refine Chg.setCell ?_ (by constructor <;> simp <;> omega) _)
    exact Chg.refl _ _ _
  · repeat (refine Below.setCell ?_ (by simp <;> omega) _)
    exact hB

theorem specPrune {lo hi : Nat} (s : Int) (a : Option Addr) (n c : Nat) (xss : List (List Int)) (w : World) (h : RdR lo hi w (.slice a n c) xss) (hn : xss.length = n) :
    Calls Try.prog 45 #[.agg #[.int .i64 s, .slice a n c]] w fun e w' => ∃ a' c', e = .returned (.tuple #[.agg #[.int .i64 (pruneOf s xss).1.1, .slice a' (pruneOf s xss).1.2.length c'], .int .i64 (pruneOf s xss).2]) ∧ OwR w.heap.size w'.heap.size w' (.slice a' (pruneOf s xss).1.2.length c') (pruneOf s xss).1.2 ∧ Below w.heap.size w w' := by
  unfold pruneOf
  cases hg : grB s xss with
  | false =>
    rw [if_neg (by simp)]
    exact (specPrune_no s a n c xss w h hn hg).mono fun e w' ⟨he, hb⟩ => ⟨none, 0, he, OwR.nil (World.ownsRow_nil _ _ _ _) (Nat.le_refl _), hb⟩
  | true =>
    rw [if_pos rfl]
    have h1 := grB_iff hg
    obtain ⟨S, rfl⟩ : ∃ S : Nat, s = S := ⟨s.toNat, by omega⟩
    exact specPrune_yes S a n c xss w h hn hg

end Go.Proofs.Ytecobmmlpoaggaa
