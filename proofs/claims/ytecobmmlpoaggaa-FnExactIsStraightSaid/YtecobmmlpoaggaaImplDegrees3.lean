/- DegreesOf of the program, for every graph value. -/
import Derived.Test.YtecobmmlpoaggaaImplDegrees2
set_option linter.unusedSimpArgs false
set_option linter.unusedVariables false
namespace Go.Proofs.Ytecobmmlpoaggaa
open Go.RowKit

set_option maxHeartbeats 800000 in
theorem implDegrees_nil {lo hi : Nat} (m : Nat) (a : Option Addr) (c : Nat) (w : World) (h : RdR lo hi w (.slice a 0 c) []) (hg : grB (m : Int) [] = true) :
    Calls Try.prog 108 #[.agg #[.int .i64 (m : Int), .slice a 0 c]] w fun e w' => ∃ v, e = .returned (.tuple #[v, .int .i64 0]) ∧ w'.ownsRow w.heap.size 2 1 v m (dgl m []) ∧ Below w.heap.size w w' := by
  obtain ⟨i0, hi', z0, z1, z2⟩ := info_parts Try.info2
  have hb0 : ∀ o, Below w.heap.size w (w.alloc o) := fun o => (Below.refl _ _).alloc (Nat.le_refl _) o
  obtain ⟨hs1, hs2, _, _⟩ := grB_iff hg
  have HG := Lib.hid hg
  clear hg
  go_enter Try.func108, Try.ntmps108
  go_wp2_with fail
  refine calls_gen (fun W => Below w.heap.size w W ∧ w.heap.size < W.heap.size ∧ W.cell? ⟨w.heap.size, 0, none⟩ = some (.int .i64 (m : Int)) ∧ W.cell? ⟨w.heap.size, 1, none⟩ = some (.slice a 0 c)) ⟨hb0 _, by simp, by go_simp, by go_simp⟩ ?_
  rintro W ⟨hB, hz, k1, k2⟩
  refine (implIsGraph _ a 0 c [] W (h.below hB) rfl).mono ?_
  rw [HG.out]
  rintro e w1 ⟨rfl, b1⟩
  replace k1 := b1.keep k1
  replace k2 := b1.keep k2
  replace hB := hB.next b1
  clear b1
  go_wp2_with (at_make; refine wpList_make_full _ rfl _ _ 45 rfl w1.heap.size 2 i0 (.int .i64 0) 1 Try.underlying45 hi' z0 z1 _ _ _ _ m rfl rfl rfl rfl ?c1 ?c2 ?c3 ?_)
  case c1 => rw [z2]; omega
  case c2 => unfold maxLen; omega
  case c3 => exact Nat.le_refl _
  intro w2 hown hgr
  rw [dgl_zero m] at hown
  have hB2 : Below w.heap.size w w2 := hB.grown hgr hB.size (by simp)
  replace k1 := hgr.cell k1 (by simp)
  replace k2 := hgr.cell k2 (by simp)
  have hsB := hB.size
  clear hgr hB
  go_wp2_with fail
  refine (edgesOf _ a 0 c [] w2 (h.below hB2) HG.out rfl).mono ?_
  rintro e w3 ⟨a3, c3, rfl, o3, b3⟩
  have hB3 := hB2.next b3
  have hown3 := ownsRow_chg hown (b3.chg 0 0) (fun _ _ => .inr (Nat.zero_le _))
  clear o3 b3 hown k1 k2
  go_wp2
  refine wp_loop_rounds 1 ?_
  rw [rounds_succ]
  go_wp2
  go_ret2
  exact ⟨_, rfl, ownsRow_mono hown3 hsB, hB3⟩

theorem implDegrees_no {lo hi : Nat} (s : Int) (a : Option Addr) (n c : Nat) (xss : List (List Int)) (w : World) (h : RdR lo hi w (.slice a n c) xss) (hn : xss.length = n) (hg : grB s xss = false) :
    Calls Try.prog 108 #[.agg #[.int .i64 s, .slice a n c]] w fun e w' => e = .returned (.tuple #[.slice none 0 0, .int .i64 1]) ∧ Below w.heap.size w w' := by
  have hb0 : ∀ o, Below w.heap.size w (w.alloc o) := fun o => (Below.refl _ _).alloc (Nat.le_refl _) o
  go_enter Try.func108, Try.ntmps108
  go_wp2_with fail
  refine calls_gen (fun W => Below w.heap.size w W) (hb0 _) ?_
  intro W hB
  refine (implIsGraph s a n c xss W (h.below hB) hn).mono ?_
  rw [hg]
  rintro e w1 ⟨rfl, b1⟩
  replace hB := hB.next b1
  go_wp2
  go_ret2
  exact ⟨rfl, hB⟩

theorem implDegrees {lo hi : Nat} (s : Int) (a : Option Addr) (n c : Nat) (xss : List (List Int)) (w : World) (h : RdR lo hi w (.slice a n c) xss) (hn : xss.length = n) :
    Calls Try.prog 108 #[.agg #[.int .i64 s, .slice a n c]] w fun e w' => ∃ a' c', e = .returned (.tuple #[.slice a' (degreesOf s xss).1.length c', .int .i64 (degreesOf s xss).2]) ∧
      OwI w.heap.size w'.heap.size w' (.slice a' (degreesOf s xss).1.length c') (degreesOf s xss).1 ∧ Below w.heap.size w w' := by
  cases hg : grB s xss with
  | false =>
    refine (implDegrees_no s a n c xss w h hn hg).mono fun e w' ⟨he, hb⟩ => ⟨none, 0, ?_, ?_, hb⟩
    · rw [he]; simp [degreesOf, hg]
    · simp only [degreesOf, hg]; exact OwI.nil _ _ _
  | true =>
    obtain ⟨m, rfl⟩ : ∃ m : Nat, s = m := ⟨s.toNat, by have := (grB_iff hg).1; omega⟩
    have e1 : degreesOf (m : Int) xss = (degs m xss, 0) := by simp [degreesOf, hg]
    have e2 : dgl m xss = (degs m xss).map (Value.int .i64) := by simp [dgl, degs]
    have fin : ∀ (e : Ending) (w' : World) v, e = .returned (.tuple #[v, .int .i64 0]) → w'.ownsRow w.heap.size 2 1 v m (dgl m xss) → Below w.heap.size w w' → ∃ a' c', e = .returned (.tuple #[.slice a' (degreesOf (m : Int) xss).1.length c', .int .i64 (degreesOf (m : Int) xss).2]) ∧
        OwI w.heap.size w'.heap.size w' (.slice a' (degreesOf (m : Int) xss).1.length c') (degreesOf (m : Int) xss).1 ∧ Below w.heap.size w w' := by
      intro e w' v he ho hb
      rw [e2] at ho
      have hO : OwI w.heap.size w'.heap.size w' v (degs m xss) := .mk ho (by have := (grB_iff hg).2.1; omega) (degs_I64 (grB_iff hg).2.2.1)
      obtain ⟨a', c', hv⟩ := hO.rd.shape
      subst hv
      rw [e1]
      exact ⟨a', c', he, hO, hb⟩
    by_cases h0 : 0 < n
    · exact (implDegrees_yes m a n c xss w h hn hg h0).mono fun e w' ⟨v, he, ho, hb⟩ => fin e w' v he ho hb
    · obtain rfl : n = 0 := by omega
      have := List.length_eq_zero_iff.1 hn
      subst this
      exact (implDegrees_nil m a c w h hg).mono fun e w' ⟨v, he, ho, hb⟩ => fin e w' v he ho hb

end Go.Proofs.Ytecobmmlpoaggaa
