/- AdjacencyOf, both sides. -/
import Derived.Test.YtnblhkhdilkbeaaDoorSpecAdj
set_option linter.unusedSimpArgs false
set_option linter.unusedVariables false
namespace Go.Proofs.YtnblhkhdilkbeaaDoor
open Go.RowKit

theorem adZ_tab {s : Int} {xss : List (List Int)} (hg : grB s xss = true) (S : Nat) : tab S (adZ (dirE (pairs xss)) (2 * xss.length)) = tab S (fun i j => adS (pairs xss) xss.length i j) := tab_congr fun i j _ _ => by
  have hg4 := grB_iff hg
  refine adZ_adS (pairs xss) (fun q hq => ?_) xss.length (by rw [pairs_len]; exact Nat.le_refl _) i j
  rw [pairs_len] at hq
  have := hg4.2.2.2 q hq
  rw [pairs_getD]
  simp only
  omega

set_option maxRecDepth 100000 in
set_option maxHeartbeats 1600000 in
theorem implAdj {lo hi : Nat} (s : Int) (a : Option Addr) (n c : Nat) (xss : List (List Int)) (w : World) (h : RdR lo hi w (.slice a n c) xss) (hn : xss.length = n) :
    Calls Tryd.prog 67 #[.agg #[.int .i64 s, .slice a n c]] w fun e w' => ∃ a' c', e = .returned (.tuple #[.slice a' (adjOf s xss).1.length c', .int .i64 (adjOf s xss).2]) ∧ OwR w.heap.size w'.heap.size w' (.slice a' (adjOf s xss).1.length c') (adjOf s xss).1 ∧ Below w.heap.size w w' := by
  cases hg : grB s xss with
  | true =>
    have hg4 := grB_iff hg
    obtain ⟨S, hS⟩ : ∃ S : Nat, s = (S : Int) := ⟨s.toNat, by omega⟩
    subst hS
    refine (implAdj_yes S a n c xss w h hn hg).mono ?_
    rintro e w1 ⟨a', c', rfl, o, b⟩
    have hp : adjOf (S : Int) xss = (tab S (fun i j => adS (pairs xss) n i j), 0) := by
      unfold adjOf
      rw [if_pos hg, Int.toNat_natCast, hn]
    rw [hp]
    refine ⟨a', c', ?_, ?_, b⟩
    · rw [tab_len]
    · rw [tab_len]; exact o
  | false =>
    have HI := Lib.hid (fun W' (h' : RdR lo hi W' (.slice a n c) xss) => implIsGraph s a n c xss W' h' hn)
    have HR := Lib.hid h
    obtain ⟨P, hP⟩ : ∃ P, P = adjOf s xss := ⟨_, rfl⟩
    rw [← hP]
    unfold adjOf at hP
    rw [hn] at hP
    have HP := Lib.hid hP
    clear h hn hP
    go_enter Tryd.func67, Tryd.ntmps67
    go_wp2_with fail
    refine calls_gen (fun W => Below w.heap.size w W ∧ W.cell? ⟨w.heap.size, 0, none⟩ = some (.int .i64 s) ∧ W.cell? ⟨w.heap.size, 1, none⟩ = some (.slice a n c)) ⟨(Below.refl _ _).alloc (Nat.le_refl _) _, by go_simp, by go_simp⟩ ?_
    rintro W ⟨hB, k0, k1⟩
    refine (HI.out W (HR.out.below hB)).mono ?_
    rw [hg]
    rintro e w1 ⟨rfl, b1⟩
    replace hB := hB.next b1
    have hP := HP.out
    rw [hg, if_neg (by simp)] at hP
    clear k0 k1 b1 HP hg
    subst hP
    go_wp2
    go_ret2
    exact ⟨none, 0, rfl, OwR.nil (World.ownsRow_nil _ _ _ _) (Nat.le_refl _), hB⟩

end Go.Proofs.YtnblhkhdilkbeaaDoor
