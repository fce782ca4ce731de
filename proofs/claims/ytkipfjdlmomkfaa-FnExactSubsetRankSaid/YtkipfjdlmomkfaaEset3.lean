/- IsTree and SubsetRank of the program. -/
import Derived.Test.YtkipfjdlmomkfaaEset2
set_option linter.unusedSimpArgs false
set_option linter.unusedVariables false
set_option maxRecDepth 100000
namespace Go.Proofs.Ytkipfjdlmomkfaa
open Go.RowKit

def treeOf (s : Int) (xss : List (List Int)) (ws : List Int) : Bool × Int :=
  if subCode s xss ws = 0 then (((s.toNat : Int) - ((rootsN (labelsN s.toNat (subE xss ws)) s.toNat).length : Int) == (ws.length : Int)) && (((rootsN (labelsN s.toNat (subE xss ws)) s.toNat).length : Int) == 1), 0) else (false, subCode s xss ws)
def srankOf (s : Int) (xss : List (List Int)) (ws : List Int) : Int × Int :=
  if subCode s xss ws = 0 then ((s.toNat : Int) - ((rootsN (labelsN s.toNat (subE xss ws)) s.toNat).length : Int), 0) else (0, subCode s xss ws)

set_option maxHeartbeats 1600000 in
theorem implTree {lo hi lo1 hi1 : Nat} (s : Int) (a : Option Addr) (n c : Nat) (xss : List (List Int)) (a1 : Option Addr) (n1 c1 : Nat) (ws : List Int) (w : World) (h : RdR lo hi w (.slice a n c) xss) (hn : xss.length = n) (h1 : RdI lo1 hi1 w (.slice a1 n1 c1) ws) (hl : ws.length = n1) :
    Calls Try.prog 25 #[.agg #[.int .i64 s, .slice a n c], .slice a1 n1 c1] w fun e w' => e = .returned (.tuple #[.bool (treeOf s xss ws).1, .int .i64 (treeOf s xss ws).2]) ∧ Below w.heap.size w w' := by
  have hb0 : ∀ o, Below w.heap.size w (w.alloc o) := fun o => (Below.refl _ _).alloc (Nat.le_refl _) o
  have HCK := Lib.hid (fun W (hB : Below w.heap.size w W) => checkSubset s a n c xss a1 n1 c1 ws W (h.below hB) hn (h1.below hB) hl)
  by_cases hc : subCode s xss ws = 0
  · have hgs : grB s xss = true ∧ subB xss.length ws = true := by
      unfold subCode at hc
      cases hg : grB s xss with
      | false => rw [hg] at hc; simp at hc
      | true =>
        rw [hg, if_pos rfl] at hc
        cases hs : subB xss.length ws with
        | false => rw [hs] at hc; simp at hc
        | true => exact ⟨rfl, rfl⟩
    obtain ⟨hg, hsb⟩ := hgs
    have hg4 := grB_iff hg
    obtain ⟨S, rfl⟩ : ∃ S : Nat, s = (S : Int) := ⟨s.toNat, by omega⟩
    have hS8 : S ≤ 8 := by omega
    have hES := Lib.hid (fun W (hB : Below w.heap.size w W) => edgeSetOf S a n c xss a1 n1 c1 ws W (h.below hB) hn hg (h1.below hB) hl (fun j hj => by rw [← hn]; exact subB_in hsb j (by omega)))
    have hof : treeOf (S : Int) xss ws = (((S : Int) - ((rootsN (labelsN S (subE xss ws)) S).length : Int) == (n1 : Int)) && (((rootsN (labelsN S (subE xss ws)) S).length : Int) == 1), 0) := by unfold treeOf; rw [if_pos hc, Int.toNat_natCast, hl]
    rw [hof]
    rw [hc] at HCK
    have hP := rootsN_le (labelsN S (subE xss ws)) S
    generalize (rootsN (labelsN S (subE xss ws)) S).length = P at *
    generalize labelsN S (subE xss ws) = LL at *
    dsimp only
    clear h hn h1 hl hc hof hg hg4 hsb
    go_enter Try.func25, Try.ntmps25
    go_wp2_with fail
    refine calls_gen (fun W => Below w.heap.size w W ∧ W.cell? ⟨w.heap.size, 0, none⟩ = some (.int .i64 (S : Int)) ∧ W.cell? ⟨w.heap.size, 1, none⟩ = some (.slice a n c)) ⟨hb0 _, by go_simp, by go_simp⟩ ?_
    rintro W ⟨hB, k0, k1⟩
    refine (HCK.out W hB).mono ?_
    rintro e w1 ⟨rfl, b1⟩
    replace hB := hB.next b1
    replace k0 := b1.keep k0
    replace k1 := b1.keep k1
    clear b1
    go_wp2_with fail
    refine (hES.out w1 hB).mono ?_
    clear k0 k1
    rintro e w2 ⟨b, up, rt, dp, rfl, _, _, _, b2⟩
    replace hB := hB.next b2
    clear b2
    go_wp2_with fail
    refine (setTree _ n1 c1 _ S S P hS8 hP w2).mono ?_
    rintro e w3 ⟨rfl, b3⟩
    replace hB := hB.next b3
    clear b3
    go_wp2
    go_ret2
    exact ⟨rfl, hB⟩
  · have hof : treeOf s xss ws = (false, subCode s xss ws) := by unfold treeOf; rw [if_neg hc]
    rw [hof]
    have hne : (subCode s xss ws != 0) = true := by simpa using hc
    generalize subCode s xss ws = cd at *
    dsimp only
    clear h hn h1 hl hc hof
    go_enter Try.func25, Try.ntmps25
    go_wp2_with fail
    refine calls_gen (fun W => Below w.heap.size w W) (hb0 _) ?_
    intro W hB
    refine (HCK.out W hB).mono ?_
    rintro e w1 ⟨rfl, b1⟩
    replace hB := hB.next b1
    clear b1
    go_wp2
    go_ret2
    exact ⟨rfl, hB⟩

set_option maxHeartbeats 1600000 in
theorem implSRank {lo hi lo1 hi1 : Nat} (s : Int) (a : Option Addr) (n c : Nat) (xss : List (List Int)) (a1 : Option Addr) (n1 c1 : Nat) (ws : List Int) (w : World) (h : RdR lo hi w (.slice a n c) xss) (hn : xss.length = n) (h1 : RdI lo1 hi1 w (.slice a1 n1 c1) ws) (hl : ws.length = n1) :
    Calls Try.prog 28 #[.agg #[.int .i64 s, .slice a n c], .slice a1 n1 c1] w fun e w' => e = .returned (.tuple #[.int .i64 (srankOf s xss ws).1, .int .i64 (srankOf s xss ws).2]) ∧ Below w.heap.size w w' := by
  have hb0 : ∀ o, Below w.heap.size w (w.alloc o) := fun o => (Below.refl _ _).alloc (Nat.le_refl _) o
  have HCK := Lib.hid (fun W (hB : Below w.heap.size w W) => checkSubset s a n c xss a1 n1 c1 ws W (h.below hB) hn (h1.below hB) hl)
  by_cases hc : subCode s xss ws = 0
  · have hgs : grB s xss = true ∧ subB xss.length ws = true := by
      unfold subCode at hc
      cases hg : grB s xss with
      | false => rw [hg] at hc; simp at hc
      | true =>
        rw [hg, if_pos rfl] at hc
        cases hs : subB xss.length ws with
        | false => rw [hs] at hc; simp at hc
        | true => exact ⟨rfl, rfl⟩
    obtain ⟨hg, hsb⟩ := hgs
    have hg4 := grB_iff hg
    obtain ⟨S, rfl⟩ : ∃ S : Nat, s = (S : Int) := ⟨s.toNat, by omega⟩
    have hS8 : S ≤ 8 := by omega
    have hES := Lib.hid (fun W (hB : Below w.heap.size w W) => edgeSetOf S a n c xss a1 n1 c1 ws W (h.below hB) hn hg (h1.below hB) hl (fun j hj => by rw [← hn]; exact subB_in hsb j (by omega)))
    have hof : srankOf (S : Int) xss ws = ((S : Int) - ((rootsN (labelsN S (subE xss ws)) S).length : Int), 0) := by unfold srankOf; rw [if_pos hc, Int.toNat_natCast]
    rw [hof]
    rw [hc] at HCK
    have hP := rootsN_le (labelsN S (subE xss ws)) S
    generalize (rootsN (labelsN S (subE xss ws)) S).length = P at *
    generalize labelsN S (subE xss ws) = LL at *
    dsimp only
    clear h hn h1 hl hc hof hg hg4 hsb
    go_enter Try.func28, Try.ntmps28
    go_wp2_with fail
    refine calls_gen (fun W => Below w.heap.size w W ∧ W.cell? ⟨w.heap.size, 0, none⟩ = some (.int .i64 (S : Int)) ∧ W.cell? ⟨w.heap.size, 1, none⟩ = some (.slice a n c)) ⟨hb0 _, by go_simp, by go_simp⟩ ?_
    rintro W ⟨hB, k0, k1⟩
    refine (HCK.out W hB).mono ?_
    rintro e w1 ⟨rfl, b1⟩
    replace hB := hB.next b1
    replace k0 := b1.keep k0
    replace k1 := b1.keep k1
    clear b1
    go_wp2_with fail
    refine (hES.out w1 hB).mono ?_
    clear k0 k1
    rintro e w2 ⟨b, up, rt, dp, rfl, _, _, _, b2⟩
    replace hB := hB.next b2
    clear b2
    go_wp2_with fail
    refine (setRank _ n1 c1 _ S S P hS8 hP w2).mono ?_
    rintro e w3 ⟨rfl, b3⟩
    replace hB := hB.next b3
    clear b3
    go_wp2
    go_ret2
    exact ⟨rfl, hB⟩
  · have hof : srankOf s xss ws = (0, subCode s xss ws) := by unfold srankOf; rw [if_neg hc]
    rw [hof]
    have hne : (subCode s xss ws != 0) = true := by simpa using hc
    generalize subCode s xss ws = cd at *
    dsimp only
    clear h hn h1 hl hc hof
    go_enter Try.func28, Try.ntmps28
    go_wp2_with fail
    refine calls_gen (fun W => Below w.heap.size w W) (hb0 _) ?_
    intro W hB
    refine (HCK.out W hB).mono ?_
    rintro e w1 ⟨rfl, b1⟩
    replace hB := hB.next b1
    clear b1
    go_wp2
    go_ret2
    exact ⟨rfl, hB⟩

end Go.Proofs.Ytkipfjdlmomkfaa
