/- IsTree and SubsetRank of the model. -/
import Derived.Test.YtkipfjdlmomkfaaSpRk
set_option linter.unusedSimpArgs false
set_option linter.unusedVariables false
set_option maxRecDepth 100000
namespace Go.Proofs.Ytkipfjdlmomkfaa
open Go.RowKit

theorem subCode_ok {s : Int} {xss : List (List Int)} {ws : List Int} (hc : subCode s xss ws = 0) : grB s xss = true ∧ subB xss.length ws = true := by
  unfold subCode at hc
  cases hg : grB s xss with
  | false => rw [hg] at hc; simp at hc
  | true =>
    rw [hg, if_pos rfl] at hc
    cases hs : subB xss.length ws with
    | false => rw [hs] at hc; simp at hc
    | true => exact ⟨rfl, rfl⟩
theorem sub_facts {S : Nat} {xss : List (List Int)} {ws : List Int} (hsb : subB xss.length ws = true) (h10 : xss.length ≤ 10) :
    cdN ws ws.length < 1024 ∧ partW S xss (cdN ws ws.length) = (rootsN (labelsN S (subE xss ws)) S).length ∧ popN 10 (cdN ws ws.length) = ws.length := by
  obtain ⟨h1, h2⟩ := cd_all hsb
  refine ⟨Nat.lt_of_lt_of_le h2 (Nat.le_trans (Nat.pow_le_pow_right (by decide) h10) (by decide)), ?_, ?_⟩
  · unfold partW
    rw [with_sub hsb]
  · obtain ⟨d, hd⟩ : ∃ d, 10 = xss.length + d := ⟨10 - xss.length, by omega⟩
    rw [pop_bits, hd, bits_more h2, h1, List.length_map]

set_option maxHeartbeats 1600000 in
theorem specTree {lo hi lo1 hi1 : Nat} (s : Int) (a : Option Addr) (n c : Nat) (xss : List (List Int)) (a1 : Option Addr) (n1 c1 : Nat) (ws : List Int) (w : World) (h : RdR lo hi w (.slice a n c) xss) (hn : xss.length = n) (h1 : RdI lo1 hi1 w (.slice a1 n1 c1) ws) (hl : ws.length = n1) :
    Calls Try.prog 23 #[.agg #[.int .i64 s, .slice a n c], .slice a1 n1 c1] w fun e w' => e = .returned (.tuple #[.bool (treeOf s xss ws).1, .int .i64 (treeOf s xss ws).2]) ∧ Below w.heap.size w w' := by
  have hb0 : ∀ o, Below w.heap.size w (w.alloc o) := fun o => (Below.refl _ _).alloc (Nat.le_refl _) o
  have HCK := Lib.hid (fun W (hB : Below w.heap.size w W) => l05Given s a n c xss a1 n1 c1 ws W (h.below hB) hn (h1.below hB) hl)
  by_cases hc : subCode s xss ws = 0
  · obtain ⟨hg, hsb⟩ := subCode_ok hc
    have hg4 := grB_iff hg
    obtain ⟨S, rfl⟩ : ∃ S : Nat, s = (S : Int) := ⟨s.toNat, by omega⟩
    obtain ⟨hC, hP, hZ⟩ := sub_facts (S := S) hsb (by omega)
    rw [hl] at hC hP hZ
    have hES := Lib.hid (fun W (hB : Below w.heap.size w W) => l05Tree S a n c xss (cdN ws n1) W (h.below hB) hn hg hC)
    have hof : treeOf (S : Int) xss ws = (trW S xss (cdN ws n1), 0) := by
      unfold treeOf
      rw [if_pos hc, Int.toNat_natCast]
      unfold trW
      rw [hP, hZ, hl]
      generalize (rootsN (labelsN S (subE xss ws)) S).length = P
      congr 1
      rw [Bool.eq_iff_iff]
      simp only [Bool.and_eq_true, beq_iff_eq]
      omega
    rw [hof]
    rw [hc] at HCK
    have hgr : gvR 0 (cdN ws n1) = (cdN ws n1 : Int) := rfl
    rw [hgr] at HCK
    generalize cdN ws n1 = C at *
    generalize trW S xss (cdN ws n1) = RR at *
    dsimp only
    clear h hn h1 hl hc hof hg hg4 hsb hC hP hZ hgr
    go_enter Try.func23, Try.ntmps23
    go_wp2_with fail
    refine calls_gen (fun W => Below w.heap.size w W ∧ W.cell? ⟨w.heap.size, 0, none⟩ = some (.int .i64 (S : Int)) ∧ W.cell? ⟨w.heap.size, 1, none⟩ = some (.slice a n c)) ⟨hb0 _, by go_simp, by go_simp⟩ ?_
    rintro W ⟨hB, k0, k1⟩
    refine (HCK.out W hB).mono ?_
    rintro e w1 ⟨rfl, b1⟩
    replace hB := hB.next b1
    replace k0 := b1.keep k0
    replace k1 := b1.keep k1
    clear b1
    go_wp2_with fail
    refine (hES.out w1 hB).mono ?_
    clear k0 k1
    rintro e w2 ⟨rfl, b2⟩
    replace hB := hB.next b2
    clear b2
    go_wp2
    go_ret2
    exact ⟨rfl, hB⟩
  · have hof : treeOf s xss ws = (false, subCode s xss ws) := by unfold treeOf; rw [if_neg hc]
    rw [hof]
    have hne : (subCode s xss ws != 0) = true := by simpa using hc
    have hgr : gvR (subCode s xss ws) (cdN ws n1) = 0 := by unfold gvR; rw [if_neg hc]
    rw [hgr] at HCK
    generalize subCode s xss ws = cd at *
    dsimp only
    clear h hn h1 hl hc hof hgr
    go_enter Try.func23, Try.ntmps23
    go_wp2_with fail
    refine calls_gen (fun W => Below w.heap.size w W) (hb0 _) ?_
    intro W hB
    refine (HCK.out W hB).mono ?_
    rintro e w1 ⟨rfl, b1⟩
    replace hB := hB.next b1
    clear b1
    go_wp2
    go_ret2
    exact ⟨rfl, hB⟩

set_option maxHeartbeats 1600000 in
theorem specSRank {lo hi lo1 hi1 : Nat} (s : Int) (a : Option Addr) (n c : Nat) (xss : List (List Int)) (a1 : Option Addr) (n1 c1 : Nat) (ws : List Int) (w : World) (h : RdR lo hi w (.slice a n c) xss) (hn : xss.length = n) (h1 : RdI lo1 hi1 w (.slice a1 n1 c1) ws) (hl : ws.length = n1) :
    Calls Try.prog 27 #[.agg #[.int .i64 s, .slice a n c], .slice a1 n1 c1] w fun e w' => e = .returned (.tuple #[.int .i64 (srankOf s xss ws).1, .int .i64 (srankOf s xss ws).2]) ∧ Below w.heap.size w w' := by
  have hb0 : ∀ o, Below w.heap.size w (w.alloc o) := fun o => (Below.refl _ _).alloc (Nat.le_refl _) o
  have HCK := Lib.hid (fun W (hB : Below w.heap.size w W) => l05Given s a n c xss a1 n1 c1 ws W (h.below hB) hn (h1.below hB) hl)
  by_cases hc : subCode s xss ws = 0
  · obtain ⟨hg, hsb⟩ := subCode_ok hc
    have hg4 := grB_iff hg
    obtain ⟨S, rfl⟩ : ∃ S : Nat, s = (S : Int) := ⟨s.toNat, by omega⟩
    obtain ⟨hC, hP, hZ⟩ := sub_facts (S := S) hsb (by omega)
    rw [hl] at hC hP hZ
    have hES := Lib.hid (fun W (hB : Below w.heap.size w W) => l05Rank S a n c xss (cdN ws n1) W (h.below hB) hn hg hC)
    have hof : srankOf (S : Int) xss ws = ((S : Int) - (partW S xss (cdN ws n1) : Int), 0) := by
      unfold srankOf
      rw [if_pos hc, Int.toNat_natCast]
      rw [hP]
    rw [hof]
    rw [hc] at HCK
    have hgr : gvR 0 (cdN ws n1) = (cdN ws n1 : Int) := rfl
    rw [hgr] at HCK
    generalize cdN ws n1 = C at *
    generalize (S : Int) - (partW S xss (cdN ws n1) : Int) = RR at *
    dsimp only
    clear h hn h1 hl hc hof hg hg4 hsb hC hP hZ hgr
    go_enter Try.func27, Try.ntmps27
    go_wp2_with fail
    refine calls_gen (fun W => Below w.heap.size w W ∧ W.cell? ⟨w.heap.size, 0, none⟩ = some (.int .i64 (S : Int)) ∧ W.cell? ⟨w.heap.size, 1, none⟩ = some (.slice a n c)) ⟨hb0 _, by go_simp, by go_simp⟩ ?_
    rintro W ⟨hB, k0, k1⟩
    refine (HCK.out W hB).mono ?_
    rintro e w1 ⟨rfl, b1⟩
    replace hB := hB.next b1
    replace k0 := b1.keep k0
    replace k1 := b1.keep k1
    clear b1
    go_wp2_with fail
    refine (hES.out w1 hB).mono ?_
    clear k0 k1
    rintro e w2 ⟨rfl, b2⟩
    replace hB := hB.next b2
    clear b2
    go_wp2
    go_ret2
    exact ⟨rfl, hB⟩
  · have hof : srankOf s xss ws = (0, subCode s xss ws) := by unfold srankOf; rw [if_neg hc]
    rw [hof]
    have hne : (subCode s xss ws != 0) = true := by simpa using hc
    have hgr : gvR (subCode s xss ws) (cdN ws n1) = 0 := by unfold gvR; rw [if_neg hc]
    rw [hgr] at HCK
    generalize subCode s xss ws = cd at *
    dsimp only
    clear h hn h1 hl hc hof hgr
    go_enter Try.func27, Try.ntmps27
    go_wp2_with fail
    refine calls_gen (fun W => Below w.heap.size w W) (hb0 _) ?_
    intro W hB
    refine (HCK.out W hB).mono ?_
    rintro e w1 ⟨rfl, b1⟩
    replace hB := hB.next b1
    clear b1
    go_wp2
    go_ret2
    exact ⟨rfl, hB⟩

end Go.Proofs.Ytkipfjdlmomkfaa
