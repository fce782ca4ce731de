/- LaplacianRows, both sides. -/
import Derived.Test.YtkipfjdlmomkfaaSpecLap
set_option linter.unusedSimpArgs false
set_option linter.unusedVariables false
namespace Go.Proofs.Ytkipfjdlmomkfaa
open Go.RowKit

set_option maxRecDepth 100000 in
set_option maxHeartbeats 1600000 in
theorem implLap {lo hi : Nat} (s : Int) (a : Option Addr) (n c : Nat) (xss : List (List Int)) (w : World) (h : RdR lo hi w (.slice a n c) xss) (hn : xss.length = n) :
    Calls Try.prog 17 #[.agg #[.int .i64 s, .slice a n c]] w fun e w' => ∃ a' c', e = .returned (.tuple #[.slice a' (lapOf s xss).1.length c', .int .i64 (lapOf s xss).2]) ∧ OwR w.heap.size w'.heap.size w' (.slice a' (lapOf s xss).1.length c') (lapOf s xss).1 ∧ Below w.heap.size w w' := by
  cases hg : grB s xss with
  | true =>
    have hg4 := grB_iff hg
    obtain ⟨S, hS⟩ : ∃ S : Nat, s = (S : Int) := ⟨s.toNat, by omega⟩
    subst hS
    refine (implLap_yes S a n c xss w h hn hg).mono ?_
    rintro e w1 ⟨a', c', rfl, o, b⟩
    have hp : lapOf (S : Int) xss = (tab S (lapS (pairs xss) n), 0) := by
      unfold lapOf
      rw [if_pos hg, Int.toNat_natCast, hn]
    rw [hp]
    refine ⟨a', c', ?_, ?_, b⟩
    · rw [tab_len]
    · rw [tab_len]; exact o
  | false =>
    have HI := Lib.hid (fun W' (h' : RdR lo hi W' (.slice a n c) xss) => implIsGraph s a n c xss W' h' hn)
    have HR := Lib.hid h
    obtain ⟨P, hP⟩ : ∃ P, P = lapOf s xss := ⟨_, rfl⟩
    rw [← hP]
    unfold lapOf at hP
    rw [hn] at hP
    have HP := Lib.hid hP
    clear h hn hP
    go_enter Try.func17, Try.ntmps17
    go_wp2_with fail
    refine calls_gen (fun W => Below w.heap.size w W ∧ W.cell? ⟨w.heap.size, 0, none⟩ = some (.int .i64 s) ∧ W.cell? ⟨w.heap.size, 1, none⟩ = some (.slice a n c)) ⟨(Below.refl _ _).alloc (Nat.le_refl _) _, by go_simp, by go_simp⟩ ?_
    rintro W ⟨hB, k0, k1⟩
    refine (HI.out W (HR.out.below hB)).mono ?_
    rw [hg]
    rintro e w1 ⟨rfl, b1⟩
    replace hB := hB.next b1
    have hP := HP.out
    rw [hg, if_neg (by simp)] at hP
    clear k0 k1 b1 HP hg
    subst hP
    go_wp2
    go_ret2
    exact ⟨none, 0, rfl, OwR.nil (World.ownsRow_nil _ _ _ _) (Nat.le_refl _), hB⟩

set_option maxRecDepth 100000 in
set_option maxHeartbeats 1600000 in
theorem specLap {lo hi : Nat} (s : Int) (a : Option Addr) (n c : Nat) (xss : List (List Int)) (w : World) (h : RdR lo hi w (.slice a n c) xss) (hn : xss.length = n) :
    Calls Try.prog 15 #[.agg #[.int .i64 s, .slice a n c]] w fun e w' => ∃ a' c', e = .returned (.tuple #[.slice a' (lapOf s xss).1.length c', .int .i64 (lapOf s xss).2]) ∧ OwR w.heap.size w'.heap.size w' (.slice a' (lapOf s xss).1.length c') (lapOf s xss).1 ∧ Below w.heap.size w w' := by
  have HS := Lib.hid (fun hg : grB s xss = true => (show ∃ S : Nat, s = (S : Int) from ⟨s.toNat, by have := grB_iff hg; omega⟩))
  have HM := Lib.hid (fun (S : Nat) (e : s = (S : Int)) W' (h' : RdR lo hi W' (.slice a n c) xss) (hg : grB s xss = true) => l05Laplacian S a n c xss W' h' hn (by rw [← e]; exact hg))
  have HN := Lib.hid hn
  have HI := Lib.hid (fun W' (h' : RdR lo hi W' (.slice a n c) xss) => l01Is s a n c xss W' h' hn)
  have HR := Lib.hid h
  obtain ⟨P, hP⟩ : ∃ P, P = lapOf s xss := ⟨_, rfl⟩
  rw [← hP]
  unfold lapOf at hP
  rw [hn] at hP
  have HP := Lib.hid hP
  clear h hn hP
  go_enter Try.func15, Try.ntmps15
  go_wp2_with fail
  refine calls_gen (fun W => Below w.heap.size w W ∧ W.cell? ⟨w.heap.size, 0, none⟩ = some (.int .i64 s) ∧ W.cell? ⟨w.heap.size, 1, none⟩ = some (.slice a n c)) ⟨(Below.refl _ _).alloc (Nat.le_refl _) _, by go_simp, by go_simp⟩ ?_
  rintro W ⟨hB, k0, k1⟩
  refine (HI.out W (HR.out.below hB)).mono ?_
  cases hg : grB s xss with
  | false =>
    rintro e w1 ⟨rfl, b1⟩
    replace hB := hB.next b1
    have hP := HP.out
    rw [hg, if_neg (by simp)] at hP
    clear k0 k1 b1 HP hg
    subst hP
    go_wp2
    go_ret2
    exact ⟨none, 0, rfl, OwR.nil (World.ownsRow_nil _ _ _ _) (Nat.le_refl _), hB⟩
  | true =>
    have HG := Lib.hid hg
    obtain ⟨S, hS⟩ := HS.out hg
    have hP := HP.out
    rw [hg, if_pos rfl] at hP
    have hlen : P.1.length = S := by rw [hP]; simp [tab_len, hS]
    have hv : s.toNat = S := by omega
    rw [hv] at hP
    have HP2 := Lib.hid (⟨hP, hlen, hS⟩ : _ ∧ _ ∧ _)
    clear hg HP hP hlen hv HS hS
    rintro e w1 ⟨rfl, b1⟩
    replace hB := hB.next b1
    replace k0 := b1.keep k0
    replace k1 := b1.keep k1
    clear b1
    go_wp2_with fail
    rw [HP2.out.2.2]
    refine (HM.out S HP2.out.2.2 w1 (HR.out.below hB) HG.out).mono ?_
    rintro e w2 ⟨a', c', rfl, o2, b2⟩
    have HF := Lib.hid (⟨o2.mono hB.size (Nat.le_refl _), hB.next b2⟩ : _ ∧ _)
    clear o2 hB b2 k0 k1
    go_wp2
    go_ret2
    refine ⟨a', c', ?_, ?_, HF.out.2⟩
    · rw [HP2.out.2.1, HP2.out.1]; rfl
    · rw [HP2.out.2.1, HP2.out.1]; exact HF.out.1

end Go.Proofs.Ytkipfjdlmomkfaa
