/- EdgeMatrix, both sides. -/
import Derived.Test.YtolipjemabmlkaaSpecMat
import Derived.Test.YtolipjemabmlkaaEdgeRows
set_option linter.unusedSimpArgs false
set_option linter.unusedVariables false
namespace Go.Proofs.Ytolipjemabmlkaa
open Go.RowKit

def edgeMatOf (s : Int) (xss : List (List Int)) : List (List Int) × Int := if grB s xss = true then (tab (2 * xss.length) (edgeM (dirE (pairs xss))), 0) else ([], 1)
theorem edgeMatOf_lens (s : Int) (xss : List (List Int)) : lens (edgeMatOf s xss).1 ≤ 1000 := by
  unfold edgeMatOf
  split
  · rename_i hg
    have h1 := grB_iff hg
    simp only [tab_lens]
    have h2 : 2 * xss.length ≤ 20 := by omega
    exact Nat.le_trans (Nat.mul_le_mul h2 h2) (by decide)
  · simp [lens]

set_option maxRecDepth 100000 in
set_option maxHeartbeats 1600000 in
theorem implEdgeMat {lo hi : Nat} (s : Int) (a : Option Addr) (n c : Nat) (xss : List (List Int)) (w : World) (h : RdR lo hi w (.slice a n c) xss) (hn : xss.length = n) :
    Calls Try.prog 145 #[.agg #[.int .i64 s, .slice a n c]] w fun e w' => ∃ a' c', e = .returned (.tuple #[.slice a' (edgeMatOf s xss).1.length c', .int .i64 (edgeMatOf s xss).2]) ∧ OwR w.heap.size w'.heap.size w' (.slice a' (edgeMatOf s xss).1.length c') (edgeMatOf s xss).1 ∧ Below w.heap.size w w' := by
  have HR := Lib.hid h
  have HI := Lib.hid (fun W' (h' : RdR lo hi W' (.slice a n c) xss) => implIsGraph s a n c xss W' h' hn)
  have HM := Lib.hid (fun W' (h' : RdR lo hi W' (.slice a n c) xss) hg => edgeRows s a n c xss W' h' hn hg)
  obtain ⟨P, hP⟩ : ∃ P, P = edgeMatOf s xss := ⟨_, rfl⟩
  rw [← hP]
  unfold edgeMatOf at hP
  rw [hn] at hP
  have HP := Lib.hid hP
  clear h hn hP
  go_enter Try.func145, Try.ntmps145
  go_wp2_with fail
  refine calls_gen (fun W => Below w.heap.size w W ∧ W.cell? ⟨w.heap.size, 0, none⟩ = some (.int .i64 s) ∧ W.cell? ⟨w.heap.size, 1, none⟩ = some (.slice a n c)) ⟨(Below.refl _ _).alloc (Nat.le_refl _) _, by go_simp, by go_simp⟩ ?_
  rintro W ⟨hB, k0, k1⟩
  refine (HI.out W (HR.out.below hB)).mono ?_
  cases hg : grB s xss with
  | false =>
    rintro e w1 ⟨rfl, b1⟩
    replace hB := hB.next b1
    have hP := HP.out
    rw [hg, if_neg (by simp)] at hP
    clear k0 k1 b1 HP hg
    subst hP
    go_wp2
    go_ret2
    exact ⟨none, 0, rfl, OwR.nil (World.ownsRow_nil _ _ _ _) (Nat.le_refl _), hB⟩
  | true =>
    have HG := Lib.hid hg
    have hP := HP.out
    rw [hg, if_pos rfl] at hP
    have hlen : P.1.length = 2 * n := by rw [hP]; exact tab_len _ _
    have HP2 := Lib.hid (⟨hP, hlen⟩ : _ ∧ _)
    clear hg HP hP hlen
    rintro e w1 ⟨rfl, b1⟩
    replace hB := hB.next b1
    replace k0 := b1.keep k0
    replace k1 := b1.keep k1
    clear b1
    go_wp2_with fail
    refine (HM.out w1 (HR.out.below hB) HG.out).mono ?_
    rintro e w2 ⟨a', c', rfl, o2, b2⟩
    have HF := Lib.hid (⟨o2.mono hB.size (Nat.le_refl _), hB.next b2⟩ : _ ∧ _)
    clear o2 hB b2 k0 k1
    go_wp2
    go_ret2
    refine ⟨a', c', ?_, ?_, HF.out.2⟩
    · rw [HP2.out.2, HP2.out.1]; rfl
    · rw [HP2.out.2, HP2.out.1]; exact HF.out.1

end Go.Proofs.Ytolipjemabmlkaa
