/- Walks of the program: codes, closed ones; IsWalk, IsClosed. -/
import Derived.Test.YtebgbplhcaocoaaImplWk
import Derived.Deep.RegionHeld3
set_option linter.unusedSimpArgs false
set_option linter.unusedVariables false
namespace Go.Proofs.Ytebgbplhcaocoaa
open Go.RowKit

set_option maxRecDepth 100000 in
set_option maxHeartbeats 1600000 in
theorem isClosed {lo hi lo1 hi1 : Nat} (s : Int) (a : Option Addr) (n c : Nat) (xss : List (List Int)) (a1 : Option Addr) (n1 c1 : Nat) (ws : List Int) (w : World) (h : RdR lo hi w (.slice a n c) xss) (hn : xss.length = n) (hg : grB s xss = true) (h1 : RdI lo1 hi1 w (.slice a1 n1 c1) ws) (hl : ws.length = n1) (hcap : n1 ≤ c1) (hw : wkB (dirE (pairs xss)) ws = true) :
    Calls Try.prog 115 #[.agg #[.int .i64 s, .slice a n c], .slice a1 n1 c1] w fun e w' => e = .returned (.bool (clB (dirE (pairs xss)) ws)) ∧ Below w.heap.size w w' := by
  obtain ⟨hz1, hz2, _, _⟩ := wkB_iff.1 hw
  rw [hl] at hz1 hz2
  unfold clB
  rw [hl]
  have hI : ∀ j, j < n1 → I64 (ws.getD j 0) := fun j hj => by
    rw [show ws.getD j 0 = ws[j]'(by omega) by simp [List.getD, List.getElem?_eq_getElem (show j < ws.length by omega)]]
    exact h1.2.1 _ (List.getElem_mem _)
  have hI0 := hI 0 (by omega)
  have hI1 := hI (n1 - 1) (by omega)
  obtain ⟨b, off, rfl, g0⟩ := (h1.at hl) (n1 - 1) (by omega)
  obtain ⟨b', off', hbb, g1⟩ := (h1.at hl) 0 (by omega)
  obtain ⟨rfl, rfl⟩ : b' = b ∧ off' = off := by simp at hbb; exact ⟨hbb.1.symm, hbb.2.symm⟩
  rw [Nat.add_zero] at g1
  generalize ws.getD (n1 - 1) 0 = x at g0 hI1 ⊢
  generalize ws.getD 0 0 = y at g1 hI0 ⊢
  have HSO := Lib.hid (fun W' (h' : RdR lo hi W' (.slice a n c) xss) => stepsOf s a n c xss W' h' hn hg)
  have HR := Lib.hid h
  generalize dirE (pairs xss) = ds at HSO ⊢
  have HI0 := Lib.hid hI0
  have HI1 := Lib.hid hI1
  clear hbb hw hl h1 h hn hg hI hI0 hI1
  have hs1 : wrap64 ((n1 : Int) - 1) = (n1 : Int) - 1 := IntWalk.wrap64_in _ (by omega)
  have hs2 : IntKind.i64.wrap ((n1 : Int) - 1) = (n1 : Int) - 1 := IntWalk.i64_in _ (by omega)
  have hs3 : ((n1 : Int) - 1).toNat = n1 - 1 := by omega
  have hi0 : (0 : Int) ≤ (n1 : Int) - 1 := by omega
  have hi1 : (n1 : Int) - 1 < (n1 : Int) := by omega
  have hi2 : (0 : Int) < (n1 : Int) := by omega
  have hi3 : (1 : Int) ≤ (n1 : Int) := by omega
  have hi4 : 0 < n1 := by omega
  go_enter Try.func115, Try.ntmps115
  go_wp2
  have hB := (Below.refl w.heap.size w).alloc (Nat.le_refl _) (.cells #[.int .i64 s, .slice a n c] 28)
  have k0 : (w.alloc (.cells #[.int .i64 s, .slice a n c] 28)).cell? ⟨w.heap.size, 0, none⟩ = some (.int .i64 s) := by go_simp
  have k1 : (w.alloc (.cells #[.int .i64 s, .slice a n c] 28)).cell? ⟨w.heap.size, 1, none⟩ = some (.slice a n c) := by go_simp
  replace g0 := hB.keep g0
  replace g1 := hB.keep g1
  generalize w.alloc (.cells #[.int .i64 s, .slice a n c] 28) = W at hB k0 k1 g0 g1 ⊢
  obtain ⟨B, hB0⟩ : ∃ B, B = w.heap.size := ⟨_, rfl⟩
  rw [← hB0] at k0 k1 ⊢
  have HB := Lib.hid hB
  clear hB hB0
  go_region_held3 (fun W' => Below W.heap.size W W' ∧ W'.cell? ⟨B, 0, none⟩ = some (.int .i64 s) ∧ W'.cell? ⟨B, 1, none⟩ = some (.slice a n c) ∧ W'.cell? ⟨b', off' + (n1 - 1), none⟩ = some (.int .i64 x) ∧ W'.cell? ⟨b', off', none⟩ = some (.int .i64 y))
    (first | (exact ⟨(Below.refl _ _).drew, k0, k1, g0, g1⟩) | (go_split_ands; exact ⟨Below.next (by assumption) b5, b5.keep (by assumption), b5.keep (by assumption), b5.keep (by assumption), b5.keep (by assumption)⟩) | (go_split_ands; go_keep))
    (first
      | (go_at_call 122; go_split_ands; refine (HSO.out _ (HR.out.below (HB.out.next (by assumption)))).mono ?_; rintro e w5 ⟨M, mk, rfl, hM, b5⟩; have hlk := hM.look HI1.out HI0.out))
  go_split_ands
  have bS : Below W.heap.size W w5 := by assumption
  go_wp2
  go_ret
  exact ⟨rfl, HB.out.next bS⟩

set_option maxRecDepth 100000 in
set_option maxHeartbeats 1600000 in
theorem checkWalk {lo hi lo1 hi1 : Nat} (s : Int) (a : Option Addr) (n c : Nat) (xss : List (List Int)) (a1 : Option Addr) (n1 c1 : Nat) (ws : List Int) (w : World) (h : RdR lo hi w (.slice a n c) xss) (hn : xss.length = n) (h1 : RdI lo1 hi1 w (.slice a1 n1 c1) ws) (hl : ws.length = n1) (hcap : n1 ≤ c1) :
    Calls Try.prog 114 #[.agg #[.int .i64 s, .slice a n c], .slice a1 n1 c1] w fun e w' => e = .returned (.int .i64 (wcode s xss ws)) ∧ Below w.heap.size w w' := by
  have HIS := Lib.hid (fun W' (h' : RdR lo hi W' (.slice a n c) xss) (h1' : RdI lo1 hi1 W' (.slice a1 n1 c1) ws) hg => isWalk s a n c xss a1 n1 c1 ws W' h' hn hg h1' hl hcap)
  have HI := Lib.hid (fun W' (h : RdR lo hi W' (.slice a n c) xss) => implIsGraph s a n c xss W' h hn)
  have HR := Lib.hid h
  have H1 := Lib.hid h1
  obtain ⟨P, hP⟩ : ∃ P, P = wcode s xss ws := ⟨_, rfl⟩
  rw [← hP]
  unfold wcode at hP
  clear hn hl h h1
  go_enter Try.func114, Try.ntmps114
  go_wp2_with fail
  refine calls_gen (fun W => Below w.heap.size w W ∧ W.cell? ⟨w.heap.size, 0, none⟩ = some (.int .i64 s) ∧ W.cell? ⟨w.heap.size, 1, none⟩ = some (.slice a n c)) ⟨(Below.refl _ _).alloc (Nat.le_refl _) _, by go_simp, by go_simp⟩ ?_
  rintro W ⟨hB, k0, k1⟩
  refine (HI.out W (HR.out.below hB)).mono ?_
  cases hg : grB s xss with
  | false =>
    rw [hg, if_neg (by simp)] at hP
    rintro e w1 ⟨rfl, b1⟩
    replace hB := hB.next b1
    clear k0 k1 b1
    subst hP
    go_wp2
    go_ret
    exact ⟨rfl, hB⟩
  | true =>
    rw [hg, if_pos rfl] at hP
    have HG := Lib.hid hg
    have HPP := Lib.hid hP
    clear hg hP
    rintro e w1 ⟨rfl, b1⟩
    replace hB := hB.next b1
    replace k0 := b1.keep k0
    replace k1 := b1.keep k1
    clear b1
    go_wp2_with fail
    refine (HIS.out w1 (HR.out.below hB) (H1.out.below hB) HG.out).mono ?_
    have hP := HPP.out
    clear HPP
    cases hw : wkB (dirE (pairs xss)) ws with
    | false =>
      rw [hw, if_neg (by simp)] at hP
      rintro e w2 ⟨rfl, b2⟩
      replace hB := hB.next b2
      clear k0 k1 b2
      subst hP
      go_wp2
      go_ret
      exact ⟨rfl, hB⟩
    | true =>
      rw [hw, if_pos rfl] at hP
      rintro e w2 ⟨rfl, b2⟩
      replace hB := hB.next b2
      clear k0 k1 b2
      subst hP
      go_wp2
      go_ret
      exact ⟨rfl, hB⟩

end Go.Proofs.Ytebgbplhcaocoaa
