/- Walks of the model: codes, closed ones, reversed ones. -/
import Derived.Test.YtlahfglblgppgaaSpecWk
import Derived.Test.YtlahfglblgppgaaCoreB
import Derived.StillTailTactics
set_option linter.unusedSimpArgs false
set_option linter.unusedVariables false
namespace Go.Proofs.Ytlahfglblgppgaa
open Go.RowKit

def isWalkOf (s : Int) (xss : List (List Int)) (ws : List Int) : Bool × Int := if grB s xss = true then (wkB (dirE (pairs xss)) ws, 0) else (false, 1)
def isClosedOf (s : Int) (xss : List (List Int)) (ws : List Int) : Bool × Int := if wcode s xss ws = 0 then (clB (dirE (pairs xss)) ws, 0) else (false, wcode s xss ws)
def revW (ws : List Int) : List Int := (List.range ws.length).map (fun j => rv (ws.getD (ws.length - 1 - j) 0))
def revOf (s : Int) (xss : List (List Int)) (ws : List Int) : List Int × Int := if wcode s xss ws = 0 then (revW ws, 0) else ([], wcode s xss ws)
theorem revW_len (ws : List Int) : (revW ws).length = ws.length := by simp [revW]
theorem wcode_ok {s : Int} {xss : List (List Int)} {ws : List Int} (h : wcode s xss ws = 0) : grB s xss = true ∧ wkB (dirE (pairs xss)) ws = true := by
  unfold wcode at h
  cases hg : grB s xss <;> cases hw : wkB (dirE (pairs xss)) ws <;> simp [hg, hw] at h ⊢

set_option maxRecDepth 100000 in
set_option maxHeartbeats 1600000 in
theorem l03Code {lo hi lo1 hi1 : Nat} (s : Int) (a : Option Addr) (n c : Nat) (xss : List (List Int)) (a1 : Option Addr) (n1 c1 : Nat) (ws : List Int) (w : World) (h : RdR lo hi w (.slice a n c) xss) (hn : xss.length = n) (h1 : RdI lo1 hi1 w (.slice a1 n1 c1) ws) (hl : ws.length = n1) :
    Calls Try.prog 109 #[.agg #[.int .i64 s, .slice a n c], .slice a1 n1 c1] w fun e w' => e = .returned (.int .i64 (wcode s xss ws)) ∧ Below w.heap.size w w' := by
  have HIS := Lib.hid (fun W' (h' : RdR lo hi W' (.slice a n c) xss) (h1' : RdI lo1 hi1 W' (.slice a1 n1 c1) ws) hg => l03Is s a n c xss a1 n1 c1 ws W' h' hn hg h1' hl)
  have HI := Lib.hid (fun W' (h : RdR lo hi W' (.slice a n c) xss) => l01Is s a n c xss W' h hn)
  have HR := Lib.hid h
  have H1 := Lib.hid h1
  obtain ⟨P, hP⟩ : ∃ P, P = wcode s xss ws := ⟨_, rfl⟩
  rw [← hP]
  unfold wcode at hP
  clear hn hl h h1
  go_enter Try.func109, Try.ntmps109
  go_wp2_with fail
  refine calls_gen (fun W => Below w.heap.size w W ∧ W.cell? ⟨w.heap.size, 0, none⟩ = some (.int .i64 s) ∧ W.cell? ⟨w.heap.size, 1, none⟩ = some (.slice a n c)) ⟨(Below.refl _ _).alloc (Nat.le_refl _) _, by go_simp, by go_simp⟩ ?_
  rintro W ⟨hB, k0, k1⟩
  refine (HI.out W (HR.out.below hB)).mono ?_
  cases hg : grB s xss with
  | false =>
    rw [hg, if_neg (by simp)] at hP
    rintro e w1 ⟨rfl, b1⟩
    replace hB := hB.next b1
    clear k0 k1 b1
    subst hP
    go_wp2
    go_ret
    exact ⟨rfl, hB⟩
  | true =>
    rw [hg, if_pos rfl] at hP
    have HG := Lib.hid hg
    have HPP := Lib.hid hP
    clear hg hP
    rintro e w1 ⟨rfl, b1⟩
    replace hB := hB.next b1
    replace k0 := b1.keep k0
    replace k1 := b1.keep k1
    clear b1
    go_wp2_with fail
    refine (HIS.out w1 (HR.out.below hB) (H1.out.below hB) HG.out).mono ?_
    have hP := HPP.out
    clear HPP
    cases hw : wkB (dirE (pairs xss)) ws with
    | false =>
      rw [hw, if_neg (by simp)] at hP
      rintro e w2 ⟨rfl, b2⟩
      replace hB := hB.next b2
      clear k0 k1 b2
      subst hP
      go_wp2
      go_ret
      exact ⟨rfl, hB⟩
    | true =>
      rw [hw, if_pos rfl] at hP
      rintro e w2 ⟨rfl, b2⟩
      replace hB := hB.next b2
      clear k0 k1 b2
      subst hP
      go_wp2
      go_ret
      exact ⟨rfl, hB⟩

set_option maxRecDepth 100000 in
set_option maxHeartbeats 1600000 in
theorem l03Closed {lo hi lo1 hi1 : Nat} (s : Int) (a : Option Addr) (n c : Nat) (xss : List (List Int)) (a1 : Option Addr) (n1 c1 : Nat) (ws : List Int) (w : World) (h : RdR lo hi w (.slice a n c) xss) (hn : xss.length = n) (hg : grB s xss = true) (h1 : RdI lo1 hi1 w (.slice a1 n1 c1) ws) (hl : ws.length = n1) (hw : wkB (dirE (pairs xss)) ws = true) :
    Calls Try.prog 115 #[.agg #[.int .i64 s, .slice a n c], .slice a1 n1 c1] w fun e w' => e = .returned (.bool (clB (dirE (pairs xss)) ws)) ∧ Below w.heap.size w w' := by
  have hdl : (dirE (pairs xss)).length = 2 * n := by rw [dirE_len, pairs_len, hn]
  obtain ⟨hz1, hz2, hin, _⟩ := wkB_iff.1 hw
  rw [hl] at hz1 hz2 hin
  have hin0 := hin 0 (by omega)
  have hinl := hin (n1 - 1) (by omega)
  rw [hdl] at hin0 hinl
  unfold clB
  rw [hl]
  obtain ⟨b, off, rfl, g0⟩ := (h1.at hl) (n1 - 1) (by omega)
  obtain ⟨b', off', hbb, g1⟩ := (h1.at hl) 0 (by omega)
  obtain ⟨rfl, rfl⟩ : b' = b ∧ off' = off := by simp at hbb; exact ⟨hbb.1.symm, hbb.2.symm⟩
  generalize ws.getD (n1 - 1) 0 = x at g0 hinl ⊢
  generalize ws.getD 0 0 = y at g1 hin0 ⊢
  have HN1 := Lib.hid (fun W' (h' : RdR lo hi W' (.slice a n c) xss) => l03Next s a n c xss W' h' hn hg x y hinl.1 (by omega) hin0.1 (by omega))
  have HR := Lib.hid h
  generalize stepQ (dirE (pairs xss)) x y = v at HN1 ⊢
  clear hin hin0 hinl hbb hw hl h1 h hn hg hdl
  have hs1 : wrap64 ((n1 : Int) - 1) = (n1 : Int) - 1 := IntWalk.wrap64_in _ (by omega)
  have hs2 : IntKind.i64.wrap ((n1 : Int) - 1) = (n1 : Int) - 1 := IntWalk.i64_in _ (by omega)
  have hs3 : ((n1 : Int) - 1).toNat = n1 - 1 := by omega
  have hi0 : (0 : Int) ≤ (n1 : Int) - 1 := by omega
  have hi1 : (n1 : Int) - 1 < (n1 : Int) := by omega
  have hi2 : (0 : Int) < (n1 : Int) := by omega
  have hi3 : (1 : Int) ≤ (n1 : Int) := by omega
  have hi4 : 0 < n1 := by omega
  rw [Nat.add_zero] at g1
  go_enter Try.func115, Try.ntmps115
  go_wp2
  have hB := (Below.refl w.heap.size w).alloc (Nat.le_refl _) (.cells #[.int .i64 s, .slice a n c] 29)
  have k0 : (w.alloc (.cells #[.int .i64 s, .slice a n c] 29)).cell? ⟨w.heap.size, 0, none⟩ = some (.int .i64 s) := by go_simp
  have k1 : (w.alloc (.cells #[.int .i64 s, .slice a n c] 29)).cell? ⟨w.heap.size, 1, none⟩ = some (.slice a n c) := by go_simp
  replace g0 := hB.keep g0
  replace g1 := hB.keep g1
  generalize w.alloc (.cells #[.int .i64 s, .slice a n c] 29) = W at hB k0 k1 g0 g1 ⊢
  obtain ⟨B, hB0⟩ : ∃ B, B = w.heap.size := ⟨_, rfl⟩
  rw [← hB0] at k0 k1 ⊢
  have HB := Lib.hid hB
  clear hB hB0
  go_region_held3 (fun W' => Below W.heap.size W W' ∧ W'.cell? ⟨B, 0, none⟩ = some (.int .i64 s) ∧ W'.cell? ⟨B, 1, none⟩ = some (.slice a n c) ∧ W'.cell? ⟨b', off' + (n1 - 1), none⟩ = some (.int .i64 x) ∧ W'.cell? ⟨b', off', none⟩ = some (.int .i64 y))
    (first | (exact ⟨(Below.refl _ _).drew, k0, k1, g0, g1⟩) | (go_split_ands; exact ⟨Below.next (by assumption) b5, b5.keep (by assumption), b5.keep (by assumption), b5.keep (by assumption), b5.keep (by assumption)⟩))
    (first | (go_at_call 155; go_split_ands; refine (HN1.out _ (HR.out.below (HB.out.next (by assumption)))).mono ?_; rintro e w5 ⟨rfl, b5⟩))
  go_split_ands
  have bS : Below W.heap.size W w5 := by assumption
  go_wp2
  go_ret
  exact ⟨rfl, HB.out.next bS⟩


end Go.Proofs.Ytlahfglblgppgaa
