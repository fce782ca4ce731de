/- Codes of a graph and a number, by the model; StraightCounts of the model. -/
import Derived.Test.YtbfgehgjecgfmaaSpecCnt
import Derived.Test.YtbfgehgjecgfmaaCoreA
import Derived.Test.YtbfgehgjecgfmaaCoreB
set_option linter.unusedSimpArgs false
set_option linter.unusedVariables false
namespace Go.Proofs.Ytbfgehgjecgfmaa
open Go.RowKit

/-- the code of a graph and a number in a range -/
def ccode (s : Int) (xss : List (List Int)) (k low top : Int) : Int := if grB s xss = true then (if low ≤ k ∧ k ≤ top then 0 else 2) else 1
theorem ccode_ok {s : Int} {xss : List (List Int)} {k low top : Int} (h : ccode s xss k low top = 0) : grB s xss = true ∧ low ≤ k ∧ k ≤ top := by
  unfold ccode at h
  by_cases h1 : grB s xss = true
  · rw [if_pos h1] at h
    by_cases h2 : low ≤ k ∧ k ≤ top
    · exact ⟨h1, h2⟩
    · rw [if_neg h2] at h; omega
  · rw [if_neg h1] at h; omega
def stcOf (s : Int) (xss : List (List Int)) (k : Int) : List Int × Int := if ccode s xss k 1 10 = 0 then (cnts (2 * xss.length) (edgeM (dirE (pairs xss))) k.toNat, 0) else ([], ccode s xss k 1 10)

set_option maxRecDepth 100000 in
set_option maxHeartbeats 1600000 in
theorem l02Code {lo hi : Nat} (s : Int) (a : Option Addr) (n c : Nat) (xss : List (List Int)) (k low : Int) (w : World) (h : RdR lo hi w (.slice a n c) xss) (hn : xss.length = n) :
    Calls Try.prog 66 #[.agg #[.int .i64 s, .slice a n c], .int .i64 k, .int .i64 low] w fun e w' => e = .returned (.int .i64 (ccode s xss k low 10)) ∧ Below w.heap.size w w' := by
  have HR := Lib.hid h
  have HI := Lib.hid (fun W' (h' : RdR lo hi W' (.slice a n c) xss) => l01Is s a n c xss W' h' hn)
  obtain ⟨P, hP⟩ : ∃ P, P = ccode s xss k low 10 := ⟨_, rfl⟩
  rw [← hP]
  unfold ccode at hP
  have HP := Lib.hid hP
  clear h hn hP
  go_enter Try.func66, Try.ntmps66
  go_wp2_with fail
  refine calls_gen (fun W => Below w.heap.size w W) ((Below.refl _ _).alloc (Nat.le_refl _) _) ?_
  rintro W hB
  refine (HI.out W (HR.out.below hB)).mono ?_
  have hP := HP.out
  clear HP
  cases hg : grB s xss with
  | false =>
    rintro e w1 ⟨rfl, b1⟩
    replace hB := hB.next b1
    rw [hg, if_neg (by simp)] at hP
    clear b1 hg
    subst hP
    go_wp2
    go_ret
    exact ⟨rfl, hB⟩
  | true =>
    rw [hg, if_pos rfl] at hP
    clear hg
    rintro e w1 ⟨rfl, b1⟩
    replace hB := hB.next b1
    clear b1
    have hl := l01In k low 10 w1
    by_cases h1 : low ≤ k ∧ k ≤ 10
    · rw [if_pos h1] at hP
      rw [decide_eq_true h1.1, decide_eq_true h1.2] at hl
      subst hP
      clear h1
      go_wp2_with fail
      refine hl.mono ?_
      clear hl
      rintro e w2 ⟨rfl, q2⟩
      replace hB := hB.qt q2
      clear q2
      go_wp2
      go_ret
      exact ⟨rfl, hB⟩
    · rw [if_neg h1] at hP
      have hb : (decide (low ≤ k) && decide (k ≤ 10)) = false := by
        simp only [Bool.and_eq_false_iff, decide_eq_false_iff_not]; omega
      rw [hb] at hl
      subst hP
      clear h1 hb
      go_wp2_with fail
      refine hl.mono ?_
      clear hl
      rintro e w2 ⟨rfl, q2⟩
      replace hB := hB.qt q2
      clear q2
      go_wp2
      go_ret
      exact ⟨rfl, hB⟩

end Go.Proofs.Ytbfgehgjecgfmaa
