/- Codes of a graph and a number, by the model; StraightCounts of the model. -/
import Derived.Test.YtgcidkcedfliiaaSpecCnt
import Derived.Test.YtgcidkcedfliiaaCoreA
import Derived.Test.YtgcidkcedfliiaaCoreB
set_option linter.unusedSimpArgs false
set_option linter.unusedVariables false
namespace Go.Proofs.Ytgcidkcedfliiaa
open Go.RowKit

/-- the code of a graph and a number in a range -/
def ccode (s : Int) (xss : List (List Int)) (k low top : Int) : Int := if grB s xss = true then (if low ≤ k ∧ k ≤ top then 0 else 2) else 1
theorem ccode_ok {s : Int} {xss : List (List Int)} {k low top : Int} (h : ccode s xss k low top = 0) : grB s xss = true ∧ low ≤ k ∧ k ≤ top := by
  unfold ccode at h
  by_cases h1 : grB s xss = true
  · rw [if_pos h1] at h
    by_cases h2 : low ≤ k ∧ k ≤ top
    · exact ⟨h1, h2⟩
    · rw [if_neg h2] at h; omega
  · rw [if_neg h1] at h; omega
def stcOf (s : Int) (xss : List (List Int)) (k : Int) : List Int × Int := if ccode s xss k 1 10 = 0 then (cnts (2 * xss.length) (edgeM (dirE (pairs xss))) k.toNat, 0) else ([], ccode s xss k 1 10)

set_option maxRecDepth 100000 in
set_option maxHeartbeats 1600000 in
theorem l02Code {lo hi : Nat} (s : Int) (a : Option Addr) (n c : Nat) (xss : List (List Int)) (k low : Int) (w : World) (h : RdR lo hi w (.slice a n c) xss) (hn : xss.length = n) :
    Calls Try.prog 79 #[.agg #[.int .i64 s, .slice a n c], .int .i64 k, .int .i64 low] w fun e w' => e = .returned (.int .i64 (ccode s xss k low 10)) ∧ Below w.heap.size w w' := by
  have HR := Lib.hid h
  have HI := Lib.hid (fun W' (h' : RdR lo hi W' (.slice a n c) xss) => l01Is s a n c xss W' h' hn)
  obtain ⟨P, hP⟩ : ∃ P, P = ccode s xss k low 10 := ⟨_, rfl⟩
  rw [← hP]
  unfold ccode at hP
  have HP := Lib.hid hP
  clear h hn hP
  go_enter Try.func79, Try.ntmps79
  go_wp2_with fail
  refine calls_gen (fun W => Below w.heap.size w W) ((Below.refl _ _).alloc (Nat.le_refl _) _) ?_
  rintro W hB
  refine (HI.out W (HR.out.below hB)).mono ?_
  have hP := HP.out
  clear HP
  cases hg : grB s xss with
  | false =>
    rintro e w1 ⟨rfl, b1⟩
    replace hB := hB.next b1
    rw [hg, if_neg (by simp)] at hP
    clear b1 hg
    subst hP
    go_wp2
    go_ret
    exact ⟨rfl, hB⟩
  | true =>
    rw [hg, if_pos rfl] at hP
    clear hg
    rintro e w1 ⟨rfl, b1⟩
    replace hB := hB.next b1
    clear b1
    have hl := l01In k low 10 w1
    by_cases h1 : low ≤ k ∧ k ≤ 10
    · rw [if_pos h1] at hP
      rw [decide_eq_true h1.1, decide_eq_true h1.2] at hl
      subst hP
      clear h1
      go_wp2_with fail
      refine hl.mono ?_
      clear hl
      rintro e w2 ⟨rfl, q2⟩
      replace hB := hB.qt q2
      clear q2
      go_wp2
      go_ret
      exact ⟨rfl, hB⟩
    · rw [if_neg h1] at hP
      have hb : (decide (low ≤ k) && decide (k ≤ 10)) = false := by
        simp only [Bool.and_eq_false_iff, decide_eq_false_iff_not]; omega
      rw [hb] at hl
      subst hP
      clear h1 hb
      go_wp2_with fail
      refine hl.mono ?_
      clear hl
      rintro e w2 ⟨rfl, q2⟩
      replace hB := hB.qt q2
      clear q2
      go_wp2
      go_ret
      exact ⟨rfl, hB⟩

set_option maxRecDepth 100000 in
set_option maxHeartbeats 1600000 in
theorem specStc {lo hi : Nat} (s : Int) (a : Option Addr) (n c : Nat) (xss : List (List Int)) (k : Int) (w : World) (h : RdR lo hi w (.slice a n c) xss) (hn : xss.length = n) :
    Calls Try.prog 42 #[.agg #[.int .i64 s, .slice a n c], .int .i64 k] w fun e w' => ∃ a' c', e = .returned (.tuple #[.slice a' (stcOf s xss k).1.length c', .int .i64 (stcOf s xss k).2]) ∧ OwI w.heap.size w'.heap.size w' (.slice a' (stcOf s xss k).1.length c') (stcOf s xss k).1 ∧ Below w.heap.size w w' := by
  have HR := Lib.hid h
  have HC := Lib.hid (fun W' (h' : RdR lo hi W' (.slice a n c) xss) => l02Code s a n c xss k 1 W' h' hn)
  have HS := Lib.hid (fun W' (h' : RdR lo hi W' (.slice a n c) xss) hg (k : Nat) hk => l02Straight s a n c xss k W' h' hn hg hk)
  have HO := Lib.hid (fun h => ccode_ok (s := s) (xss := xss) (k := k) (low := 1) (top := 10) h)
  obtain ⟨P, hP⟩ : ∃ P, P = stcOf s xss k := ⟨_, rfl⟩
  rw [← hP]
  unfold stcOf at hP
  rw [hn] at hP
  generalize ccode s xss k 1 10 = code at HC HO hP
  have HP := Lib.hid hP
  clear h hn hP
  go_enter Try.func42, Try.ntmps42
  go_wp2_with fail
  refine calls_gen (fun W => Below w.heap.size w W ∧ W.cell? ⟨w.heap.size, 0, none⟩ = some (.int .i64 s) ∧ W.cell? ⟨w.heap.size, 1, none⟩ = some (.slice a n c)) ⟨(Below.refl _ _).alloc (Nat.le_refl _) _, by go_simp, by go_simp⟩ ?_
  rintro W ⟨hB, k0, k1⟩
  refine (HC.out W (HR.out.below hB)).mono ?_
  rintro e w1 ⟨rfl, b1⟩
  replace hB := hB.next b1
  replace k0 := b1.keep k0
  replace k1 := b1.keep k1
  clear b1
  have hP := HP.out
  clear HP
  by_cases hc : code = 0
  · obtain ⟨hg, hk1, hk2⟩ := HO.out hc
    subst hc
    rw [if_pos rfl] at hP
    obtain ⟨q, rfl⟩ : ∃ q : Nat, k = (q : Int) := ⟨k.toNat, by omega⟩
    rw [Int.toNat_natCast] at hP
    have hlen : P.1.length = q := by rw [hP]; exact cnts_len _ _ _
    have HP2 := Lib.hid (⟨hP, hlen⟩ : _ ∧ _)
    have hS := HS.out w1 (HR.out.below hB) hg q (by omega)
    clear hP hlen hg HO HS
    go_wp2_with fail
    refine hS.mono ?_
    clear hS
    rintro e w2 ⟨a', c', rfl, o2, b2⟩
    have HF := Lib.hid (⟨o2.mono hB.size (Nat.le_refl _), hB.next b2⟩ : _ ∧ _)
    clear o2 hB b2 k0 k1
    go_wp2
    go_ret2
    refine ⟨a', c', ?_, ?_, HF.out.2⟩
    · rw [HP2.out.2, HP2.out.1]; rfl
    · rw [HP2.out.2, HP2.out.1]; exact HF.out.1
  · rw [if_neg hc] at hP
    have hcb : (code != 0) = true := by simpa using hc
    clear hc k0 k1
    subst hP
    go_wp2
    go_ret2
    exact ⟨none, 0, rfl, OwI.nil _ _ _, hB⟩

end Go.Proofs.Ytgcidkcedfliiaa
