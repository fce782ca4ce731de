/- CountTurns of the program. -/
import Derived.Test.YtlahfglblgppgaaSpecCt
import Derived.Test.YtlahfglblgppgaaClosedW
set_option linter.unusedSimpArgs false
set_option linter.unusedVariables false
set_option maxRecDepth 100000
namespace Go.Proofs.Ytlahfglblgppgaa
open Go.RowKit

set_option maxHeartbeats 6400000 in
theorem implCt {lo hi lo1 hi1 : Nat} (s : Int) (a : Option Addr) (n c : Nat) (xss : List (List Int)) (a1 : Option Addr) (n1 c1 : Nat) (ws : List Int) (w : World) (h : RdR lo hi w (.slice a n c) xss) (hn : xss.length = n) (h1 : RdI lo1 hi1 w (.slice a1 n1 c1) ws) (hl : ws.length = n1) :
    Calls Try.prog 28 #[.agg #[.int .i64 s, .slice a n c], .slice a1 n1 c1] w fun e w' => e = .returned (.tuple #[.int .i64 (ctOf s xss ws).1, .int .i64 (ctOf s xss ws).2]) ∧ Below w.heap.size w w' := by
  have hlen1 := h1.1
  rw [hl] at hlen1
  have HL := Lib.hid hl
  have HN := Lib.hid hn
  have HR := Lib.hid h
  have H1 := Lib.hid h1
  obtain ⟨P, hP⟩ : ∃ P, P = ctOf s xss ws := ⟨_, rfl⟩
  rw [← hP]
  unfold ctOf at hP
  clear hn hl h h1
  go_enter Try.func28, Try.ntmps28
  go_wp2_with fail
  refine calls_gen (fun W => Below w.heap.size w W ∧ W.cell? ⟨w.heap.size, 0, none⟩ = some (.int .i64 s) ∧ W.cell? ⟨w.heap.size, 1, none⟩ = some (.slice a n c)) ⟨(Below.refl _ _).alloc (Nat.le_refl _) _, by go_simp, by go_simp⟩ ?_
  rintro W ⟨hB, k0, k1⟩
  refine (implIsGraph s a n c xss W (HR.out.below hB) HN.out).mono ?_
  cases hg : grB s xss with
  | false =>
    rw [hg, if_neg (by simp)] at hP
    rintro e w1 ⟨rfl, b1⟩
    replace hB := hB.next b1
    clear k0 k1 b1
    subst hP
    go_wp2
    refine bodyPost_ret (v := .tuple #[.int .i64 0, .int .i64 1]) (by simp [results, Try.results28, go_sem]) rfl ⟨rfl, hB⟩
  | true =>
    rw [hg, if_pos rfl] at hP
    have hn10 : n ≤ 10 := by have := grB_iff hg; have := HN.out; omega
    have HG := Lib.hid hg
    clear hg
    rintro e w1 ⟨rfl, b1⟩
    replace hB := hB.next b1
    replace k0 := b1.keep k0
    replace k1 := b1.keep k1
    clear b1
    have HPP := Lib.hid hP
    clear hP
    by_cases hz : n1 = 0
    case pos =>
      have hP := HPP.out
      have hc : closedB (dirE (pairs xss)) ws = false := by unfold closedB; rw [HL.out, hz]; simp
      have hP2 : P = (0, 2) := by rw [hP, hc]; split <;> rfl
      have hb : ((n1 : Int) == 0) = true := by rw [hz]; rfl
      clear k0 k1 HPP hc hP
      subst hP2
      go_wp2
      refine bodyPost_ret (v := .tuple #[.int .i64 0, .int .i64 2]) (by simp [results, Try.results28, go_sem]) rfl ⟨rfl, hB⟩
    have hb : ((n1 : Int) == 0) = false := by simp; omega
    have h0 : 0 < n1 := by omega
    go_wp2_with fail
    refine (isWalkList s a n c a1 n1 c1 ws w1 (H1.out.below hB) HL.out hn10 hlen1).mono ?_
    cases hw : walkB n ws with
    | false =>
      have hP := HPP.out
      rw [HN.out, hw, if_neg (by simp)] at hP
      rintro e w2 ⟨rfl, b2⟩
      replace hB := hB.next b2
      clear k0 k1 b2
      clear HPP
      subst hP
      go_wp2
      refine bodyPost_ret (v := .tuple #[.int .i64 0, .int .i64 2]) (by simp [results, Try.results28, go_sem]) rfl ⟨rfl, hB⟩
    | true =>
      have hP := HPP.out
      rw [HN.out, hw, if_pos rfl] at hP
      rintro e w2 ⟨rfl, b2⟩
      replace hB := hB.next b2
      replace k0 := b2.keep k0
      replace k1 := b2.keep k1
      clear b2 HPP
      have hn20 : n1 ≤ 20 := by have := (walkB_of hw).1; have := HL.out; omega
      have HW := Lib.hid hw
      have HPP := Lib.hid hP
      clear hP hw
      go_wp2_with fail
      refine (isClosedWalk s a n c xss a1 n1 c1 ws w2 (HR.out.below hB) HN.out HG.out (H1.out.below hB) HL.out HW.out h0).mono ?_
      cases hc : closedB (dirE (pairs xss)) ws with
      | false =>
        have hP := HPP.out
        rw [hc, if_neg (by simp)] at hP
        rintro e w3 ⟨rfl, b3⟩
        replace hB := hB.next b3
        clear k0 k1 b3 HPP
        subst hP
        go_wp2
        refine bodyPost_ret (v := .tuple #[.int .i64 0, .int .i64 2]) (by simp [results, Try.results28, go_sem]) rfl ⟨rfl, hB⟩
      | true =>
        have hP := HPP.out
        rw [hc, if_pos rfl] at hP
        rintro e w3 ⟨rfl, b3⟩
        replace hB := hB.next b3
        have HPQ := Lib.hid hP
        have HC := Lib.hid ((H1.out.below hB).at HL.out)
        have HBB := Lib.hid hB
        clear k0 k1 b3 HPP hP hB
        go_wp2
        go_loopw [6, 29] (fun o i wr => ∃ q : Nat, q ≤ n1 ∧ i = .int .i64 q ∧ o = .int .i64 (ctN ws q : Int) ∧ Qt w3 wr) (fun _ i _ => n1 - (intOf i).toNat)
        case atStart => exact ⟨0, Nat.zero_le _, rfl, rfl, Qt.refl _⟩
        case round =>
          obtain ⟨q, hq, rfl, rfl, hqt⟩ := hrel
          by_cases hlq : q < n1
          · obtain ⟨r, hr⟩ : ∃ r, r = (q + 1) % n1 := ⟨_, rfl⟩
            have hr1 : r < n1 := by rw [hr]; exact Nat.mod_lt _ (by omega)
            have hm : ((q : Int) + 1).tmod (n1 : Int) = (r : Int) := by
              rw [Int.tmod_eq_emod_of_nonneg (by omega), hr, Int.natCast_emod, Int.natCast_add]; rfl
            have hn0 : ¬ (n1 : Int) = 0 := by omega
            have hn0' : ¬ n1 = 0 := by omega
            have hs1 : wrap64 ((q : Int) + 1) = (q : Int) + 1 := IntWalk.wrap64_in _ (by omega)
            have hs2 : IntKind.i64.wrap ((q : Int) + 1) = (q : Int) + 1 := IntWalk.i64_in _ (by omega)
            have hm2 : IntKind.i64.wrap (((q : Int) + 1).tmod (n1 : Int)) = (r : Int) := by rw [hm]; exact IntWalk.i64_in _ (by omega)
            have hw1 : wrap64 (r : Int) = (r : Int) := IntWalk.wrap64_in _ (by omega)
            have hw2 : IntKind.i64.wrap (r : Int) = (r : Int) := IntWalk.i64_in _ (by omega)
            have hr0 : (0 : Int) ≤ (r : Int) := by omega
            have hr2 : (r : Int) < (n1 : Int) := by omega
            obtain ⟨b, off, rfl, g0⟩ := HC.out q hlq
            obtain ⟨b', off', hbb, g1⟩ := HC.out r hr1
            obtain ⟨rfl, rfl⟩ : b' = b ∧ off' = off := by simp at hbb; exact ⟨hbb.1.symm, hbb.2.symm⟩
            replace g0 := hqt.below.keep g0
            replace g1 := hqt.below.keep g1
            obtain ⟨x, hx⟩ : ∃ x, x = ws.getD q 0 := ⟨_, rfl⟩
            obtain ⟨y, hy⟩ : ∃ y, y = ws.getD r 0 := ⟨_, rfl⟩
            rw [← hx] at g0
            rw [← hy] at g1
            have hbk : backB ws q = (y == rv x) := by unfold backB nextW; rw [HL.out, ← hr, ← hy, ← hx]
            have hcs : ctN ws (q + 1) = ctN ws q + (if backB ws q then 1 else 0) := rfl
            rw [hbk] at hcs
            have hcb : ctN ws q ≤ q := ctN_le ws q
            obtain ⟨C, hC⟩ : ∃ C, C = ctN ws q := ⟨_, rfl⟩
            rw [← hC] at hcs hcb ⊢
            have HCS := Lib.hid hcs
            have c1 : wrap64 ((C : Int) + 1) = (C : Int) + 1 := IntWalk.wrap64_in _ (by clear hm hr hm2 hw1 hw2 hs1 hs2; omega)
            have c2 : IntKind.i64.wrap ((C : Int) + 1) = (C : Int) + 1 := IntWalk.i64_in _ (by clear hm hr hm2 hw1 hw2 hs1 hs2 c1; omega)
            clear hx hy hbb hr hbk hcs hC
            by_cases he : y = rv x
            · have hee : (y == rv x) = true := by simpa using he
              have HE := Lib.hid hee
              clear he
              go_wp2_with fail
              go_quiet ((go_at_call 72; exact Calls.quiet_of (reverseOf _ _)))
              go_wp2
              go_roundw
              case rel => exact ⟨q+1, by omega, by go_num, by rw [HCS.out, HE.out]; simp, hqt.drewN _⟩
              case measure => simp [intOf]; omega
            · have hee : (y == rv x) = false := by simpa using he
              have HE := Lib.hid hee
              clear he
              go_wp2_with fail
              go_quiet ((go_at_call 72; exact Calls.quiet_of (reverseOf _ _)))
              go_wp2
              go_roundw
              case rel => exact ⟨q+1, by omega, by go_num, by rw [HCS.out, HE.out]; simp, hqt.drewN _⟩
              case measure => simp [intOf]; omega
          · obtain rfl : q = n1 := by omega
            have HPF := HPQ
            go_wp2
            refine bodyPost_ret (v := .tuple #[.int .i64 (ctN ws q : Int), .int .i64 0]) (by simp [results, Try.results28, go_sem]) rfl ⟨by rw [HPF.out, HL.out], HBB.out.qt hqt⟩

end Go.Proofs.Ytlahfglblgppgaa
