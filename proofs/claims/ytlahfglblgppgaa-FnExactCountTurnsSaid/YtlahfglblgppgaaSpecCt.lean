/- CountTurns of the model. -/
import Derived.Test.YtlahfglblgppgaaSpecStr
set_option linter.unusedSimpArgs false
set_option linter.unusedVariables false
set_option maxRecDepth 100000
namespace Go.Proofs.Ytlahfglblgppgaa
open Go.RowKit

/-- the number of turns at the first k places of a list -/
def ctN (ws : List Int) : Nat → Nat
  | 0 => 0
  | k + 1 => ctN ws k + (if backB ws k then 1 else 0)
theorem ctN_le (ws : List Int) : ∀ k, ctN ws k ≤ k
  | 0 => Nat.le_refl _
  | k + 1 => by
    have := ctN_le ws k
    rw [ctN]
    split <;> omega
def ctOf (s : Int) (xss : List (List Int)) (ws : List Int) : Int × Int :=
  if grB s xss = true then (if walkB xss.length ws = true then (if closedB (dirE (pairs xss)) ws = true then ((ctN ws ws.length : Int), 0) else (0, 2)) else (0, 2)) else (0, 1)

set_option maxRecDepth 100000 in
set_option maxHeartbeats 6400000 in
theorem specCt {lo hi lo1 hi1 : Nat} (s : Int) (a : Option Addr) (n c : Nat) (xss : List (List Int)) (a1 : Option Addr) (n1 c1 : Nat) (ws : List Int) (w : World) (h : RdR lo hi w (.slice a n c) xss) (hn : xss.length = n) (h1 : RdI lo1 hi1 w (.slice a1 n1 c1) ws) (hl : ws.length = n1) :
    Calls Try.prog 26 #[.agg #[.int .i64 s, .slice a n c], .slice a1 n1 c1] w fun e w' => e = .returned (.tuple #[.int .i64 (ctOf s xss ws).1, .int .i64 (ctOf s xss ws).2]) ∧ Below w.heap.size w w' := by
  have hb1 : n1 ≤ 17592186044416 := by rw [← hl]; exact h1.1
  have HB1 := Lib.hid hb1
  have HN := Lib.hid hn
  have HL := Lib.hid hl
  have HR := Lib.hid h
  have H1 := Lib.hid h1
  have HI := Lib.hid (fun W' (h : RdR lo hi W' (.slice a n c) xss) => l01Is s a n c xss W' h hn)
  obtain ⟨P, hP⟩ : ∃ P, P = ctOf s xss ws := ⟨_, rfl⟩
  rw [← hP]
  have HP := Lib.hid hP
  unfold ctOf at hP
  clear hn hl h h1 hb1
  go_enter Try.func26, Try.ntmps26
  go_wp2_with fail
  refine calls_gen (fun W => Below w.heap.size w W ∧ W.cell? ⟨w.heap.size, 0, none⟩ = some (.int .i64 s) ∧ W.cell? ⟨w.heap.size, 1, none⟩ = some (.slice a n c)) ⟨(Below.refl _ _).alloc (Nat.le_refl _) _, by go_simp, by go_simp⟩ ?_
  rintro W ⟨hB, k0, k1⟩
  refine (HI.out W (HR.out.below hB)).mono ?_
  cases hg : grB s xss with
  | false =>
    rw [hg, if_neg (by simp)] at hP
    rintro e w1 ⟨rfl, b1⟩
    replace hB := hB.next b1
    clear k0 k1 b1
    subst hP
    clear HP
    go_wp2
    refine bodyPost_ret (v := .tuple #[.int .i64 0, .int .i64 1]) (by simp [results, Try.results26, go_sem]) rfl ⟨rfl, hB⟩
  | true =>
    rw [hg, if_pos rfl] at hP
    have hn10 : n ≤ 10 := by have := grB_iff hg; have := HN.out; omega
    have HG := Lib.hid hg
    clear hg
    rintro e w1 ⟨rfl, b1⟩
    replace hB := hB.next b1
    replace k0 := b1.keep k0
    replace k1 := b1.keep k1
    clear b1
    have HPP := Lib.hid hP
    clear hP
    go_wp2_with fail
    refine (l02Directed s a n c a1 n1 c1 ws w1 (H1.out.below hB) HL.out hn10 HB1.out).mono ?_
    cases hw : walkB n ws with
    | false =>
      have hP := HPP.out
      rw [HN.out, hw, if_neg (by simp)] at hP
      rintro e w2 ⟨rfl, b2⟩
      replace hB := hB.next b2
      clear k0 k1 b2
      clear HPP HP
      subst hP
      go_wp2
      refine bodyPost_ret (v := .tuple #[.int .i64 0, .int .i64 2]) (by simp [results, Try.results26, go_sem]) rfl ⟨rfl, hB⟩
    | true =>
      have hP := HPP.out
      rw [HN.out, hw, if_pos rfl] at hP
      rintro e w2 ⟨rfl, b2⟩
      replace hB := hB.next b2
      replace k0 := b2.keep k0
      replace k1 := b2.keep k1
      clear b2 HPP HP
      have hn20 : n1 ≤ 20 := by have := (walkB_of hw).1; have := HL.out; omega
      have HW := Lib.hid hw
      have HPP := Lib.hid hP
      clear hP hw
      go_wp2_with fail
      refine (l02Closed s a n c xss a1 n1 c1 ws w2 (HR.out.below hB) HN.out HG.out (H1.out.below hB) HL.out HW.out).mono ?_
      cases hc : closedB (dirE (pairs xss)) ws with
      | false =>
        have hP := HPP.out
        rw [hc, if_neg (by simp)] at hP
        rintro e w3 ⟨rfl, b3⟩
        replace hB := hB.next b3
        clear k0 k1 b3 HPP
        subst hP
        go_wp2
        refine bodyPost_ret (v := .tuple #[.int .i64 0, .int .i64 2]) (by simp [results, Try.results26, go_sem]) rfl ⟨rfl, hB⟩
      | true =>
        have hP := HPP.out
        rw [hc, if_pos rfl] at hP
        rintro e w3 ⟨rfl, b3⟩
        replace hB := hB.next b3
        have HPQ := Lib.hid hP
        have HC := Lib.hid ((H1.out.below hB).at HL.out)
        have HBB := Lib.hid hB
        clear k0 k1 b3 HPP hP hB
        go_wp2
        go_loopw [6, 7] (fun o i wr => ∃ q : Nat, q ≤ n1 ∧ i = .int .i64 q ∧ o = .int .i64 (ctN ws q : Int) ∧ Qt w3 wr) (fun _ i _ => n1 - (intOf i).toNat)
        case atStart => exact ⟨0, Nat.zero_le _, rfl, rfl, Qt.refl _⟩
        case round =>
          obtain ⟨q, hq, rfl, rfl, hqt⟩ := hrel
          by_cases hlq : q < n1
          · obtain ⟨r, hr⟩ : ∃ r, r = (q + 1) % n1 := ⟨_, rfl⟩
            have hr1 : r < n1 := by rw [hr]; exact Nat.mod_lt _ (by omega)
            have hm : ((q : Int) + 1).tmod (n1 : Int) = (r : Int) := by
              rw [Int.tmod_eq_emod_of_nonneg (by omega), hr, Int.natCast_emod, Int.natCast_add]; rfl
            have hn0 : ¬ (n1 : Int) = 0 := by omega
            have hn0' : ¬ n1 = 0 := by omega
            have hs1 : wrap64 ((q : Int) + 1) = (q : Int) + 1 := IntWalk.wrap64_in _ (by omega)
            have hs2 : IntKind.i64.wrap ((q : Int) + 1) = (q : Int) + 1 := IntWalk.i64_in _ (by omega)
            have hm2 : IntKind.i64.wrap (((q : Int) + 1).tmod (n1 : Int)) = (r : Int) := by rw [hm]; exact IntWalk.i64_in _ (by omega)
            have hw1 : wrap64 (r : Int) = (r : Int) := IntWalk.wrap64_in _ (by omega)
            have hw2 : IntKind.i64.wrap (r : Int) = (r : Int) := IntWalk.i64_in _ (by omega)
            have hr0 : (0 : Int) ≤ (r : Int) := by omega
            have hr2 : (r : Int) < (n1 : Int) := by omega
            obtain ⟨b, off, rfl, g0⟩ := HC.out q hlq
            obtain ⟨b', off', hbb, g1⟩ := HC.out r hr1
            obtain ⟨rfl, rfl⟩ : b' = b ∧ off' = off := by simp at hbb; exact ⟨hbb.1.symm, hbb.2.symm⟩
            replace g0 := hqt.below.keep g0
            replace g1 := hqt.below.keep g1
            obtain ⟨x, hx⟩ : ∃ x, x = ws.getD q 0 := ⟨_, rfl⟩
            obtain ⟨y, hy⟩ : ∃ y, y = ws.getD r 0 := ⟨_, rfl⟩
            rw [← hx] at g0
            rw [← hy] at g1
            have hbk : backB ws q = (y == rv x) := by unfold backB nextW; rw [HL.out, ← hr, ← hy, ← hx]
            have hcs : ctN ws (q + 1) = ctN ws q + (if backB ws q then 1 else 0) := rfl
            rw [hbk] at hcs
            have hcb : ctN ws q ≤ q := ctN_le ws q
            obtain ⟨C, hC⟩ : ∃ C, C = ctN ws q := ⟨_, rfl⟩
            rw [← hC] at hcs hcb ⊢
            have HCS := Lib.hid hcs
            have c1 : wrap64 ((C : Int) + 1) = (C : Int) + 1 := IntWalk.wrap64_in _ (by clear hm hr hm2 hw1 hw2 hs1 hs2; omega)
            have c2 : IntKind.i64.wrap ((C : Int) + 1) = (C : Int) + 1 := IntWalk.i64_in _ (by clear hm hr hm2 hw1 hw2 hs1 hs2 c1; omega)
            clear hx hy hbb hr hbk hcs hC
            have hrv : bits BinOp.xor .i64 x 1 = rv x := rfl
            by_cases he : y = rv x
            · have hee : (y == rv x) = true := by simpa using he
              have HE := Lib.hid hee
              clear he
              go_wp2
              go_quiet (fail)
              go_wp2
              go_roundw
              case rel => exact ⟨q+1, by omega, by go_num, by rw [HCS.out, HE.out]; simp, hqt.drewN _⟩
              case measure => simp [intOf]; omega
            · have hee : (y == rv x) = false := by simpa using he
              have HE := Lib.hid hee
              clear he
              go_wp2
              go_quiet (fail)
              go_wp2
              go_roundw
              case rel => exact ⟨q+1, by omega, by go_num, by rw [HCS.out, HE.out]; simp, hqt.drewN _⟩
              case measure => simp [intOf]; omega
          · obtain rfl : q = n1 := by omega
            have HPF := HPQ
            go_wp2
            refine bodyPost_ret (v := .tuple #[.int .i64 (ctN ws q : Int), .int .i64 0]) (by simp [results, Try.results26, go_sem]) rfl ⟨by rw [HPF.out, HL.out], HBB.out.qt hqt⟩

end Go.Proofs.Ytlahfglblgppgaa
