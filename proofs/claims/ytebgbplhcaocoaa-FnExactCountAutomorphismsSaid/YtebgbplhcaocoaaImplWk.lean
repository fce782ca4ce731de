/- Walks of the program: is a list a walk; the codes; is a walk closed. -/
import Derived.Test.YtebgbplhcaocoaaCoreF
import Derived.Deep.RegionHeld3
set_option linter.unusedSimpArgs false
set_option linter.unusedVariables false
namespace Go.Proofs.Ytebgbplhcaocoaa
open Go.RowKit

theorem arrAtS (a : Addr) (c : Nat) (w : World) : Sem.run Try.prog (Instr.arrayAt 126 (.slice (some a) 2 c)) w = .ok (.pointer (some a)) w := by kernel_rfl

set_option maxRecDepth 100000 in
set_option maxHeartbeats 6400000 in
theorem isWalk {lo hi lo1 hi1 : Nat} (s : Int) (a : Option Addr) (n c : Nat) (xss : List (List Int)) (a1 : Option Addr) (n1 c1 : Nat) (ws : List Int) (w : World) (h : RdR lo hi w (.slice a n c) xss) (hn : xss.length = n) (hg : grB s xss = true) (h1 : RdI lo1 hi1 w (.slice a1 n1 c1) ws) (hl : ws.length = n1) (hcap : n1 ≤ c1) :
    Calls Try.prog 164 #[.agg #[.int .i64 s, .slice a n c], .slice a1 n1 c1] w fun e w' => e = .returned (.bool (wkB (dirE (pairs xss)) ws)) ∧ Below w.heap.size w w' := by
  have hb1 : n1 ≤ 17592186044416 := by rw [← hl]; exact h1.1
  have hn10 : n ≤ 10 := by have := grB_iff hg; omega
  have HL := Lib.hid hl
  have HC := Lib.hid (h1.at hl)
  have HR := Lib.hid h
  have HSO := Lib.hid (fun W' (h' : RdR lo hi W' (.slice a n c) xss) => stepsOf s a n c xss W' h' hn hg)
  obtain ⟨ds, hds⟩ : ∃ ds, ds = dirE (pairs xss) := ⟨_, rfl⟩
  have HDL := Lib.hid (show ds.length = 2 * n by rw [hds, dirE_len, pairs_len, hn])
  rw [← hds] at HSO ⊢
  have HI64 := Lib.hid (fun j (hj : j < ws.length) => show I64 (ws.getD j 0) by
    rw [show ws.getD j 0 = ws[j] by simp [List.getD, List.getElem?_eq_getElem hj]]
    exact h1.2.1 _ (List.getElem_mem hj))
  clear hl h1 h hn hg hds
  by_cases hlen : 1 ≤ n1 ∧ n1 ≤ 12
  · obtain ⟨hz1, hz2⟩ := hlen
    have hz0 : 0 < n1 := by omega
    have hm2 : IntKind.i64.wrap (2 * (n : Int)) = 2 * (n : Int) := IntWalk.i64_in _ (by omega)
    have hm2' : wrap64 (2 * (n : Int)) = 2 * (n : Int) := IntWalk.wrap64_in _ (by omega)
    obtain ⟨b, off, rfl, g0⟩ := HC.out 0 hz0
    rw [Nat.add_zero] at g0
    obtain ⟨x, hx⟩ : ∃ x, x = ws.getD 0 0 := ⟨_, rfl⟩
    rw [← hx] at g0
    have HX := Lib.hid hx
    clear hx
    have hd1 : decide ((n1 : Int) < 1) = false := by simp; omega
    have hd2 : decide ((12 : Int) < (n1 : Int)) = false := by simp; omega
    go_enter Try.func164, Try.ntmps164
    go_wp2
    have hB := (Below.refl w.heap.size w).alloc (Nat.le_refl _) (.cells #[.int .i64 s, .slice a n c] 28)
    have k0 : (w.alloc (.cells #[.int .i64 s, .slice a n c] 28)).cell? ⟨w.heap.size, 0, none⟩ = some (.int .i64 s) := by go_simp
    have k1 : (w.alloc (.cells #[.int .i64 s, .slice a n c] 28)).cell? ⟨w.heap.size, 1, none⟩ = some (.slice a n c) := by go_simp
    replace g0 := hB.keep g0
    generalize w.alloc (.cells #[.int .i64 s, .slice a n c] 28) = W at hB k0 k1 g0 ⊢
    obtain ⟨B, hB0⟩ : ∃ B, B = w.heap.size := ⟨_, rfl⟩
    rw [← hB0] at k0 k1 ⊢
    have HB := Lib.hid hB
    clear hB hB0
    cases hr : inR x (2 * (n : Int)) with
    | false =>
      have HRX := Lib.hid hr
      have hrr : ¬ (0 ≤ x ∧ x < 2 * (n : Int)) := by unfold inR at hr; simpa using hr
      have hwb := wkB_out (ds := ds) (ws := ws) (i := 0) (by rw [HL.out]; exact hz0) (by rw [← HX.out, HDL.out]; exact hrr)
      have HW := Lib.hid hwb
      clear hr hrr hwb
      go_quiet ((go_at_call 67; exact Calls.quiet_of (isIndexV _ _ false HRX.out _)))
      go_wp2
      go_ret
      exact ⟨by rw [HW.out]; rfl, HB.out.drewN _⟩
    | true =>
      have HRX := Lib.hid hr
      have hrr : 0 ≤ x ∧ x < 2 * (n : Int) := by unfold inR at hr; simpa using hr
      have HXR := Lib.hid (show 0 ≤ ws.getD 0 0 ∧ ws.getD 0 0 < ds.length by rw [← HX.out, HDL.out]; omega)
      clear hr hrr
      go_quiet ((go_at_call 67; exact Calls.quiet_of (isIndexV _ _ true HRX.out _)))
      have HB2 := Lib.hid (HB.out.drewN nq)
      replace k0 : (W.drewN nq).cell? ⟨B, 0, none⟩ = some (.int .i64 s) := k0
      replace k1 : (W.drewN nq).cell? ⟨B, 1, none⟩ = some (.slice a n c) := k1
      clear g0
      generalize W.drewN nq = V at HB2 k0 k1 ⊢
      clear HB
      go_wp2_with fail
      refine (HSO.out V (HR.out.below HB2.out)).mono ?_
      rintro e w3 ⟨M, k, rfl, hM, b3⟩
      have HB3 := Lib.hid (HB2.out.next b3)
      clear k0 k1 b3 HB2 HSO
      have HM := Lib.hid hM
      have har := arrAtS
      have hc1 : (n1 : Int) ≤ (c1 : Int) := by omega
      clear hM
      have hsn1 : wrap64 ((n1 : Int) - 1) = (n1 : Int) - 1 := IntWalk.wrap64_in _ (by omega)
      have hsn2 : IntKind.i64.wrap ((n1 : Int) - 1) = (n1 : Int) - 1 := IntWalk.i64_in _ (by omega)
      go_wp2
      go_loopw [31] (fun i wr => ∃ q : Nat, q + 1 ≤ n1 ∧ i = .int .i64 q ∧ Hid (∀ j, j < q → stepQ ds (ws.getD j 0) (ws.getD (j+1) 0) = true) ∧ Qt w3 wr) (fun i _ => n1 - (intOf i).toNat)
      case atStart => exact ⟨0, by omega, rfl, Lib.hid (fun j hj => by omega), Qt.refl _⟩
      case round =>
        obtain ⟨q, hq, rfl, HQ, hqt⟩ := hrel
        clear hsn1 hsn2
        by_cases hlq : q + 1 < n1
        · obtain ⟨b1, off1, hbb, g0⟩ := HC.out q (by omega)
          obtain ⟨b2, off2, hbb2, g1⟩ := HC.out (q+1) hlq
          obtain ⟨rfl, rfl⟩ : b1 = b ∧ off1 = off := by simp at hbb; exact ⟨hbb.1.symm, hbb.2.symm⟩
          obtain ⟨rfl, rfl⟩ : b2 = b1 ∧ off2 = off1 := by simp at hbb2; exact ⟨hbb2.1.symm, hbb2.2.symm⟩
          replace g0 := (HB3.out.qt hqt).keep g0
          replace g1 := (HB3.out.qt hqt).keep g1
          have hx := fun (hv : stepQ ds (ws.getD q 0) (ws.getD (q+1) 0) = true) => stepQ_in hv
          have hI : I64 (ws.getD q 0) ∧ I64 (ws.getD (q+1) 0) := ⟨HI64.out q (by rw [HL.out]; omega), HI64.out (q+1) (by rw [HL.out]; exact hlq)⟩
          rw [← Nat.add_assoc] at g1
          have hlook := (HM.out.keep hqt.below).look (x := ws.getD q 0) (y := ws.getD (q+1) 0) hI.1 hI.2
          obtain ⟨v, hv⟩ : ∃ v, v = stepQ ds (ws.getD q 0) (ws.getD (q+1) 0) := ⟨_, rfl⟩
          rw [← hv] at hlook
          have HVO := Lib.hid hv
          clear hv hx hI hbb hbb2
          generalize ws.getD q 0 = y0 at g0 hlook
          generalize ws.getD (q+1) 0 = y1 at g1 hlook
          have hs1 : wrap64 ((q : Int) + 2) = (q : Int) + 2 := IntWalk.wrap64_in _ (by omega)
          have hs2 : IntKind.i64.wrap ((q : Int) + 2) = (q : Int) + 2 := IntWalk.i64_in _ (by omega)
          have hs3 : (q : Int) + 2 ≤ (c1 : Int) := by omega
          have hs4 : ((q : Int) + 2).toNat - q = 2 := by omega
          have hs5 : ((q : Int) + 2).toNat = q + 2 := by omega
          have hs6 : ((q : Int) + 2 - (q : Int)).toNat = 2 := by omega
          have hs7 : (0 : Int) ≤ (q : Int) + 2 := by omega
          have hs8 : (q : Int) ≤ (q : Int) + 2 := by omega
          have hlt1 : (q : Int) < (n1 : Int) - 1 := by omega
          cases v with
          | false =>
            have hwb := wkB_gap (ds := ds) (ws := ws) (i := q) (by rw [HL.out]; exact hlq) HVO.out.symm
            have HW := Lib.hid hwb
            clear hwb
            go_wp2
            go_ret
            exact ⟨by rw [HW.out]; rfl, HB3.out.qt hqt⟩
          | true =>
            have hall : Hid (∀ j, j < q + 1 → stepQ ds (ws.getD j 0) (ws.getD (j+1) 0) = true) := Lib.hid (fun j hj => by
              by_cases e : j < q
              · exact HQ.out j e
              · obtain rfl : j = q := by omega
                exact HVO.out.symm)
            go_wp2
            go_roundw
            case rel => exact ⟨q+1, by omega, by go_num, hall, hqt⟩
            case measure => simp [intOf]; omega
        · have hlt1 : ¬ (q : Int) < (n1 : Int) - 1 := by omega
          have hqn : n1 = q + 1 := by omega
          have hwb := wkB_good (ds := ds) (ws := ws) (by rw [HL.out]; exact hz1) (by rw [HL.out]; exact hz2) HXR.out (fun j hj => HQ.out j (by rw [HL.out] at hj; omega))
          have HW := Lib.hid hwb
          have HQN := Lib.hid hqn
          clear hwb hqn
          go_wp2
          go_ret
          exact ⟨by rw [HW.out]; rfl, HB3.out.qt hqt⟩
  · have hwb := wkB_len (ds := ds) (ws := ws) (by rw [HL.out]; exact hlen)
    have HW := Lib.hid hwb
    clear hwb
    by_cases hz : n1 < 1
    · obtain rfl : n1 = 0 := by omega
      go_enter Try.func164, Try.ntmps164
      go_wp2
      go_quiet (fail)
      go_wp2
      go_ret
      exact ⟨by rw [HW.out]; rfl, ((Below.refl _ _).alloc (Nat.le_refl _) _).drewN _⟩
    · have hz1 : 1 ≤ n1 := by omega
      have hz2 : 12 < n1 := by omega
      have hd1 : decide ((n1 : Int) < 1) = false := by simp; omega
      have hd2 : decide ((12 : Int) < (n1 : Int)) = true := by simp; omega
      go_enter Try.func164, Try.ntmps164
      go_wp2
      go_quiet (fail)
      go_wp2
      go_ret
      exact ⟨by rw [HW.out]; rfl, ((Below.refl _ _).alloc (Nat.le_refl _) _).drewN _⟩

end Go.Proofs.Ytebgbplhcaocoaa
