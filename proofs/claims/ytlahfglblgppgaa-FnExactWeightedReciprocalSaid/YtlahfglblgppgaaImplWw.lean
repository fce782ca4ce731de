/- WeightOfWalk of the program. -/
import Derived.Test.YtlahfglblgppgaaSpecWw
import Derived.Test.YtlahfglblgppgaaResid
import Derived.Deep.RegionWith
set_option linter.unusedSimpArgs false
set_option linter.unusedVariables false
set_option maxRecDepth 100000
namespace Go.Proofs.Ytlahfglblgppgaa
open Go.RowKit

theorem resIn (n p : Int) (w : World) (hn : 0 ≤ n ∧ n < p) (hp : 2 ≤ p ∧ p ≤ 10007) :
    Calls Try.prog 75 #[.int .i64 n, .int .i64 p] w fun e w' => e = .returned (.agg #[.int .i64 n, .int .i64 p]) ∧ Below w.heap.size w w' := by
  have := residueOf n p w (by omega) (by omega)
  rw [Int.emod_eq_of_lt hn.1 hn.2] at this
  exact this

theorem ww_close {w wr w5 : World} {R : Nat} {r p : Int} {u0 u1 : Value} (hB : Below w.heap.size w wr) (bw : Below wr.heap.size wr w5) (hR : w.heap.size ≤ R) (hz : R < wr.heap.size)
    (y0 : w5.cell? ⟨R, 0, none⟩ = some u0) (y1 : w5.cell? ⟨R, 1, none⟩ = some u1) (z0 : w5.frozen? ⟨R, 0, none⟩ = false) (z1 : w5.frozen? ⟨R, 1, none⟩ = false) :
    (R < ((w5.setCell ⟨R, 0, none⟩ (.int .i64 r)).setCell ⟨R, 1, none⟩ (.int .i64 p)).heap.size ∧
      ((w5.setCell ⟨R, 0, none⟩ (.int .i64 r)).setCell ⟨R, 1, none⟩ (.int .i64 p)).cell? ⟨R, 0, none⟩ = some (.int .i64 r) ∧ ((w5.setCell ⟨R, 0, none⟩ (.int .i64 r)).setCell ⟨R, 1, none⟩ (.int .i64 p)).cell? ⟨R, 1, none⟩ = some (.int .i64 p) ∧
      ((w5.setCell ⟨R, 0, none⟩ (.int .i64 r)).setCell ⟨R, 1, none⟩ (.int .i64 p)).frozen? ⟨R, 0, none⟩ = false ∧ ((w5.setCell ⟨R, 0, none⟩ (.int .i64 r)).setCell ⟨R, 1, none⟩ (.int .i64 p)).frozen? ⟨R, 1, none⟩ = false) ∧
    Below w.heap.size w ((w5.setCell ⟨R, 0, none⟩ (.int .i64 r)).setCell ⟨R, 1, none⟩ (.int .i64 p)) := by
  have hs := bw.size
  refine ⟨⟨by simp [World.setCell]; omega, ?_, ?_, ?_, ?_⟩, ((hB.next bw).setCell hR _).setCell hR _⟩
  · rw [World.cell?_setCell_other _ _ _ _ (by simp), World.cell?_setCell_same _ _ _ y0]
  · rw [World.cell?_setCell_same _ _ _ (by rw [World.cell?_setCell_other _ _ _ _ (by simp)]; exact y1)]
  · rw [World.frozen?_setCell, World.frozen?_setCell]; exact z0
  · rw [World.frozen?_setCell, World.frozen?_setCell]; exact z1

set_option maxHeartbeats 3200000 in
theorem implWw {lo hi lo1 hi1 lo2 hi2 : Nat} (p s : Int) (a : Option Addr) (n c : Nat) (xss : List (List Int)) (a1 : Option Addr) (n1 c1 : Nat) (vs : List Int) (a2 : Option Addr) (n2 c2 : Nat) (ws : List Int) (w : World) (h : RdR lo hi w (.slice a n c) xss) (hn : xss.length = n) (h1 : RdI lo1 hi1 w (.slice a1 n1 c1) vs) (hl : vs.length = n1) (h2 : RdI lo2 hi2 w (.slice a2 n2 c2) ws) (hl2 : ws.length = n2) :
    Calls Try.prog 30 #[.int .i64 p, .agg #[.int .i64 s, .slice a n c], .slice a1 n1 c1, .slice a2 n2 c2] w fun e w' => e = .returned (.tuple #[.int .i64 (wwOf p s xss vs ws).1, .int .i64 (wwOf p s xss vs ws).2]) ∧ Below w.heap.size w w' := by
  have hb0 : ∀ o, Below w.heap.size w (w.alloc o) := fun o => (Below.refl _ _).alloc (Nat.le_refl _) o
  have hlen2 := h2.1
  rw [hl2] at hlen2
  have HN := Lib.hid hn
  have HL := Lib.hid hl
  have HL2 := Lib.hid hl2
  have HR := Lib.hid h
  have H1 := Lib.hid h1
  have H2 := Lib.hid h2
  obtain ⟨P, hP⟩ : ∃ P, P = wwOf p s xss vs ws := ⟨_, rfl⟩
  rw [← hP]
  unfold wwOf at hP
  rw [hn] at hP
  have HP := Lib.hid hP
  have HOK := Lib.hid (fun h => wtCode_ok (p := p) (s := s) (xss := xss) (vs := vs) h)
  clear hn h hP hl h1 h2 hl2
  go_enter Try.func30, Try.ntmps30
  go_wp2_with fail
  refine calls_gen (fun W => Below w.heap.size w W ∧ W.cell? ⟨w.heap.size, 0, none⟩ = some (.int .i64 s) ∧ W.cell? ⟨w.heap.size, 1, none⟩ = some (.slice a n c)) ⟨hb0 _, by go_simp, by go_simp⟩ ?_
  rintro W ⟨hB, k0, k1⟩
  refine (checkWeights p s a n c xss a1 n1 c1 vs W (HR.out.below hB) HN.out (H1.out.below hB) HL.out).mono ?_
  rintro e w1 ⟨rfl, b1⟩
  replace k0 := b1.keep k0
  replace k1 := b1.keep k1
  replace hB := hB.next b1
  clear b1
  generalize wtCode p s xss vs = cd at HP HOK ⊢
  by_cases hc : cd = 0
  case neg =>
    have hP := HP.out
    rw [if_neg hc] at hP
    have hcb : (cd != 0) = true := by simpa using hc
    subst hP
    clear HP HOK hc k0 k1
    go_wp2
    refine bodyPost_ret (v := .tuple #[.int .i64 0, .int .i64 cd]) (by simp [results, Try.results30, go_sem]) rfl ⟨rfl, hB⟩
  have hP := HP.out
  rw [if_pos hc] at hP
  obtain ⟨hg, hp, hwt⟩ := HOK.out hc
  have hp2 := primeB_hd hp
  have hn10 : n ≤ 10 := by have := grB_iff hg; have := HN.out; omega
  have HPP := Lib.hid hP
  have HWT := Lib.hid (weightsB_of hwt)
  subst hc
  clear HP HOK hP hg hp hwt
  cases hw : walkB n ws with
  | false =>
    have HWB := Lib.hid hw
    have hP := HPP.out
    rw [hw, if_neg (by simp)] at hP
    subst hP
    clear hw HPP
    go_wp2_with (go_at_call 70; refine (isWalkList s a n c a2 n2 c2 ws _ (H2.out.below hB) HL2.out hn10 hlen2).mono ?_; rw [HWB.out]; rintro e w2 ⟨rfl, b2⟩; replace hB := hB.next b2)
    refine bodyPost_ret (v := .tuple #[.int .i64 0, .int .i64 2]) (by simp [results, Try.results30, go_sem]) rfl ⟨rfl, hB⟩
  | true =>
  have HWB := Lib.hid hw
  have hP := HPP.out
  rw [hw, if_pos rfl, HL2.out] at hP
  have HPQ := Lib.hid hP
  have hwo := walkB_of hw
  have hn20 : n2 ≤ 20 := by have := HL2.out; omega
  have HIN := Lib.hid (fun j (hj : j < n2) => show 0 ≤ ws.getD j 0 ∧ (ws.getD j 0).toNat < n1 by
    have h1 := hwo.2 j (by rw [HL2.out]; exact hj)
    have h2 := HWT.out.1
    rw [HL.out, HN.out] at h2
    unfold inR at h1
    simp at h1
    simp only [List.getD] at h1 ⊢
    omega)
  have HVI := Lib.hid (fun j (hj : j < n1) => show 0 ≤ vs.getD j 0 ∧ vs.getD j 0 < p by
    have h1 := HWT.out.2 j (by rw [HL.out]; exact hj)
    unfold inR at h1
    simpa using h1)
  clear hw HPP hP hwo
  go_wp2_with (first | (go_at_call 70; refine (isWalkList s a n c a2 n2 c2 ws _ (H2.out.below hB) HL2.out hn10 hlen2).mono ?_; rw [HWB.out]; rintro e w2 ⟨rfl, b2⟩; replace hB := hB.next b2; clear b2) | fail)
  refine (resIn 1 p w2 (by omega) hp2).mono ?_
  rintro e w3 ⟨rfl, b3⟩
  replace hB := hB.next b3
  clear k0 k1 b3
  have hA : Below w3.heap.size w3 (w3.alloc (.cells #[.int .i64 1, .int .i64 p] 77)) := (Below.refl _ _).alloc (Nat.le_refl _) _
  have HBB := Lib.hid (hB.next hA)
  have HF : Hid (w3.heap.size < (w3.alloc (.cells #[.int .i64 1, .int .i64 p] 77)).heap.size ∧ (w3.alloc (.cells #[.int .i64 1, .int .i64 p] 77)).cell? ⟨w3.heap.size, 0, none⟩ = some (.int .i64 1) ∧ (w3.alloc (.cells #[.int .i64 1, .int .i64 p] 77)).cell? ⟨w3.heap.size, 1, none⟩ = some (.int .i64 p) ∧ (w3.alloc (.cells #[.int .i64 1, .int .i64 p] 77)).frozen? ⟨w3.heap.size, 0, none⟩ = false ∧ (w3.alloc (.cells #[.int .i64 1, .int .i64 p] 77)).frozen? ⟨w3.heap.size, 1, none⟩ = false) := Lib.hid ⟨by simp, by go_simp, by go_simp, by go_simp, by go_simp⟩
  have hRw : w.heap.size ≤ w3.heap.size := hB.size
  clear hA
  have HC := Lib.hid (fun W (hb : Below w.heap.size w W) => (H2.out.below hb).at HL2.out)
  have HD := Lib.hid (fun W (hb : Below w.heap.size w W) => (H1.out.below hb).at HL.out)
  clear hB
  have HPI := Lib.hid (fun k => prodW_in (p := p) (vs := vs) (ws := ws) hp2.1 k)
  go_wp2
  generalize w3.alloc (.cells #[.int .i64 1, .int .i64 p] 77) = V0 at *
  generalize w3.heap.size = R at *
  go_loopw [29] (fun i wr => ∃ q : Nat, q ≤ n2 ∧ i = .int .i64 q ∧ (R < wr.heap.size ∧ wr.cell? ⟨R, 0, none⟩ = some (.int .i64 (prodW p vs ws q)) ∧ wr.cell? ⟨R, 1, none⟩ = some (.int .i64 p) ∧ wr.frozen? ⟨R, 0, none⟩ = false ∧ wr.frozen? ⟨R, 1, none⟩ = false) ∧ Below w.heap.size w wr) (fun i _ => n2 - (intOf i).toNat)
  case atStart => exact ⟨0, Nat.zero_le _, rfl, HF.out, HBB.out⟩
  case round =>
    clear HF HBB
    obtain ⟨q, hq, rfl, ⟨hz, c0, c1, f0, f1⟩, hB⟩ := hrel
    by_cases hlq : q < n2
    · obtain ⟨b, off, rfl, g0⟩ := HC.out wr hB q hlq
      obtain ⟨hx0, hx1⟩ := HIN.out q hlq
      have hst : prodW p vs ws (q + 1) = prodW p vs ws q * vs.getD (ws.getD q 0).toNat 0 % p := rfl
      obtain ⟨x, hx⟩ : ∃ x, x = (ws.getD q 0).toNat := ⟨_, rfl⟩
      have hxe : ws.getD q 0 = (x : Int) := by omega
      rw [← hx] at hst hx1
      rw [hxe] at g0
      obtain ⟨b', off', rfl, g1⟩ := HD.out wr hB x hx1
      obtain ⟨hy0, hy1⟩ := HVI.out x hx1
      obtain ⟨hp0, hp1⟩ := HPI.out q
      generalize vs.getD x 0 = y at g1 hy0 hy1 hst
      generalize prodW p vs ws q = P0 at hp0 hp1 hst c0
      have HST := Lib.hid hst
      have hxn : (x : Int) < (n1 : Int) := by omega
      have hxz : (0 : Int) ≤ (x : Int) := by omega
      have HB := Lib.hid hB
      have HZ := Lib.hid hz
      have h0 := (Qt.refl wr).drew.below.keep g0
      have h1 := (Qt.refl wr).drew.below.keep g1
      have d0 := (Qt.refl wr).drew.below.keep c0
      have d1 := (Qt.refl wr).drew.below.keep c1
      clear hx hxe hst hx0 hB hz
      go_wp2
      go_region_with (first
        | (go_at_call 75; refine (resIn y p _ ⟨hy0, hy1⟩ hp2).mono ?_; rintro e w4 ⟨rfl, b4⟩; have i0 := b4.keep d0; have i1 := b4.keep d1)
        | (go_at_call 76; refine (resTimes P0 y p _ (by omega) (by omega) (by omega)).mono ?_; rintro e w5 ⟨rfl, b5⟩; have y0 := b5.keep i0; have y1 := b5.keep i1; have z0 := b5.keepf (show R < w4.heap.size from Nat.lt_of_lt_of_le HZ.out b4.size) (b4.keepf (show R < wr.heap.size from HZ.out) f0); have z1 := b5.keepf (show R < w4.heap.size from Nat.lt_of_lt_of_le HZ.out b4.size) (b4.keepf (show R < wr.heap.size from HZ.out) f1); clear i0 i1))
      all_goals
        have bw : Below wr.heap.size wr w5 := (((Qt.refl wr).drew).below.next b4).next b5
        have HF := Lib.hid (ww_close (r := P0 * y % p) (p := p) HB.out bw hRw HZ.out y0 y1 z0 z1)
        clear bw y0 y1 z0 z1 b4 b5 g0 g1 h0 h1 d0 d1 c0 c1 f0 f1
        rw [← HST.out] at HF ⊢
        go_wp2
        go_roundw
        case rel => exact ⟨q+1, by omega, by go_num, HF.out⟩
        case measure => simp [intOf]; omega
    · obtain rfl : q = n2 := by omega
      have HPF := HPQ
      have HB := Lib.hid hB
      clear HPI hB f0 f1
      go_wp2
      refine bodyPost_ret (v := .tuple #[.int .i64 (prodW p vs ws q), .int .i64 0]) (by simp [results, Try.results30, go_sem]) rfl ⟨by rw [HPF.out], HB.out⟩

end Go.Proofs.Ytlahfglblgppgaa
