/- WalkMatrix of the program. -/
import Derived.Test.YtgcidkcedfliiaaSpecWM
import Derived.Test.YtgcidkcedfliiaaClNum
import Derived.Test.YtgcidkcedfliiaaDirL
set_option linter.unusedSimpArgs false
set_option linter.unusedVariables false
namespace Go.Proofs.Ytgcidkcedfliiaa
open Go.RowKit

theorem RdE.chg {lo hi : Nat} {w w' : World} {a : Option Addr} {es : List (Int × Int)} (h : RdE w a es) (hb : Chg lo hi w w') (ho : ∀ b, a = some ⟨b, 0, none⟩ → b < lo ∨ hi ≤ b) : RdE w' a es := fun j hj => by
  obtain ⟨b, h1, h2, h3, h4⟩ := h j hj
  exact ⟨b, h1, Nat.lt_of_lt_of_le h2 hb.size, hb.cell h3 (ho b h1), hb.cell h4 (ho b h1)⟩

set_option maxRecDepth 100000 in
set_option maxHeartbeats 6400000 in
theorem implWM_yes {lo hi : Nat} (S : Nat) (a : Option Addr) (n c : Nat) (xss : List (List Int)) (kk : Nat) (w : World) (h : RdR lo hi w (.slice a n c) xss) (hn : xss.length = n) (hg : grB (S : Int) xss = true) (hk12 : kk ≤ 12) :
    Calls Try.prog 53 #[.agg #[.int .i64 (S : Int), .slice a n c], .int .i64 kk] w fun e w' => ∃ a' c', e = .returned (.tuple #[.slice a' S c', .int .i64 0]) ∧ OwR w.heap.size w'.heap.size w' (.slice a' S c') (wmRes S kk (2 * n) (dirE (pairs xss))) ∧ Below w.heap.size w w' := by
  have hg4 := grB_iff hg
  have hn10 : n ≤ 10 := by omega
  have hS8 : S ≤ 8 := by omega
  have HR := Lib.hid h
  have hlc : ccode (S : Int) xss (kk : Int) 0 12 = 0 := by unfold ccode; rw [if_pos hg, if_pos (by omega)]
  have hLE := @checkLength lo hi (S : Int) a n c xss (kk : Int) 0
  rw [hlc] at hLE
  have HLE := Lib.hid (fun W' (h' : RdR lo hi W' (.slice a n c) xss) => hLE W' h' hn)
  have HMX := Lib.hid (fun W' (h' : RdR lo hi W' (.slice a n c) xss) => edgeRows (S : Int) a n c xss W' h' hn hg)
  have HDR := Lib.hid (fun W' (h' : RdR lo hi W' (.slice a n c) xss) => directedOfL (S : Int) a n c xss W' h' hn hg)
  have HDI := Lib.hid (fun m (hm : m < (dirE (pairs xss)).length) => dirE_in hg hm)
  have hdl : (dirE (pairs xss)).length = 2 * n := by rw [dirE_len, pairs_len, hn]
  generalize dirE (pairs xss) = ds at HMX HDR HDI hdl ⊢
  obtain ⟨N, hN⟩ : ∃ N, N = 2 * n := ⟨_, rfl⟩
  rw [← hN] at HMX HDR hdl ⊢
  have HDL := Lib.hid hdl
  have hN20 : N ≤ 20 := by omega
  obtain ⟨M, hM⟩ : ∃ M, M = edgeM ds := ⟨_, rfl⟩
  have HMM := Lib.hid hM
  rw [← hM] at HMX
  clear h hn hg hg4 hlc hLE hdl hN hM
  go_enter Try.func53, Try.ntmps53
  go_wp2_with fail
  refine calls_gen (fun W => Below w.heap.size w W ∧ w.heap.size < W.heap.size ∧ W.cell? ⟨w.heap.size, 0, none⟩ = some (.int .i64 (S : Int)) ∧ W.cell? ⟨w.heap.size, 1, none⟩ = some (.slice a n c)) ⟨(Below.refl _ _).alloc (Nat.le_refl _) _, by simp, by go_simp, by go_simp⟩ ?_
  rintro W ⟨hB, hzz, k0, k1⟩
  refine (HLE.out W (HR.out.below hB)).mono ?_
  rintro e w1 ⟨rfl, b1⟩
  replace hB := hB.next b1
  replace k0 := b1.keep k0
  replace k1 := b1.keep k1
  replace hzz := Nat.lt_of_lt_of_le hzz b1.size
  clear b1 HLE
  by_cases hk0 : kk = 0
  · have hkb : ((kk : Int) == 0) = true := by simp [hk0]
    have hkb2 : (kk == 0) = true := by simp [hk0]
    have hkb3 : decide (kk = 0) = true := by simp [hk0]
    have hkb4 : decide ((kk : Int) = 0) = true := by simp [hk0]
    have hun := unitRows S w1 (by omega) (.inr (by omega))
    have HK0 := Lib.hid hk0
    clear hk0
    go_wp2_with fail
    refine hun.mono ?_
    clear hun
    rintro e w2 ⟨a', c', rfl, o2, b2⟩
    have HF := Lib.hid (⟨o2.mono hB.size (Nat.le_refl _), hB.next b2⟩ : _ ∧ _)
    clear o2 b2 hB k0 k1
    go_wp2
    go_ret2
    refine ⟨a', c', rfl, ?_, HF.out.2⟩
    unfold wmRes
    rw [if_pos HK0.out]
    exact HF.out.1
  · have hkb : ((kk : Int) == 0) = false := by simpa using hk0
    have hkb2 : (kk == 0) = false := by simpa using hk0
    have hkb3 : decide (kk = 0) = false := by simpa using hk0
    have hkb4 : decide ((kk : Int) = 0) = false := by simpa using hk0
    have hmx := HMX.out w1 (HR.out.below hB)
    have HK0 := Lib.hid hk0
    obtain ⟨r, hr⟩ : ∃ r, r = kk - 1 := ⟨_, rfl⟩
    have HRK := Lib.hid (show kk = r + 1 by omega)
    have hrk : r + 1 = kk := by omega
    have hr11 : r ≤ 11 := by omega
    have hri : (kk : Int) - 1 = (r : Int) := by omega
    obtain ⟨B, hB0⟩ : ∃ B, B = w.heap.size := ⟨_, rfl⟩
    rw [← hB0] at k0 k1 hzz hB ⊢
    have HB0 := Lib.hid hB0
    clear hk0 hr HMX hB0
    go_wp2_with fail
    refine hmx.mono ?_
    clear hmx
    rintro e w2 ⟨a5, c5, rfl, o2, b2⟩
    have hRM := o2.rd
    have hz2 : B < w2.heap.size := Nat.lt_of_lt_of_le hzz b2.size
    have hL1 : w1.heap.size ≤ w2.heap.size := b2.size
    replace hB := hB.trans (b2.mono (by omega))
    replace k0 := b2.keep k0
    replace k1 := b2.keep k1
    have hun := unitRows N w2 (by omega) (.inr (by omega))
    have HB := Lib.hid (⟨hRM, hB, k0, k1⟩ : _ ∧ _ ∧ _ ∧ _)
    clear o2 b2 hRM hB k0 k1
    go_wp2_with fail
    refine hun.mono ?_
    clear hun
    rintro e w3 ⟨a7, c7, rfl, o3, b3⟩
    obtain ⟨hRM, hB, k0, k1⟩ := HB.out
    have HP0 := Lib.hid (⟨o3.rd, hRM.below b3, hB.trans (b3.mono (by omega)), b3.keep k0, b3.keep k1, Nat.lt_of_lt_of_le hz2 b3.size⟩ : _ ∧ _ ∧ _ ∧ _ ∧ _ ∧ _)
    clear hRM hB k0 k1 o3 b3 HB
    have v1 : IntKind.i64.wrap ((kk : Int) - 1) = (r : Int) := by rw [hri]; exact IntWalk.i64_in _ (by omega)
    have v2 : wrap64 ((kk : Int) - 1) = (r : Int) := by rw [hri]; exact IntWalk.wrap64_in _ (by clear v1; omega)
    clear hri
    go_wp2
    clear v1 v2
    go_loopw [33, 8] (fun y p wr => ∃ (q lo1 hi1 : Nat) (a7 : Option Addr) (c7 : Nat), q ≤ r ∧ y = .int .i64 q ∧ p = .slice a7 N c7 ∧ RdR lo1 hi1 wr (.slice a7 N c7) (tab N (pwW N M q)) ∧ RdR w1.heap.size w2.heap.size wr (.slice a5 N c5) (tab N M) ∧ Below B w wr ∧ wr.cell? ⟨B, 0, none⟩ = some (.int .i64 (S : Int)) ∧ wr.cell? ⟨B, 1, none⟩ = some (.slice a n c) ∧ B < wr.heap.size ∧ hi1 ≤ wr.heap.size) (fun y _ _ => r - (intOf y).toNat)
    case atStart => exact ⟨0, _, _, a7, c7, Nat.zero_le _, rfl, rfl, HP0.out.1, HP0.out.2.1, HP0.out.2.2.1, HP0.out.2.2.2.1, HP0.out.2.2.2.2.1, HP0.out.2.2.2.2.2, Nat.le_refl _⟩
    case round =>
      clear HP0
      obtain ⟨q, lo1, hi1, a7, c7, hq, rfl, rfl, hPW, hMR, hB, k0, k1, hz3, hh3⟩ := hrel
      by_cases hlq : q < r
      · have hpr := productOfRows a7 N c7 a5 c5 (pwW N M q) M wr (by omega) hPW hMR
        have HU := Lib.hid (⟨hMR, hB, k0, k1⟩ : _ ∧ _ ∧ _ ∧ _)
        clear hPW hMR hB k0 k1
        go_wp2_with fail
        refine hpr.mono ?_
        clear hpr
        rintro e w4 ⟨a8, c8, rfl, o4, b4⟩
        obtain ⟨hMR, hB, k0, k1⟩ := HU.out
        have HF := Lib.hid (⟨o4.rd, hMR.below b4, hB.trans (b4.mono (by omega)), b4.keep k0, b4.keep k1, Nat.lt_of_lt_of_le hz3 b4.size, Nat.le_refl _⟩ : RdR wr.heap.size w4.heap.size w4 (.slice a8 N c8) (tab N (pwW N M (q + 1))) ∧ _ ∧ _ ∧ _ ∧ _ ∧ _ ∧ w4.heap.size ≤ w4.heap.size)
        clear hMR hB k0 k1 o4 b4 HU
        go_wp2
        go_roundw
        case rel => exact ⟨q+1, _, _, a8, c8, by omega, by go_num, rfl, HF.out⟩
        case measure => simp [intOf]; omega
      · obtain rfl : q = r := by omega
        have hzr := zeroRows S wr (by omega) (.inr (by omega))
        have HU := Lib.hid (⟨hPW, hB, k0, k1⟩ : _ ∧ _ ∧ _ ∧ _)
        have hSi : (0 : Int) ≤ (S : Int) := by omega
        clear hPW hMR hB k1
        go_wp2_with fail
        refine hzr.mono ?_
        clear hzr k0
        rintro e w4 ⟨v, rfl, o4, b4⟩
        obtain ⟨a9, c9, rfl⟩ := o4.rd.shape
        rw [tab_len] at o4 ⊢
        obtain ⟨hPW, hB, k0, k1⟩ := HU.out
        obtain ⟨L, hL⟩ : ∃ L, L = wr.heap.size := ⟨_, rfl⟩
        have hBL : B < L := by omega
        have hhL : hi1 ≤ L := by omega
        replace hPW := hPW.below b4
        replace hB := hB.trans (b4.mono (by omega))
        replace k0 := b4.keep k0
        replace k1 := b4.keep k1
        have hL4 : L ≤ w4.heap.size := by rw [hL]; exact b4.size
        rw [← hL] at o4
        have hdr := HDR.out w4 (HR.out.below (by rw [HB0.out] at hB; exact hB))
        have HU2 := Lib.hid (⟨o4, hPW, hB, k0, k1⟩ : _ ∧ _ ∧ _ ∧ _ ∧ _)
        clear hPW hB k1 k0 o4 b4 HU hL hz3 hh3
        have k0 := HU2.out.2.2.2.1
        have k1 := HU2.out.2.2.2.2
        go_wp2_with fail
        refine hdr.mono ?_
        clear hdr k0 k1
        rintro e w5 ⟨a10, c10, rfl, hRE, b5, hlo10⟩
        obtain ⟨o4, hPW, hB, _, _⟩ := HU2.out
        have hP0 : OwR L w4.heap.size w5 (.slice a9 S c9) (tab S (wmO (pwW N M q) ds N 0)) := o4.below b5
        have HLO := Lib.hid hlo10
        have HP0 := Lib.hid (⟨hP0, hPW.below b5, hRE, hB.trans (b5.mono (by omega)), b5.size⟩ : _ ∧ _ ∧ _ ∧ _ ∧ _)
        obtain ⟨H1, hH1⟩ : ∃ H, H = w4.heap.size := ⟨_, rfl⟩
        rw [← hH1] at HP0 HLO hL4
        clear hlo10 hRE o4 hPW hB hP0 b5 HU2 hH1
        obtain ⟨P, hP⟩ : ∃ P, P = pwW N M q := ⟨_, rfl⟩
        have HPP := Lib.hid hP
        rw [← hP] at HP0
        clear hP
        go_wp2
        go_loopw [46] (fun y wr => ∃ f : Nat, f ≤ N ∧ y = .int .i64 f ∧ OwR L H1 wr (.slice a9 S c9) (tab S (wmO P ds N f)) ∧ RdR lo1 hi1 wr (.slice a7 N c7) (tab N P) ∧ RdE wr a10 ds ∧ Below B w wr ∧ H1 ≤ wr.heap.size) (fun y _ => N - (intOf y).toNat)
        case atStart => exact ⟨0, Nat.zero_le _, rfl, HP0.out⟩
        case round =>
          rename_i hrel
          clear HP0
          obtain ⟨f, hf, rfl, hO, hPW, hRE, hB, hHz⟩ := hrel
          by_cases hlf : f < N
          · obtain ⟨hd1, _⟩ := HDI.out f (by rw [HDL.out]; exact hlf)
            have hwo : wmO P ds N (f + 1) = wmI P ds f (wmO P ds N f) N := rfl
            have hwi : ∀ q, wmI P ds f (wmO P ds N f) (q + 1) = put (wmI P ds f (wmO P ds N f) q) (ds.getD f (0, 0)).1.toNat (ds.getD q (0, 0)).2.toNat (wrap64 (wmI P ds f (wmO P ds N f) q (ds.getD f (0, 0)).1.toNat (ds.getD q (0, 0)).2.toNat + P f q)) := fun q => rfl
            have hw0 : wmI P ds f (wmO P ds N f) 0 = wmO P ds N f := rfl
            generalize hF0 : wmI P ds f (wmO P ds N f) = F at hwo hwi hw0
            rw [← hw0] at hO
            obtain ⟨d, rfl, hdw, x1, x2⟩ := hRE f (by rw [HDL.out]; exact hlf)
            obtain ⟨st, hst⟩ : ∃ st : Nat, (ds.getD f (0, 0)).1 = (st : Int) := ⟨(ds.getD f (0, 0)).1.toNat, by omega⟩
            rw [hst] at hwi hd1 x1
            rw [Int.toNat_natCast] at hwi
            have hsl : st < S := by omega
            generalize (ds.getD f (0, 0)).2 = e1 at x2
            have HWI := Lib.hid hwi
            have HWO := Lib.hid hwo
            have HO := Lib.hid (⟨hO, hPW, hRE, hB, hHz⟩ : _ ∧ _ ∧ _ ∧ _ ∧ _)
            clear hwo hwi hw0 hst hd1 hF0 hO hPW hRE hB
            go_wp2
            have hA := (Below.refl wr.heap.size wr).alloc (Nat.le_refl _) (.cells #[.int .i64 (st : Int), .int .i64 e1] 64)
            have u0 : (wr.alloc (.cells #[.int .i64 (st : Int), .int .i64 e1] 64)).cell? ⟨wr.heap.size, 0, none⟩ = some (.int .i64 (st : Int)) := by go_simp
            obtain ⟨hO, hPW, hRE, hB, _⟩ := HO.out
            obtain ⟨X, hX⟩ : ∃ X, X = wr.heap.size := ⟨_, rfl⟩
            have hXH : H1 ≤ X := by omega
            rw [← hX] at u0 ⊢
            have HW := Lib.hid (⟨hO.below hA, hPW.below hA, hRE.below hA, hB.trans (hA.mono (by omega)), Nat.le_trans hHz hA.size, u0⟩ : _ ∧ _ ∧ _ ∧ _ ∧ _ ∧ _)
            generalize wr.alloc (.cells #[.int .i64 (st : Int), .int .i64 e1] 64) = V at HW ⊢
            clear hA u0 hO hPW hRE hB HO x1 x2 hX hdw hHz
            go_wp2
            go_loopw [53] (fun y wr' => ∃ q' : Nat, q' ≤ N ∧ y = .int .i64 q' ∧ OwR L H1 wr' (.slice a9 S c9) (tab S (F q')) ∧ RdR lo1 hi1 wr' (.slice a7 N c7) (tab N P) ∧ RdE wr' (some ⟨d, 0, none⟩) ds ∧ Below B w wr' ∧ H1 ≤ wr'.heap.size ∧ wr'.cell? ⟨X, 0, none⟩ = some (.int .i64 (st : Int))) (fun y _ => N - (intOf y).toNat)
            case atStart => exact ⟨0, Nat.zero_le _, rfl, HW.out⟩
            case round =>
              rename_i hrel
              clear HW
              obtain ⟨q', hq', rfl, hO, hPW, hRE, hB, hHz, u0⟩ := hrel
              by_cases hlq : q' < N
              · obtain ⟨_, hd2⟩ := HDI.out q' (by rw [HDL.out]; exact hlq)
                have hwi := HWI.out q'
                obtain ⟨d', hdd, hdw, x1, x2⟩ := hRE q' (by rw [HDL.out]; exact hlq)
                obtain rfl : d = d' := by simpa using hdd
                obtain ⟨en, hen⟩ : ∃ en : Nat, (ds.getD q' (0, 0)).2 = (en : Int) := ⟨(ds.getD q' (0, 0)).2.toNat, by omega⟩
                rw [hen] at hwi hd2 x2
                rw [Int.toNat_natCast] at hwi
                have hel : en < S := by omega
                generalize (ds.getD q' (0, 0)).1 = e0 at x1
                have HWQ := Lib.hid hwi
                have hA := (Below.refl wr.heap.size wr).alloc (Nat.le_refl _) (.cells #[.int .i64 e0, .int .i64 (en : Int)] 64)
                have u1 : (wr.alloc (.cells #[.int .i64 e0, .int .i64 (en : Int)] 64)).cell? ⟨wr.heap.size, 1, none⟩ = some (.int .i64 (en : Int)) := by go_simp
                have HO := Lib.hid (⟨hO.below hA, hPW.below hA, hRE.below hA, hB.trans (hA.mono (by omega)), Nat.le_trans hHz hA.size, hA.keep u0, u1⟩ : _ ∧ _ ∧ _ ∧ _ ∧ _ ∧ _ ∧ _)
                clear hwi hd2 hen hO hPW hB hRE u0 u1 hA hdd hdw
                go_wp2
                obtain ⟨hO, hPW, hRE, hB, hHz2, u0, u1⟩ := HO.out
                generalize wr.alloc (.cells #[.int .i64 e0, .int .i64 (en : Int)] 64) = Y at hO hPW hRE hB hHz2 u0 u1 ⊢
                generalize wr.heap.size = X2 at u1 ⊢
                obtain ⟨ba, oa, bA, oA, cA, rfl, a1, a2⟩ := hPW.ent (i := f) (j := q') hlf hlq
                obtain ⟨g, b, cb, rfl, h1, h2, h3, h4, h5, h6, h7, h8⟩ := (hO.qt ((Qt.refl Y).drew)).ent2 hsl hel
                have hst2 := HWQ.out
                generalize F q' st en = dd at h2 hst2
                generalize P f q' = x at a2 hst2
                obtain ⟨t, ht⟩ : ∃ t, t = wrap64 (dd + x) := ⟨_, rfl⟩
                rw [← ht] at hst2
                have hfin := h8 t (by rw [ht]; exact wrap_I64 _)
                rw [← hst2] at hfin
                have t1 : IntKind.i64.wrap (dd + x) = t := by rw [IntWalk.i64_left, ht]
                have t2 : wrap64 (dd + x) = t := ht.symm
                have hch : Chg b (b + 1) Y.drew (Y.drew.setCell ⟨b, en, none⟩ (.int .i64 t)) := (Chg.refl b (b + 1) Y.drew).setCell (p := ⟨b, en, none⟩) ⟨Nat.le_refl _, Nat.lt_succ_self _⟩ _
                have hdlo : H1 ≤ d := HLO.out d rfl
                have HF := Lib.hid (⟨hfin, (hPW.qt ((Qt.refl Y).drew)).chg hch (.inl (by omega)), RdE.chg (show RdE Y.drew (some ⟨d, 0, none⟩) ds from hRE) hch (fun b' e => by have e2 : d = b' := (by simpa using e); omega), hB.drew.setCell (p := ⟨b, en, none⟩) (by show B ≤ b; omega) _, by rw [World.size_setCell]; exact hHz2, hch.cell (show Y.drew.cell? ⟨X, 0, none⟩ = _ from u0) (by show X < b ∨ b + 1 ≤ X; omega)⟩ : _ ∧ _ ∧ _ ∧ Below B w (Y.drew.setCell ⟨b, en, none⟩ (.int .i64 t)) ∧ H1 ≤ (Y.drew.setCell ⟨b, en, none⟩ (.int .i64 t)).heap.size ∧ _)
                have g1' : Y.cell? ⟨g, st, none⟩ = some (.slice (some ⟨b, 0, none⟩) S cb) := h1
                have g2' : Y.cell? ⟨b, en, none⟩ = some (.int .i64 dd) := h2
                have hi0 : (0 : Int) ≤ (st : Int) := by omega
                have hi1 : (st : Int) < (S : Int) := by omega
                have hi2 : (0 : Int) ≤ (en : Int) := by omega
                have hi3 : (en : Int) < (S : Int) := by omega
                clear ht hst2 hfin hch hO hPW hRE hB HO h8 hdlo x1 x2
                go_still_tail 18, (by kernel_rfl)
                change wpList _ _ _ _ _ Y.drew
                clear g1' g2' a1 a2 t1 t2 u0 u1
                generalize Y.drew = Z at HF h1 h2 h3 ⊢
                go_wp2
                go_roundw
                case rel => exact ⟨q'+1, by omega, by go_num, HF.out⟩
                case measure => simp [intOf]; omega
              · obtain rfl : q' = N := by omega
                rw [← HWO.out] at hO
                have HF := Lib.hid (⟨hO, hPW, hRE, hB, hHz⟩ : _ ∧ _ ∧ _ ∧ _ ∧ _)
                clear hO hPW hRE hB u0
                go_wp2
                go_roundw
                case rel => exact ⟨f+1, by omega, by go_num, HF.out⟩
                case measure => simp [intOf]; omega
          · obtain rfl : f = N := by omega
            have hlw : w.heap.size ≤ L := by rw [← HB0.out]; omega
            rw [HB0.out] at hB
            have HF := Lib.hid (⟨hO.mono hlw hHz, hB⟩ : OwR w.heap.size wr.heap.size wr (.slice a9 S c9) (tab S (wmO P ds f f)) ∧ _)
            have hpz : P = pwZ f (edgeM ds) (kk - 1) := by
              rw [HPP.out, HMM.out, pwW_pwZ hN20 (edgeM_01 ds) q (by omega)]
              have := HRK.out
              rw [show kk - 1 = q by omega]
            have HPZ := Lib.hid hpz
            clear hO hPW hRE hB hpz
            go_wp2
            go_ret2
            refine ⟨a9, c9, rfl, ?_, HF.out.2⟩
            unfold wmRes
            rw [if_neg HK0.out, ← HPZ.out]
            exact HF.out.1

end Go.Proofs.Ytgcidkcedfliiaa
