/- StraightCounts of the program. -/
import Derived.Test.YtgcidkcedfliiaaSpecStc
import Derived.Test.YtgcidkcedfliiaaEdgeRows
set_option linter.unusedSimpArgs false
set_option linter.unusedVariables false
namespace Go.Proofs.Ytgcidkcedfliiaa
open Go.RowKit

set_option maxRecDepth 100000 in
set_option maxHeartbeats 6400000 in
theorem implStc {lo hi : Nat} (s : Int) (a : Option Addr) (n c : Nat) (xss : List (List Int)) (k : Int) (w : World) (h : RdR lo hi w (.slice a n c) xss) (hn : xss.length = n) :
    Calls Try.prog 43 #[.agg #[.int .i64 s, .slice a n c], .int .i64 k] w fun e w' => ∃ a' c', e = .returned (.tuple #[.slice a' (stcOf s xss k).1.length c', .int .i64 (stcOf s xss k).2]) ∧ OwI w.heap.size w'.heap.size w' (.slice a' (stcOf s xss k).1.length c') (stcOf s xss k).1 ∧ Below w.heap.size w w' := by
  obtain ⟨i0, hi', z0, z1, z2⟩ := info_parts Try.info2
  have HR := Lib.hid h
  have HI := Lib.hid (fun W' (h' : RdR lo hi W' (.slice a n c) xss) => implIsGraph s a n c xss W' h' hn)
  have HMX := Lib.hid (fun W' (h' : RdR lo hi W' (.slice a n c) xss) hg => edgeRows s a n c xss W' h' hn hg)
  obtain ⟨P, hP⟩ : ∃ P, P = stcOf s xss k := ⟨_, rfl⟩
  rw [← hP]
  unfold stcOf at hP
  rw [hn] at hP
  have HN10 := Lib.hid (fun hg : grB s xss = true => show n ≤ 10 by have := grB_iff hg; omega)
  have HP := Lib.hid hP
  clear h hn hP
  go_enter Try.func43, Try.ntmps43
  go_wp2_with fail
  refine calls_gen (fun W => Below w.heap.size w W ∧ W.cell? ⟨w.heap.size, 0, none⟩ = some (.int .i64 s) ∧ W.cell? ⟨w.heap.size, 1, none⟩ = some (.slice a n c)) ⟨(Below.refl _ _).alloc (Nat.le_refl _) _, by go_simp, by go_simp⟩ ?_
  rintro W ⟨hB, k0, k1⟩
  refine (HI.out W (HR.out.below hB)).mono ?_
  have hP := HP.out
  clear HP
  cases hg : grB s xss with
  | false =>
    rintro e w1 ⟨rfl, b1⟩
    replace hB := hB.next b1
    rw [show ccode s xss k 1 10 = 1 by unfold ccode; rw [hg]; rfl, if_neg (by decide)] at hP
    clear b1 hg k0 k1
    subst hP
    go_wp2
    go_ret2
    exact ⟨none, 0, rfl, OwI.nil _ _ _, hB⟩
  | true =>
    have HG := Lib.hid hg
    have hn10 := HN10.out hg
    clear hg HN10
    rintro e w1 ⟨rfl, b1⟩
    replace hB := hB.next b1
    replace k0 := b1.keep k0
    replace k1 := b1.keep k1
    clear b1
    by_cases h1 : 1 ≤ k
    · have d1 : decide (k < 1) = false := by simp; omega
      by_cases h2 : k ≤ 10
      · have d2 : decide (10 < k) = false := by simp; omega
        obtain ⟨r, rfl⟩ : ∃ r : Nat, k = ((r + 1 : Nat) : Int) := ⟨(k - 1).toNat, by omega⟩
        rw [show ccode s xss ((r + 1 : Nat) : Int) 1 10 = 0 by unfold ccode; rw [HG.out, if_pos rfl, if_pos ⟨h1, h2⟩], if_pos rfl, Int.toNat_natCast] at hP
        have hr9 : r ≤ 9 := by omega
        have hlen : P.1.length = r + 1 := by rw [hP]; exact cnts_len _ _ _
        have HP2 := Lib.hid (⟨hP, hlen⟩ : _ ∧ _)
        have hmx := HMX.out w1 (HR.out.below hB) HG.out
        obtain ⟨M, hM⟩ : ∃ M, M = edgeM (dirE (pairs xss)) := ⟨_, rfl⟩
        obtain ⟨N, hN⟩ : ∃ N, N = 2 * n := ⟨_, rfl⟩
        have hN20 : N ≤ 20 := by omega
        rw [← hM, ← hN] at hmx HP2
        clear hP hlen HMX hM hN h1 h2
        go_wp2_with fail
        refine hmx.mono ?_
        clear hmx
        rintro e w2 ⟨a5, c5, rfl, o1, b2⟩
        have hRM := (o1.mono hB.size (Nat.le_refl _)).rd
        replace hB := hB.next b2
        clear b2 o1 k0 k1
        obtain ⟨H, hH⟩ : ∃ H, H = w2.heap.size := ⟨_, rfl⟩
        have hwH : w.heap.size ≤ H := by rw [hH]; exact hB.size
        have hHw : H ≤ w2.heap.size := by omega
        rw [← hH] at hRM
        have HMB := Lib.hid (⟨hRM, hB⟩ : _ ∧ _)
        clear hH hRM hB
        have htr := traceOf a5 N c5 M w2 (by omega) HMB.out.1
        have ht1 : cntV N M 1 = [.int .i64 (trW M N)] := rfl
        generalize trW M N = t at htr ht1
        have HT1 := Lib.hid ht1
        clear ht1
        go_wp2_with fail
        refine htr.mono ?_
        clear htr
        rintro e w3 ⟨rfl, q3⟩
        obtain ⟨hRM, hB⟩ := HMB.out
        replace hRM := hRM.qt q3
        replace hB := hB.qt q3
        have hHw3 : H ≤ w3.heap.size := Nat.le_trans hHw q3.below.size
        clear HMB q3
        have hl0 := World.ownsRow_lit (base := H) (e := 2) (size := 1) w3 #[.int .i64 t] 1 hHw3 (by unfold maxLen; omega) rfl
        have hbA := (Below.refl w3.heap.size w3).alloc (Nat.le_refl _) (.cells #[.int .i64 t] 2)
        have hl1 : (w3.alloc (.cells #[.int .i64 t] 2)).ownsRow H 2 1 (.slice (some ⟨w3.heap.size, 0, none⟩) 1 1) 1 (cntV N M 1) := by rw [HT1.out]; exact hl0
        have HP0 := Lib.hid (⟨hl1, hRM.below hbA, hRM.below hbA, hB.next hbA⟩ : _ ∧ _ ∧ _ ∧ _)
        clear hl0 hl1 hbA hRM hB
        have hs1 : wrap64 ((r : Int)) = (r : Int) := IntWalk.wrap64_in _ (by omega)
        have hs2 : IntKind.i64.wrap ((r : Int)) = (r : Int) := IntWalk.i64_in _ (by clear hs1; omega)
        go_wp2
        clear hs1 hs2
        go_loopw [26, 7, 8] (fun i p v wr => ∃ (q g cc lo1 hi1 : Nat) (a7 : Option Addr) (c7 : Nat), q ≤ r ∧ i = .int .i64 q ∧ v = .slice (some ⟨g, 0, none⟩) (q + 1) cc ∧ p = .slice a7 N c7 ∧ RdR lo1 hi1 wr (.slice a7 N c7) (tab N (powM N M q)) ∧
          wr.ownsRow H 2 1 (.slice (some ⟨g, 0, none⟩) (q + 1) cc) (q + 1) (cntV N M (q + 1)) ∧ RdR w.heap.size H wr (.slice a5 N c5) (tab N M) ∧ Below w.heap.size w wr) (fun i _ _ _ => r - (intOf i).toNat)
        case atStart => exact ⟨0, w3.heap.size, 1, w.heap.size, H, a5, c5, by omega, rfl, rfl, rfl, HP0.out.2.1, HP0.out.1, HP0.out.2.1, HP0.out.2.2.2⟩
        case round =>
          clear HP0
          obtain ⟨q, g, cc, lo1, hi1, a7, c7, hqr, rfl, rfl, rfl, hPW, hown, hMR, hB⟩ := hrel
          by_cases hlt : q < r
          · have hpr := productOfRows a7 N c7 a5 c5 (powM N M q) M wr (by omega) hPW hMR
            have HU := Lib.hid (⟨hown, hMR, hB⟩ : _ ∧ _ ∧ _)
            clear hPW hown hMR hB
            go_wp2_with fail
            refine hpr.mono ?_
            clear hpr
            rintro e w4 ⟨a8, c8, rfl, o4, b4⟩
            have hP4 : RdR wr.heap.size w4.heap.size w4 (.slice a8 N c8) (tab N (powM N M (q + 1))) := o4.rd
            obtain ⟨hown, hMR, hB⟩ := HU.out
            have hglt := hown.lt g rfl
            replace hown := ownsRow_chg hown (b4.chg 0 0) (fun _ _ => .inr (Nat.zero_le _))
            replace hMR := hMR.below b4
            replace hB := hB.next b4
            have htr := traceOf a8 N c8 (powM N M (q + 1)) w4 (by omega) hP4
            have hst := cntV_step N M (q + 1)
            generalize trW (powM N M (q + 1)) N = t at htr hst
            have HST := Lib.hid hst
            have HU2 := Lib.hid (⟨hP4, hown, hMR, hB⟩ : _ ∧ _ ∧ _ ∧ _)
            clear hst hP4 hown hMR hB HU o4 b4
            go_wp2_with fail
            refine htr.mono ?_
            clear htr
            rintro e w5 ⟨rfl, q5⟩
            obtain ⟨hP4, hown, hMR, hB⟩ := HU2.out
            replace hP4 := hP4.qt q5
            replace hown := ownsRow_chg hown (q5.chg 0 0) (fun _ _ => .inr (Nat.zero_le _))
            replace hMR := hMR.qt q5
            replace hB := hB.qt q5
            have hsz5 : H ≤ w5.heap.size := by have := hown.lt g rfl; omega
            clear HU2 q5
            go_wp2_with (at_builtin; refine wpList_append_lies _ rfl _ _ 25 rfl H 2 i0 (.int .i64 0) 1 8 Try.underlying25 hi' z0 z1 z2 rfl (by decide) _ _ _ rfl (hown.alloc _) ⟨w5.heap.size, 0, none⟩ 1 1 [.int .i64 t] rfl rfl ?c1 ?c2 (by decide) ?c3 ?c4 ?c5 _ rfl ?_)
            case c1 => exact news_one _ _ _
            case c2 => intro u hu; simp at hu; subst hu; rfl
            case c3 => unfold maxLen; omega
            case c4 => omega
            case c5 => simp; omega
            intro g2 c3 w6 hown3 hgr hlie hlt3
            have hch : Chg g (g + 1) w5 w6 := snocC (Below.refl w5.heap.size w5) hgr
            have HF := Lib.hid (⟨hP4.chg hch (.inr hglt.2), by rw [HST.out]; exact hown3, hMR.chg hch (.inl hglt.1), hB.chgn hch (Nat.le_trans hwH hglt.1) hB.size⟩ : RdR wr.heap.size w4.heap.size w6 (.slice a8 N c8) (tab N (powM N M (q + 1))) ∧ w6.ownsRow H 2 1 (.slice (some ⟨g2, 0, none⟩) (q + 1 + 1) c3) (q + 1 + 1) (cntV N M (q + 1 + 1)) ∧ _ ∧ _)
            clear hgr hown hch hlie hlt3 hglt hP4 hMR hB hown3
            go_wp2
            go_roundw
            case rel => exact ⟨q+1, g2, c3, wr.heap.size, w4.heap.size, a8, c8, by omega, by go_num, rfl, rfl, HF.out⟩
            case measure => simp [intOf]; omega
          · obtain rfl : q = r := by omega
            have hO : OwI H wr.heap.size wr (.slice (some ⟨g, 0, none⟩) (q + 1) cc) (cnts N M (q + 1)) := OwI.mk hown (by omega) (cnts_I64 N M (q + 1))
            have hO2 := hO.mono hwH (Nat.le_refl _)
            have HF := Lib.hid (⟨hO2, hB⟩ : _ ∧ _)
            clear hPW hown hMR hB hO hO2
            go_wp2
            go_ret2
            refine ⟨some ⟨g, 0, none⟩, cc, ?_, ?_, HF.out.2⟩
            · rw [HP2.out.2, HP2.out.1]; rfl
            · rw [HP2.out.2, HP2.out.1]; exact HF.out.1
      · have d2 : decide (10 < k) = true := by simp; omega
        rw [show ccode s xss k 1 10 = 2 by unfold ccode; rw [HG.out, if_pos rfl, if_neg (by omega)], if_neg (by decide)] at hP
        clear k0 k1
        subst hP
        go_wp2
        go_ret2
        exact ⟨none, 0, rfl, OwI.nil _ _ _, hB⟩
    · have d1 : decide (k < 1) = true := by simp; omega
      rw [show ccode s xss k 1 10 = 2 by unfold ccode; rw [HG.out, if_pos rfl, if_neg (by omega)], if_neg (by decide)] at hP
      clear k0 k1
      subst hP
      go_wp2
      go_ret2
      exact ⟨none, 0, rfl, OwI.nil _ _ _, hB⟩

end Go.Proofs.Ytgcidkcedfliiaa
