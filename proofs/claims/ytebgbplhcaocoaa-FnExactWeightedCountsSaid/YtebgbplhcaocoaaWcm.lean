/- WeightedCounts of the model. -/
import Derived.Test.YtebgbplhcaocoaaWci
set_option linter.unusedSimpArgs false
set_option linter.unusedVariables false
set_option maxRecDepth 100000
namespace Go.Proofs.Ytebgbplhcaocoaa
open Go.RowKit

/-- the product while the row k is taken modulo p up to the column m -/
def mdS (F : Nat → Nat → Int) (p : Int) (k m : Nat) : Nat → Nat → Int := fun i j => if i < k ∨ (i = k ∧ j < m) then F i j % p else F i j
theorem mdS_start (F : Nat → Nat → Int) (p : Int) : mdS F p 0 0 = F := by
  funext i j; unfold mdS; rw [if_neg (by omega)]
theorem mdS_at (F : Nat → Nat → Int) (p : Int) (k m : Nat) : mdS F p k m k m = F k m := by unfold mdS; rw [if_neg (by omega)]
theorem mdS_put (F : Nat → Nat → Int) (p : Int) (k m : Nat) : put (mdS F p k m) k m (F k m % p) = mdS F p k (m + 1) := by
  funext i j
  unfold put mdS
  by_cases e : i = k ∧ j = m
  · rw [if_pos e, if_pos (by omega), e.1, e.2]
  · rw [if_neg e]
    by_cases c : i < k ∨ (i = k ∧ j < m)
    · rw [if_pos c, if_pos (by omega)]
    · rw [if_neg c, if_neg (by omega)]
theorem mdS_row (F : Nat → Nat → Int) (p : Int) (N k : Nat) : tab N (mdS F p k N) = tab N (mdS F p (k + 1) 0) := tab_congr fun i j hi hj => by
  unfold mdS
  by_cases c : i < k ∨ (i = k ∧ j < N)
  · rw [if_pos c, if_pos (by omega)]
  · rw [if_neg c, if_neg (by omega)]
theorem mdS_all (F : Nat → Nat → Int) (p : Int) (N : Nat) (G : Nat → Nat → Int) (h : ∀ i j, i < N → j < N → F i j % p = G i j) : tab N (mdS F p N 0) = tab N G := tab_congr fun i j hi hj => by
  unfold mdS
  rw [if_pos (by omega)]
  exact h i j hi hj
def wcV (p : Int) (N : Nat) (f : Nat → Nat → Int) (q : Nat) : List Value := (wcL p N f q).map (Value.int .i64)
theorem wcV_step (p : Int) (N : Nat) (f : Nat → Nat → Int) (q : Nat) : wcV p N f (q + 1) = wcV p N f q ++ [.int .i64 (trP p N f q N)] := by simp [wcV, wcL, List.range_succ]
theorem wcL_I64 {p : Int} (N : Nat) (f : Nat → Nat → Int) (K : Nat) (hp : 2 ≤ p ∧ p ≤ 10007) : ∀ x ∈ wcL p N f K, I64 x := fun x hx => by
  obtain ⟨q, _, rfl⟩ := List.mem_map.1 hx
  obtain ⟨t0, t1⟩ := trP_in N f q N hp.1
  unfold I64; omega
theorem arithW {s x p : Int} (hs : 0 ≤ s ∧ s < p) (hx : 0 ≤ x ∧ x < p) (hp : 2 ≤ p ∧ p ≤ 10007) : ∃ t u : Int, IntKind.i64.wrap (s + x) = t ∧ wrap64 (s + x) = t ∧ t.tmod p = u ∧ t % p = u ∧ IntKind.i64.wrap u = u ∧ u = (s + x) % p ∧ 0 ≤ t := by
  have hu : 0 ≤ (s + x) % p ∧ (s + x) % p < p := ⟨Int.emod_nonneg _ (by omega), Int.emod_lt_of_pos _ (by omega)⟩
  exact ⟨s + x, (s + x) % p, IntWalk.i64_in _ (by omega), IntWalk.wrap64_in _ (by omega), Int.tmod_eq_emod_of_nonneg (by omega), rfl, IntWalk.i64_in _ (by omega), rfl, by omega⟩

set_option maxHeartbeats 6400000 in
theorem specWc {lo hi lo1 hi1 : Nat} (p s : Int) (a : Option Addr) (n c : Nat) (xss : List (List Int)) (a1 : Option Addr) (n1 c1 : Nat) (vs : List Int) (k : Int) (w : World) (h : RdR lo hi w (.slice a n c) xss) (hn : xss.length = n) (h1 : RdI lo1 hi1 w (.slice a1 n1 c1) vs) (hl : vs.length = n1) :
    Calls Try.prog 51 #[.int .i64 p, .agg #[.int .i64 s, .slice a n c], .slice a1 n1 c1, .int .i64 k] w fun e w' => ∃ a' c', e = .returned (.tuple #[.slice a' (wcOf p s xss vs k).1.length c', .int .i64 (wcOf p s xss vs k).2]) ∧ OwI w.heap.size w'.heap.size w' (.slice a' (wcOf p s xss vs k).1.length c') (wcOf p s xss vs k).1 ∧ Below w.heap.size w w' := by
  obtain ⟨i0, hi', z0, z1, z2⟩ := info_parts Try.info2
  have hb0 : ∀ o, Below w.heap.size w (w.alloc o) := fun o => (Below.refl _ _).alloc (Nat.le_refl _) o
  have HN := Lib.hid hn
  have HL := Lib.hid hl
  have HR := Lib.hid h
  have H1 := Lib.hid h1
  obtain ⟨P, hP⟩ : ∃ P, P = wcOf p s xss vs k := ⟨_, rfl⟩
  rw [← hP]
  unfold wcOf at hP
  rw [hn] at hP
  have HP := Lib.hid hP
  have HOK := Lib.hid (fun h => wtCode_ok (p := p) (s := s) (xss := xss) (vs := vs) h)
  clear hn h hP hl h1
  go_enter Try.func51, Try.ntmps51
  go_wp2_with fail
  refine calls_gen (fun W => Below w.heap.size w W ∧ W.cell? ⟨w.heap.size, 0, none⟩ = some (.int .i64 s) ∧ W.cell? ⟨w.heap.size, 1, none⟩ = some (.slice a n c)) ⟨hb0 _, by go_simp, by go_simp⟩ ?_
  rintro W ⟨hB, k0, k1⟩
  refine (l06Code p s a n c xss a1 n1 c1 vs W (HR.out.below hB) HN.out (H1.out.below hB) HL.out).mono ?_
  rintro e w1 ⟨rfl, b1⟩
  replace k0 := b1.keep k0
  replace k1 := b1.keep k1
  replace hB := hB.next b1
  clear b1
  generalize wtCode p s xss vs = cd at HP HOK ⊢
  by_cases hc : cd = 0
  case neg =>
    have hP := HP.out
    rw [if_neg hc] at hP
    have hcb : (cd != 0) = true := by simpa using hc
    have hcb2 : (cd == 0) = false := by simpa using hc
    subst hP
    clear HP HOK hc k0 k1
    go_wp2
    refine bodyPost_ret (v := .tuple #[.slice none 0 0, .int .i64 cd]) (by simp [results, Try.results51, go_sem]) rfl ⟨none, 0, rfl, OwI.nil' _ _ _, hB⟩
  have hP := HP.out
  rw [if_pos hc] at hP
  have hli := l01In k 1 20 w1
  by_cases hk : 1 ≤ k ∧ k ≤ 20
  case neg =>
    rw [if_neg hk] at hP
    have hb : (decide (1 ≤ k) && decide (k ≤ 20)) = false := by
      simp only [Bool.and_eq_false_iff, decide_eq_false_iff_not]; omega
    rw [hb] at hli
    subst hP
    subst hc
    clear HP HOK hk hb k0 k1
    go_wp2_with fail
    refine hli.mono ?_
    clear hli
    rintro e w2 ⟨rfl, q2⟩
    replace hB := hB.qt q2
    clear q2
    go_wp2
    refine bodyPost_ret (v := .tuple #[.slice none 0 0, .int .i64 2]) (by simp [results, Try.results51, go_sem]) rfl ⟨none, 0, rfl, OwI.nil' _ _ _, hB⟩
  rw [if_pos hk] at hP
  rw [decide_eq_true hk.1, decide_eq_true hk.2] at hli
  obtain ⟨K, rfl⟩ : ∃ K : Nat, k = (K : Int) := ⟨k.toNat, by omega⟩
  rw [Int.toNat_natCast] at hP
  have HPP := Lib.hid hP
  subst hc
  obtain ⟨hg, hp, hwt⟩ := HOK.out rfl
  have hp2 := primeB_hd hp
  have HG := Lib.hid (⟨hg, hwt⟩ : _ ∧ _)
  have hk20 : K ≤ 20 := by omega
  clear HP HOK hP hg hp hwt hk
  go_wp2_with fail
  refine hli.mono ?_
  clear hli
  rintro e w2 ⟨rfl, q2⟩
  replace k0 := q2.below.keep k0
  replace k1 := q2.below.keep k1
  replace hB := hB.qt q2
  clear q2
  obtain ⟨hg, hwt⟩ := HG.out
  have hn10 : n ≤ 10 := by have := grB_iff hg; have := HN.out; omega
  obtain ⟨hw1, hw2⟩ := weightsB_of hwt
  have hv : ∀ j, j < n1 → 0 ≤ vs.getD j 0 ∧ vs.getD j 0 < p := fun j hj => by
    have h1 := hw2 j (by rw [HL.out]; exact hj)
    unfold inR at h1
    simpa using h1
  have hn1 : n1 = 2 * n := by rw [← HL.out, hw1, HN.out]
  have HRW := Lib.hid (l06Rows p s a n c xss a1 n1 c1 vs w2 (HR.out.below hB) HN.out hg (H1.out.below hB) HL.out hn1 hv hp2.2)
  have HBD := Lib.hid (show ∀ i j, i < 2 * n → j < 2 * n → 0 ≤ wtM (edgeM (dirE (pairs xss))) vs i j ∧ wtM (edgeM (dirE (pairs xss))) vs i j < p from fun i j hi hj => by
    have h2 := hv j (by omega)
    unfold wtM
    rcases edgeM_01w (dirE (pairs xss)) i j with e | e <;> rw [e] <;> omega)
  replace HPP := HPP.out
  generalize wtM (edgeM (dirE (pairs xss))) vs = f at HRW HBD HPP
  replace HPP := Lib.hid HPP
  have HB := Lib.hid hB
  obtain ⟨N, hN⟩ : ∃ N, N = 2 * n := ⟨_, rfl⟩
  rw [← hN] at HRW HBD HPP
  have hN20 : N ≤ 20 := by omega
  clear hg hwt hw1 hw2 hv hn1 hN hB HG
  go_wp2_with fail
  refine HRW.out.mono ?_
  rintro e w3 ⟨a5, c5, rfl, o1, b1⟩
  have hRM := (o1.mono HB.out.size (Nat.le_refl _)).rd
  have hB := HB.out.next b1
  obtain ⟨H, hH⟩ : ∃ H, H = w3.heap.size := ⟨_, rfl⟩
  have hl0 := World.ownsRow_lit (base := w3.heap.size) (e := 2) (size := 1) w3 #[] 0 (Nat.le_refl _) (by unfold maxLen; omega) rfl
  have hbA := (Below.refl w3.heap.size w3).alloc (Nat.le_refl _) (.cells #[] 2)
  have HWH := Lib.hid (show w.heap.size ≤ H by rw [hH]; exact hB.size)
  have HMM := Lib.hid (fun (W : World) (h : RdR w.heap.size H W (.slice a5 N c5) (tab N f)) => show RdR w.heap.size H W (.slice a5 N c5) (tab N (mdM p N f 0)) by rw [← mdM_zero HBD.out]; exact h)
  have HP0 := Lib.hid (⟨hl0, hRM.below hbA, hB.next hbA⟩ : _ ∧ _ ∧ _)
  rw [← hH] at HP0
  clear o1 b1 hRM hB hl0 hbA k0 k1 HRW HB
  go_wp2
  rw [← hH]
  clear hH
  go_loopw [3, 12, 13] (fun i v pw wr => ∃ (q r g cc lo2 hi2 : Nat) (a7 : Option Addr) (c7 : Nat), q + r = K ∧ i = .int .i64 r ∧ v = .slice (some ⟨g, 0, none⟩) q cc ∧ pw = .slice a7 N c7 ∧ (g < lo2 ∨ hi2 ≤ g) ∧ RdR lo2 hi2 wr (.slice a7 N c7) (tab N (mdM p N f q)) ∧
    wr.ownsRow H 2 1 (.slice (some ⟨g, 0, none⟩) q cc) q (wcV p N f q) ∧ RdR w.heap.size H wr (.slice a5 N c5) (tab N f) ∧ Below w.heap.size w wr) (fun i _ _ _ => (intOf i).toNat)
  case atStart => exact ⟨0, K, H, 0, w.heap.size, H, a5, c5, by omega, rfl, rfl, rfl, .inr (Nat.le_refl _), HMM.out _ HP0.out.2.1, HP0.out.1, HP0.out.2.1, HP0.out.2.2⟩
  case round =>
    clear HP0 HMM
    obtain ⟨q, r, g, cc, lo2, hi2, a7, c7, hqr, rfl, rfl, rfl, hgp, hPW, hown, hMR, hB⟩ := hrel
    obtain ⟨U, rfl⟩ : ∃ U, U = wr := ⟨_, rfl⟩
    by_cases hr0 : 0 < r
    · obtain ⟨r', rfl⟩ : ∃ r', r = r' + 1 := ⟨r - 1, by omega⟩
      have HU := Lib.hid (⟨hPW, hown, hMR, hB, hgp⟩ : _ ∧ _ ∧ _ ∧ _ ∧ _)
      have HQR := Lib.hid hqr
      have hrI : (r' : Int) + 1 > 0 := by omega
      clear hPW hown hMR hB hqr hgp hr0
      go_wp2
      go_loopw [14, 15] (fun v i wr' => ∃ t : Nat, t ≤ N ∧ i = .int .i64 t ∧ v = .int .i64 (trP p N f q t) ∧ Qt U wr') (fun _ i _ => N - (intOf i).toNat)
      case atStart => exact ⟨0, Nat.zero_le _, rfl, by rw [trP_zero], Qt.refl _⟩
      case round =>
        rename_i hrel
        obtain ⟨t, ht, rfl, rfl, hqt⟩ := hrel
        by_cases hlf : t < N
        · obtain ⟨ba, oa, bA, oA, cA, rfl, e1, e2⟩ := (HU.out.1.qt hqt).ent (i := t) (j := t) hlf hlf
          have hst := trP_next p N f q t
          have hx := mdM_in N f q t t hp2.1
          have hs := trP_in N f q t hp2.1
          change (trP p N f q t + mdM p N f q t t) % p = _ at hst
          generalize mdM p N f q t t = x at e2 hst hx
          generalize trP p N f q t = d at hst hs ⊢
          obtain ⟨y, u, y1, y2, y3, y4, y5, y6, y7⟩ := arithW hs hx hp2
          rw [hst] at y6
          have HS := Lib.hid y6
          have hp0 : ¬ p = 0 := by clear y1 y2 y3 y4 y5 y6 hst; omega
          have htn : (t : Int) < (N : Int) := by clear y1 y2 y3 y4 y5 y6 hst; omega
          clear hst y6 hx hs
          go_wp2
          clear y1 y2 y3 y4 y5
          go_roundw
          case rel => exact ⟨t+1, by omega, by go_num, by rw [← HS.out], hqt⟩
          case measure => simp [intOf]; omega
        · obtain rfl : t = N := by omega
          obtain ⟨hPW, hown, hMR, hB, hgp⟩ := HU.out
          replace hPW := hPW.qt hqt
          replace hown := ownsRow_chg hown (hqt.chg 0 0) (fun _ _ => .inr (Nat.zero_le _))
          replace hMR := hMR.qt hqt
          replace hB := hB.qt hqt
          have hst := wcV_step p t f q
          generalize trP p t f q t = x at hst ⊢
          have HST := Lib.hid hst
          clear hst hqt
          have hq1 : q ≤ 20 := by have := HQR.out; omega
          have hglt := hown.lt g rfl
          go_wp2_with (at_builtin; refine wpList_append_lies _ rfl _ _ 37 rfl H 2 i0 (.int .i64 0) 1 8 Try.underlying37 hi' z0 z1 z2 rfl (by decide) _ _ _ rfl (hown.alloc _) ⟨wr.heap.size, 0, none⟩ 1 1 [.int .i64 x] rfl rfl ?c1 ?c2 (by decide) ?c3 ?c4 ?c5 _ rfl ?_)
          case c1 => exact news_one _ _ _
          case c2 => intro u hu; simp at hu; subst hu; rfl
          case c3 => unfold maxLen; omega
          case c4 => omega
          case c5 => simp; omega
          intro g2 c3 w4 hown3 hgr hlie hlt3
          have hch : Chg g (g + 1) wr w4 := snocC (Below.refl wr.heap.size wr) hgr
          replace hPW := hPW.chg hch (by omega)
          replace hMR := hMR.chg hch (.inl hglt.1)
          replace hB := hB.chgn hch (Nat.le_trans HWH.out hglt.1) hB.size
          rw [← HST.out] at hown3
          have hg2 : H ≤ g2 ∧ g2 < w4.heap.size := hown3.lt g2 rfl
          clear hgr hown hch hlie hlt3 hglt HST HU
          have hpr := Lib.hid (l02Product a7 t c7 a5 c5 (mdM p t f q) f w4 (by omega) hPW hMR)
          have HV := Lib.hid (⟨hown3, hMR, hB⟩ : _ ∧ _ ∧ _)
          clear hown3 hMR hPW hB
          go_wp2_with fail
          refine hpr.out.mono ?_
          rintro e w5 ⟨a8, c8, rfl, o4, b4⟩
          have HV := Lib.hid (⟨ownsRow_chg HV.out.1 (b4.chg 0 0) (fun _ _ => .inr (Nat.zero_le _)), HV.out.2.1.below b4, HV.out.2.2.next b4⟩ : _ ∧ _ ∧ _)
          obtain ⟨L, hL⟩ : ∃ L, L = w4.heap.size := ⟨_, rfl⟩
          obtain ⟨T, hT⟩ : ∃ T, T = w5.heap.size := ⟨_, rfl⟩
          have HLT := Lib.hid (⟨by rw [hL]; exact hg2.2, HV.out.2.2.size⟩ : g2 < L ∧ w.heap.size ≤ w5.heap.size)
          have HF := Lib.hid (fun i j (hi : i < t) (hj : j < t) => mdM_next hp2 hN20 HBD.out q hi hj)
          have HWL : Hid (H ≤ L) := Lib.hid (by omega)
          rw [← hL, ← hT] at o4
          have hTz : T ≤ w5.heap.size := by omega
          generalize mulM t (mdM p t f q) f = F at o4 HF
          have HO := Lib.hid (show OwR L T w5 (.slice a8 t c8) (tab t (mdS F p 0 0)) by rw [mdS_start]; exact o4)
          clear hL hT o4 b4 hpr hg2
          go_wp2
          go_loopw [17] (fun v wr => ∃ k : Nat, k ≤ t ∧ v = .int .i64 k ∧ OwR L T wr (.slice a8 t c8) (tab t (mdS F p k 0)) ∧ wr.ownsRow H 2 1 (.slice (some ⟨g2, 0, none⟩) (q + 1) c3) (q + 1) (wcV p t f (q + 1)) ∧ RdR w.heap.size H wr (.slice a5 t c5) (tab t f) ∧ Below w.heap.size w wr ∧ T ≤ wr.heap.size) (fun v _ => t - (intOf v).toNat)
          case atStart => exact ⟨0, Nat.zero_le _, rfl, HO.out, HV.out.1, HV.out.2.1, HV.out.2.2, hTz⟩
          case round =>
            rename_i hrel
            clear HO HV hTz
            obtain ⟨k, hk, rfl, hO, hA, hMR, hB, hz⟩ := hrel
            obtain ⟨U2, rfl⟩ : ∃ U, U = wr := ⟨_, rfl⟩
            by_cases hlt : k < t
            · obtain ⟨g5, c', b, cb, e1, e2, _, _, _, _, _, _, _, _, hgb, _⟩ := hO.store (k := k) (j := 0) (by rw [tab_len]; exact hlt) (by rw [tab_rlen _ hlt]; omega)
              rw [tab_rlen _ hlt] at e2
              have e1a : a8 = some ⟨g5, 0, none⟩ := by injection e1
              clear e1
              subst e1a
              have HO := Lib.hid (⟨hO, e2, hA, hMR, hB, hz⟩ : _ ∧ _ ∧ _ ∧ _ ∧ _ ∧ _)
              have hkn : (k : Int) < (t : Int) := by omega
              clear hO hA hMR hB hz
              go_wp2
              clear e2
              go_loopw [19] (fun v wr2 => ∃ m : Nat, m ≤ t ∧ v = .int .i64 m ∧ OwR L T wr2 (.slice (some ⟨g5, 0, none⟩) t c8) (tab t (mdS F p k m)) ∧ wr2.cell? ⟨g5, k, none⟩ = some (.slice (some ⟨b, 0, none⟩) t cb) ∧ wr2.ownsRow H 2 1 (.slice (some ⟨g2, 0, none⟩) (q + 1) c3) (q + 1) (wcV p t f (q + 1)) ∧ RdR w.heap.size H wr2 (.slice a5 t c5) (tab t f) ∧ Below w.heap.size w wr2 ∧ T ≤ wr2.heap.size) (fun v _ => t - (intOf v).toNat)
              case atStart => exact ⟨0, Nat.zero_le _, rfl, HO.out⟩
              case round =>
                rename_i hrel
                clear HO
                obtain ⟨m, hm, rfl, hO, e2, hA, hMR, hB, hz⟩ := hrel
                by_cases hlm : m < t
                · obtain ⟨g6, c6, b6, cb6, x1, x2, x3, x4, x5, x6, x7, _, _, _, _, _, x8⟩ := hO.store (k := k) (j := m) (by rw [tab_len]; exact hlt) (by rw [tab_rlen _ hlt]; exact hlm)
                  rw [tab_rlen _ hlt] at x2
                  rw [tab_get _ hlt hlm, mdS_at] at x3
                  have x1a : some (⟨g5, 0, none⟩ : Addr) = some ⟨g6, 0, none⟩ := by injection x1
                  clear x1
                  simp only [Option.some.injEq, Addr.mk.injEq, and_true] at x1a
                  subst x1a
                  rw [e2] at x2
                  simp only [Option.some.injEq, Value.slice.injEq, Addr.mk.injEq, and_true, true_and] at x2
                  obtain ⟨rfl, rfl⟩ := x2
                  obtain ⟨_, hf0, hf1⟩ := HF.out k m hlt hlm
                  have hu : 0 ≤ F k m % p ∧ F k m % p < p := ⟨Int.emod_nonneg _ (by omega), Int.emod_lt_of_pos _ (by omega)⟩
                  have hst := x8 (F k m % p) (by unfold I64; omega)
                  rw [tab_set _ _ hlt hlm, mdS_put] at hst
                  have hLw : w.heap.size ≤ L := Nat.le_trans HWH.out HWL.out
                  have hch : Chg b (b + 1) wr (wr.setCell ⟨b, m, none⟩ (.int .i64 (F k m % p))) := (Chg.refl b (b + 1) wr).setCell (p := ⟨b, m, none⟩) ⟨Nat.le_refl _, Nat.lt_succ_self _⟩ _
                  have he2 : (wr.setCell ⟨b, m, none⟩ (.int .i64 (F k m % p))).cell? ⟨g5, k, none⟩ = some (.slice (some ⟨b, 0, none⟩) t cb) := by
                      rw [World.cell?_setCell_other _ _ _ _ (by intro e9; have e8 := congrArg Addr.block e9; dsimp only at e8; omega)]; exact e2
                  have hA2 := ownsRow_chg hA hch (fun j hj => by
                    have hj2 : g2 = j := by injection hj
                    subst hj2
                    exact .inl (Nat.lt_of_lt_of_le HLT.out.1 x5))
                  have hMR2 := hMR.chg hch (.inl (Nat.le_trans HWL.out x5))
                  have HG := Lib.hid (⟨hst, he2, hA2, hMR2, hB.setCell (p := ⟨b, m, none⟩) (Nat.le_trans hLw x5) (.int .i64 (F k m % p)), by rw [World.size_setCell]; exact hz⟩ : _ ∧ _ ∧ _ ∧ _ ∧ _ ∧ T ≤ (wr.setCell ⟨b, m, none⟩ (.int .i64 (F k m % p))).heap.size)
                  have hmn : (m : Int) < (t : Int) := by omega
                  have hm0 : (0 : Int) ≤ (m : Int) := by omega
                  have y3 : (F k m).tmod p = F k m % p := Int.tmod_eq_emod_of_nonneg hf0
                  generalize F k m = y at *
                  obtain ⟨u, hu'⟩ : ∃ u, u = y % p := ⟨_, rfl⟩
                  rw [← hu'] at HG y3 hu
                  have y5 : IntKind.i64.wrap u = u := IntWalk.i64_in _ (by clear y3 hu'; omega)
                  have hp0 : ¬ p = 0 := by clear y3 y5 hu'; omega
                  have HUU := Lib.hid hu'
                  clear hst he2 hA2 hMR2 hu' hch x5 x6 x7 x8 hO hA hMR hB hz hu
                  go_wp2
                  clear y3 y5
                  go_roundw
                  case rel => exact ⟨m+1, by omega, by go_num, HG.out⟩
                  case measure => simp [intOf]; omega
                · obtain rfl : m = t := by omega
                  rw [mdS_row] at hO
                  have HG := Lib.hid (⟨hO, hA, hMR, hB, hz⟩ : _ ∧ _ ∧ _ ∧ _ ∧ _)
                  clear hO hA hMR hB hz e2
                  go_wp2
                  go_roundw
                  case rel => exact ⟨k+1, by omega, by go_num, HG.out⟩
                  case measure => simp [intOf]; omega
            · obtain rfl : k = t := by omega
              rw [mdS_all F p k (mdM p k f (q + 1)) (fun i j hi hj => (HF.out i j hi hj).1)] at hO
              have HG := Lib.hid (⟨.inl HLT.out.1, hO.rd, hA, hMR, hB⟩ : (g2 < L ∨ T ≤ g2) ∧ _ ∧ _ ∧ _ ∧ _)
              clear hO hA hMR hB hz HF
              have hw1 : wrap64 (r' : Int) = (r' : Int) := IntWalk.wrap64_in _ (by have := HQR.out; omega)
              have hw2 : IntKind.i64.wrap (r' : Int) = (r' : Int) := IntWalk.i64_in _ (by clear hw1; have := HQR.out; omega)
              go_wp2
              clear hw1 hw2
              go_roundw
              case rel => exact ⟨q+1, r', g2, c3, L, T, a8, c8, by have := HQR.out; omega, rfl, rfl, rfl, HG.out⟩
              case measure => first | (simp [intOf]; done) | (simp [intOf]; omega)
    · obtain rfl : r = 0 := by omega
      obtain rfl : q = K := by omega
      have hO : OwI H U.heap.size U (.slice (some ⟨g, 0, none⟩) q cc) (wcL p N f q) := OwI.mk hown (by omega) (wcL_I64 N f q hp2)
      have hO2 := hO.mono HWH.out (Nat.le_refl _)
      have HF := Lib.hid (⟨hO2, hB⟩ : _ ∧ _)
      have hlen : P.1.length = q := by rw [HPP.out]; exact wcL_len _ _ _ _
      clear hown hMR hB hO hO2 hPW hgp
      go_wp2
      refine bodyPost_ret (v := .tuple #[.slice (some ⟨g, 0, none⟩) q cc, .int .i64 0]) (by simp [results, Try.results51, go_sem]) rfl ⟨_, cc, by rw [hlen, HPP.out], by rw [hlen]; rw [HPP.out]; exact HF.out.1, HF.out.2⟩

end Go.Proofs.Ytebgbplhcaocoaa
