/- Straight counts of the model. -/
import Derived.Test.YtgcidkcedfliiaaSpecProd
import Derived.Test.YtgcidkcedfliiaaSpecMat
set_option linter.unusedSimpArgs false
set_option linter.unusedVariables false
namespace Go.Proofs.Ytgcidkcedfliiaa
open Go.RowKit

/-- the traces of the powers 1 to k -/
def cnts (N : Nat) (M : Nat → Nat → Int) (k : Nat) : List Int := (List.range k).map (fun q => trW (powM N M q) N)
def cntV (N : Nat) (M : Nat → Nat → Int) (k : Nat) : List Value := (cnts N M k).map (Value.int .i64)
theorem cnts_len (N : Nat) (M : Nat → Nat → Int) (k : Nat) : (cnts N M k).length = k := by simp [cnts]
theorem cntV_step (N : Nat) (M : Nat → Nat → Int) (k : Nat) : cntV N M (k+1) = cntV N M k ++ [.int .i64 (trW (powM N M k) N)] := by simp [cntV, cnts, List.range_succ]
theorem cnts_I64 (N : Nat) (M : Nat → Nat → Int) (k : Nat) : ∀ x ∈ cnts N M k, I64 x := by
  intro x hx
  simp only [cnts, List.mem_map] at hx
  obtain ⟨q, _, rfl⟩ := hx
  exact trW_I64 _ _

set_option maxRecDepth 100000 in
set_option maxHeartbeats 6400000 in
theorem l02Straight {lo hi : Nat} (s : Int) (a : Option Addr) (n c : Nat) (xss : List (List Int)) (k : Nat) (w : World) (h : RdR lo hi w (.slice a n c) xss) (hn : xss.length = n) (hg : grB s xss = true) (hk : k ≤ 1000) :
    Calls Try.prog 80 #[.agg #[.int .i64 s, .slice a n c], .int .i64 k] w fun e w' => ∃ a' c', e = .returned (.slice a' k c') ∧ OwI w.heap.size w'.heap.size w' (.slice a' k c') (cnts (2 * n) (edgeM (dirE (pairs xss))) k) ∧ Below w.heap.size w w' := by
  obtain ⟨i0, hi', z0, z1, z2⟩ := info_parts Try.info2
  have hn10 : n ≤ 10 := by have := grB_iff hg; omega
  have HR := Lib.hid h
  have HMX := Lib.hid (fun W' (h' : RdR lo hi W' (.slice a n c) xss) => l02Matrix s a n c xss W' h' hn hg)
  obtain ⟨M, hM⟩ : ∃ M, M = edgeM (dirE (pairs xss)) := ⟨_, rfl⟩
  obtain ⟨N, hN⟩ : ∃ N, N = 2 * n := ⟨_, rfl⟩
  have hN20 : N ≤ 20 := by omega
  rw [← hM, ← hN] at HMX ⊢
  clear h hn hg hM hN hn10
  go_enter Try.func80, Try.ntmps80
  go_wp2_with fail
  refine calls_gen (fun W => Below w.heap.size w W) ((Below.refl _ _).alloc (Nat.le_refl _) _) ?_
  rintro W hB
  refine (HMX.out W (HR.out.below hB)).mono ?_
  rintro e w1 ⟨a5, c5, rfl, o1, b1⟩
  have hRM := (o1.mono hB.size (Nat.le_refl _)).rd
  replace hB := hB.next b1
  obtain ⟨H, hH⟩ : ∃ H, H = w1.heap.size := ⟨_, rfl⟩
  have hl0 := World.ownsRow_lit (base := w1.heap.size) (e := 2) (size := 1) w1 #[] 0 (Nat.le_refl _) (by unfold maxLen; omega) rfl
  have hbA := (Below.refl w1.heap.size w1).alloc (Nat.le_refl _) (.cells #[] 2)
  have hwH : w.heap.size ≤ H := by rw [hH]; exact hB.size
  have HP0 := Lib.hid (⟨hl0, hRM.below hbA, hRM.below hbA, hB.next hbA⟩ : _ ∧ _ ∧ _ ∧ _)
  rw [← hH] at HP0
  clear o1 b1 hRM hB hl0 hbA
  go_wp2
  rw [← hH]
  clear hH
  go_loopw [1, 6, 7] (fun i v p wr => ∃ (q r g cc lo1 hi1 : Nat) (a7 : Option Addr) (c7 : Nat), q + r = k ∧ i = .int .i64 r ∧ v = .slice (some ⟨g, 0, none⟩) q cc ∧ p = .slice a7 N c7 ∧ Hid (0 < r → (g < lo1 ∨ hi1 ≤ g) ∧ RdR lo1 hi1 wr (.slice a7 N c7) (tab N (powM N M q))) ∧
    wr.ownsRow H 2 1 (.slice (some ⟨g, 0, none⟩) q cc) q (cntV N M q) ∧ RdR w.heap.size H wr (.slice a5 N c5) (tab N M) ∧ Below w.heap.size w wr) (fun i _ _ _ => (intOf i).toNat)
  case atStart => exact ⟨0, k, H, 0, w.heap.size, H, a5, c5, by omega, rfl, rfl, rfl, Lib.hid (fun _ => ⟨.inr (Nat.le_refl _), HP0.out.2.1⟩), HP0.out.1, HP0.out.2.1, HP0.out.2.2.2⟩
  case round =>
    clear HP0
    obtain ⟨q, r, g, cc, lo1, hi1, a7, c7, hqr, rfl, rfl, rfl, HGP, hown, hMR, hB⟩ := hrel
    obtain ⟨U, rfl⟩ : ∃ U, U = wr := ⟨_, rfl⟩
    by_cases hr0 : 0 < r
    · obtain ⟨hgp, hPW⟩ := HGP.out hr0
      obtain ⟨r', rfl⟩ : ∃ r', r = r' + 1 := ⟨r - 1, by omega⟩
      clear HGP hr0
      have HU := Lib.hid (⟨hPW, hown, hMR, hB⟩ : _ ∧ _ ∧ _ ∧ _)
      have HQR := Lib.hid hqr
      clear hPW hown hMR hB hqr
      go_wp2
      go_loopw [8, 9] (fun v i wr' => ∃ f : Nat, f ≤ N ∧ i = .int .i64 f ∧ v = .int .i64 (trW (powM N M q) f) ∧ Qt U wr') (fun _ i _ => N - (intOf i).toNat)
      case atStart => exact ⟨0, Nat.zero_le _, rfl, rfl, Qt.refl _⟩
      case round =>
        rename_i hrel
        obtain ⟨f, hf, rfl, rfl, hqt⟩ := hrel
        by_cases hlf : f < N
        · obtain ⟨ba, oa, bA, oA, cA, rfl, a1, a2⟩ := (HU.out.1.qt hqt).ent (i := f) (j := f) hlf hlf
          have hst : trW (powM N M q) (f+1) = wrap64 (trW (powM N M q) f + powM N M q f f) := rfl
          generalize powM N M q f f = x at a2 hst
          generalize trW (powM N M q) f = d at hst ⊢
          obtain ⟨t, ht⟩ : ∃ t, t = trW (powM N M q) (f+1) := ⟨_, rfl⟩
          rw [← ht] at hst
          have HS := Lib.hid ht
          have t2 : IntKind.i64.wrap (d + x) = t := by rw [IntWalk.i64_left, hst]
          have t4 : wrap64 (d + x) = t := hst.symm
          clear hst ht
          go_wp2
          go_roundw
          case rel => exact ⟨f+1, by omega, by go_num, by rw [← HS.out], hqt⟩
          case measure => simp [intOf]; omega
        · obtain rfl : f = N := by omega
          obtain ⟨hPW, hown, hMR, hB⟩ := HU.out
          replace hPW := hPW.qt hqt
          replace hown := ownsRow_chg hown (hqt.chg 0 0) (fun _ _ => .inr (Nat.zero_le _))
          replace hMR := hMR.qt hqt
          replace hB := hB.qt hqt
          have hst := cntV_step f M q
          generalize trW (powM f M q) f = t at hst ⊢
          have HST := Lib.hid hst
          clear hst hqt
          have hq1 : q ≤ 1000 := by have := HQR.out; omega
          have hglt := hown.lt g rfl
          go_wp2_with (at_builtin; refine wpList_append_lies _ rfl _ _ 25 rfl H 2 i0 (.int .i64 0) 1 8 Try.underlying25 hi' z0 z1 z2 rfl (by decide) _ _ _ rfl (hown.alloc _) ⟨wr.heap.size, 0, none⟩ 1 1 [.int .i64 t] rfl rfl ?c1 ?c2 (by decide) ?c3 ?c4 ?c5 _ rfl ?_)
          case c1 => exact news_one _ _ _
          case c2 => intro u hu; simp at hu; subst hu; rfl
          case c3 => unfold maxLen; omega
          case c4 => omega
          case c5 => simp; omega
          intro g2 c3 w3 hown3 hgr hlie hlt3
          have hch : Chg g (g + 1) wr w3 := snocC (Below.refl wr.heap.size wr) hgr
          replace hPW := hPW.chg hch (by omega)
          replace hMR := hMR.chg hch (.inl hglt.1)
          replace hB := hB.chgn hch (by omega) hB.size
          rw [← HST.out] at hown3
          have hg2 : H ≤ g2 ∧ g2 < w3.heap.size := hown3.lt g2 rfl
          clear hgr hown hch hlie hlt3 hglt
          have hr'1 : r' ≤ 1000 := by have := HQR.out; omega
          by_cases hr1 : 0 < r'
          · have hr2 : (1 : Int) < (r' : Int) + 1 := by omega
            have hN1 : f ≤ 1000 := by omega
            have hpr := l02Product a7 f c7 a5 c5 (powM f M q) M w3 hN1 hPW hMR
            go_wp2_with fail
            refine hpr.mono ?_
            clear hpr
            rintro e w4 ⟨a8, c8, rfl, o4, b4⟩
            have hP4 : RdR w3.heap.size w4.heap.size w4 (.slice a8 f c8) (tab f (powM f M (q + 1))) := o4.rd
            have HF := Lib.hid (⟨hP4, ownsRow_chg hown3 (b4.chg 0 0) (fun _ _ => .inr (Nat.zero_le _)), hMR.below b4, hB.next b4⟩ : _ ∧ _ ∧ _ ∧ _)
            clear hP4 o4 b4 hown3 hMR hPW hB
            have hw1 : wrap64 (r' : Int) = (r' : Int) := IntWalk.wrap64_in _ (by omega)
            have hw2 : IntKind.i64.wrap (r' : Int) = (r' : Int) := IntWalk.i64_in _ (by clear hw1; omega)
            go_wp2
            clear hw1 hw2
            go_roundw
            case rel => exact ⟨q+1, r', g2, c3, w3.heap.size, w4.heap.size, a8, c8, by have := HQR.out; omega, rfl, rfl, rfl, Lib.hid (fun _ => ⟨.inl hg2.2, HF.out.1⟩), HF.out.2⟩
            case measure => first | (simp [intOf]; done) | (simp [intOf]; omega)
          · have hr2 : ¬ (1 : Int) < (r' : Int) + 1 := by omega
            have hr3 : ¬ 0 < r' := hr1
            have HF := Lib.hid (⟨hown3, hMR, hB⟩ : _ ∧ _ ∧ _)
            clear hown3 hMR hPW hB hr3
            go_wp2
            go_roundw
            case rel => exact ⟨q+1, r', g2, c3, 0, 0, a7, c7, by have := HQR.out; omega, rfl, rfl, rfl, Lib.hid (fun h => absurd h hr1), HF.out⟩
            case measure => first | (simp [intOf]; done) | (simp [intOf]; omega)
    · obtain rfl : r = 0 := by omega
      obtain rfl : q = k := by omega
      have hO : OwI H U.heap.size U (.slice (some ⟨g, 0, none⟩) q cc) (cnts N M q) := OwI.mk hown (by omega) (cnts_I64 N M q)
      have hO2 := hO.mono hwH (Nat.le_refl _)
      have HF := Lib.hid (⟨hO2, hB⟩ : _ ∧ _)
      clear HGP hown hMR hB hO hO2
      go_wp2
      go_ret
      exact ⟨_, _, rfl, HF.out⟩

end Go.Proofs.Ytgcidkcedfliiaa
