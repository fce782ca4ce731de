/- PrimeCounts of the model. -/
import Derived.Test.YtgcidkcedfliiaaPrimC
set_option linter.unusedSimpArgs false
set_option linter.unusedVariables false
namespace Go.Proofs.Ytgcidkcedfliiaa
open Go.RowKit

theorem pcOf_eq (s : Int) (xss : List (List Int)) (k : Int) : pcOf s xss k = if ccode s xss k 1 10 = 0 then (pcs (cnts (2 * xss.length) (edgeM (dirE (pairs xss))) k.toNat) k.toNat, 0) else ([], ccode s xss k 1 10) := by
  unfold pcOf
  rw [stcOf_code]
  by_cases h : ccode s xss k 1 10 = 0
  · rw [if_pos h, if_pos h]; unfold stcOf; rw [if_pos h]
  · rw [if_neg h, if_neg h]

set_option maxRecDepth 100000 in
set_option maxHeartbeats 6400000 in
theorem specPrimC {lo hi : Nat} (s : Int) (a : Option Addr) (n c : Nat) (xss : List (List Int)) (k : Int) (w : World) (h : RdR lo hi w (.slice a n c) xss) (hn : xss.length = n) :
    Calls Try.prog 44 #[.agg #[.int .i64 s, .slice a n c], .int .i64 k] w fun e w' => ∃ a' c', e = .returned (.tuple #[.slice a' (pcOf s xss k).1.length c', .int .i64 (pcOf s xss k).2]) ∧ OwI w.heap.size w'.heap.size w' (.slice a' (pcOf s xss k).1.length c') (pcOf s xss k).1 ∧ Below w.heap.size w w' := by
  obtain ⟨i0, hi', z0, z1, z2⟩ := info_parts Try.info2
  have HR := Lib.hid h
  have HC := Lib.hid (fun W' (h' : RdR lo hi W' (.slice a n c) xss) => l02Code s a n c xss k 1 W' h' hn)
  have HS := Lib.hid (fun W' (h' : RdR lo hi W' (.slice a n c) xss) hg (k : Nat) hk => l02Straight s a n c xss k W' h' hn hg hk)
  have HO := Lib.hid (fun h => ccode_ok (s := s) (xss := xss) (k := k) (low := 1) (top := 10) h)
  obtain ⟨P, hP⟩ : ∃ P, P = pcOf s xss k := ⟨_, rfl⟩
  rw [← hP]
  rw [pcOf_eq, hn] at hP
  generalize ccode s xss k 1 10 = code at HC HO hP
  have HP := Lib.hid hP
  clear h hn hP
  go_enter Try.func44, Try.ntmps44
  go_wp2_with fail
  refine calls_gen (fun W => Below w.heap.size w W ∧ W.cell? ⟨w.heap.size, 0, none⟩ = some (.int .i64 s) ∧ W.cell? ⟨w.heap.size, 1, none⟩ = some (.slice a n c)) ⟨(Below.refl _ _).alloc (Nat.le_refl _) _, by go_simp, by go_simp⟩ ?_
  rintro W ⟨hB, k0, k1⟩
  refine (HC.out W (HR.out.below hB)).mono ?_
  rintro e w1 ⟨rfl, b1⟩
  replace hB := hB.next b1
  replace k0 := b1.keep k0
  replace k1 := b1.keep k1
  clear b1
  have hP := HP.out
  clear HP
  by_cases hc : code = 0
  · obtain ⟨hg, hk1, hk2⟩ := HO.out hc
    subst hc
    rw [if_pos rfl] at hP
    obtain ⟨q, rfl⟩ : ∃ q : Nat, k = (q : Int) := ⟨k.toNat, by omega⟩
    rw [Int.toNat_natCast] at hP
    have hlen : P.1.length = q := by rw [hP]; exact pcs_len _ _
    have hq1 : 1 ≤ q := by omega
    have hq10 : q ≤ 10 := by omega
    have HP2 := Lib.hid (⟨hP, hlen⟩ : _ ∧ _)
    have hS := HS.out w1 (HR.out.below hB) hg q (by omega)
    have hcl := cnts_len (2 * n) (edgeM (dirE (pairs xss))) q
    generalize cnts (2 * n) (edgeM (dirE (pairs xss))) q = cs at hS HP2 hcl
    have HCL := Lib.hid hcl
    clear hP hlen hg HO HS hk1 hk2 hcl
    go_wp2_with fail
    refine hS.mono ?_
    clear hS
    rintro e w2 ⟨a7, c7, rfl, o2, b2⟩
    have hRD : RdI w.heap.size w2.heap.size w2 (.slice a7 q c7) cs := (o2.mono hB.size (Nat.le_refl _)).rd
    replace hB := hB.next b2
    obtain ⟨H, hH⟩ : ∃ H, H = w2.heap.size := ⟨_, rfl⟩
    have hl0 := World.ownsRow_lit (base := w2.heap.size) (e := 2) (size := 1) w2 #[] 0 (Nat.le_refl _) (by unfold maxLen; omega) rfl
    have hbA := (Below.refl w2.heap.size w2).alloc (Nat.le_refl _) (.cells #[] 2)
    have hwH : w.heap.size ≤ H := by rw [hH]; exact hB.size
    have HP0 := Lib.hid (⟨hl0, hRD.below hbA, hB.next hbA⟩ : _ ∧ _ ∧ _)
    rw [← hH] at HP0
    clear o2 b2 hRD hB hl0 hbA k0 k1
    go_wp2
    rw [← hH]
    clear hH
    go_loopw [8, 9] (fun v y wr => ∃ (f g cc : Nat), f ≤ q ∧ v = .slice (some ⟨g, 0, none⟩) f cc ∧ y = .int .i64 ((f + 1 : Nat) : Int) ∧ wr.ownsRow H 2 1 (.slice (some ⟨g, 0, none⟩) f cc) f (pcV cs f) ∧ RdI w.heap.size H wr (.slice a7 q c7) cs ∧ Below w.heap.size w wr) (fun _ y _ => q + 1 - (intOf y).toNat)
    case atStart => exact ⟨0, H, 0, Nat.zero_le _, rfl, rfl, HP0.out⟩
    case round =>
      clear HP0
      obtain ⟨f, g, cc, hf, rfl, rfl, hown, hRD, hB⟩ := hrel
      by_cases hlf : f < q
      · obtain ⟨U, rfl⟩ : ∃ U, U = wr := ⟨_, rfl⟩
        have HU := Lib.hid (⟨hown, hRD, hB⟩ : _ ∧ _ ∧ _)
        clear hown hRD hB
        go_wp2
        go_loopw [10, 11] (fun v y wr' => ∃ d : Nat, d ≤ f + 1 ∧ v = .int .i64 (pcS cs (f + 1) d) ∧ y = .int .i64 ((d + 1 : Nat) : Int) ∧ Qt U wr') (fun _ y _ => q + 2 - (intOf y).toNat)
        case atStart => exact ⟨0, Nat.zero_le _, rfl, rfl, Qt.refl _⟩
        case round =>
          rename_i hrel
          obtain ⟨d, hd, rfl, rfl, hqt⟩ := hrel
          by_cases hld : d < f + 1
          · obtain ⟨b, off, rfl, g0⟩ := (HU.out.2.1.qt hqt).at' HCL.out d (by omega)
            have hst : pcS cs (f + 1) (d + 1) = if (f + 1) % (d + 1) = 0 then wrap64 (pcS cs (f + 1) d + wrap64 (moeb ((f + 1) / (d + 1)) * cs.getD d 0)) else pcS cs (f + 1) d := rfl
            obtain ⟨r, hr⟩ : ∃ r, r = (f + 1) % (d + 1) := ⟨_, rfl⟩
            obtain ⟨l, hl⟩ : ∃ l, l = (f + 1) / (d + 1) := ⟨_, rfl⟩
            have hl12 : l ≤ 12 := by rw [hl]; exact Nat.le_trans (Nat.div_le_self _ _) (by omega)
            have m1 : ((f : Int) + 1).tmod ((d : Int) + 1) = (r : Int) := by
              rw [Int.tmod_eq_emod_of_nonneg (by omega), hr, Int.natCast_emod]; rfl
            have m2 : ((f : Int) + 1).tdiv ((d : Int) + 1) = (l : Int) := by
              rw [Int.tdiv_eq_ediv_of_nonneg (by omega), hl, Int.natCast_ediv]; rfl
            have hrr : r ≤ 12 := by rw [hr]; exact Nat.le_trans (Nat.mod_le _ _) (by omega)
            rw [← hr, ← hl] at hst
            generalize cs.getD d 0 = x at g0 hst
            have hSI := pcS_I64 cs (f + 1) d
            generalize pcS cs (f + 1) d = S at hst hSI ⊢
            obtain ⟨m, hm⟩ : ∃ m, m = wrap64 (moeb l * x) := ⟨_, rfl⟩
            obtain ⟨t, ht⟩ : ∃ t, t = wrap64 (S + m) := ⟨_, rfl⟩
            rw [← hm, ← ht] at hst
            have hz : ¬ ((d : Int) + 1) = 0 := by omega
            have hMO := specMoeb l
            have hx0 : (0 : Int) ≤ (d : Int) := by omega
            have hx1 : (d : Int) < (q : Int) := by omega
            have hx2 : (d : Int) ≤ (f : Int) := by omega
            have u1 : IntKind.i64.wrap (moeb l * x) = m := by rw [IntWalk.i64_left, hm]
            have u2 : IntKind.i64.wrap (S + m) = t := by rw [IntWalk.i64_left, ht]
            have u3 : wrap64 (moeb l * x) = m := hm.symm
            have u4 : wrap64 (S + m) = t := ht.symm
            clear hm ht hr hl
            by_cases hr0 : r = 0
            · subst hr0
              rw [if_pos rfl] at hst
              have HST := Lib.hid hst
              clear hst
              have v5 : (d : Int).toNat = d := by omega
              have HLE := Lib.hid hl12
              clear hSI hrr
              have v1 : IntKind.i64.wrap (d : Int) = (d : Int) := IntWalk.i64_in _ (by clear u1 u2 u3 u4; omega)
              have v2 : wrap64 (d : Int) = (d : Int) := IntWalk.wrap64_in _ (by clear u1 u2 u3 u4 v1; omega)
              have v3 : IntKind.i64.wrap (l : Int) = (l : Int) := IntWalk.i64_in _ (by clear u1 u2 u3 u4 v1 v2; omega)
              have v4 : wrap64 (l : Int) = (l : Int) := IntWalk.wrap64_in _ (by clear u1 u2 u3 u4 v1 v2 v3; omega)
              generalize moeb l = mu at u1 u3 hMO
              go_wp2
              go_quiet ((go_at_call 83; exact Calls.quiet_of (hMO _ HLE.out)))
              clear v1 v2 v3 v4 v5 u1 u2 u3 u4 m1 m2
              go_wp2
              go_roundw
              case rel => exact ⟨d+1, by omega, by rw [HST.out], by go_num, hqt.drewN _⟩
              case measure => simp [intOf]; omega
            · have hr0b : ((r : Int) == 0) = false := by simp; omega
              rw [if_neg hr0] at hst
              have HST := Lib.hid hst
              clear hst u1 u2 u3 u4 g0 hSI
              have v1 : IntKind.i64.wrap (r : Int) = (r : Int) := IntWalk.i64_in _ (by omega)
              have v2 : wrap64 (r : Int) = (r : Int) := IntWalk.wrap64_in _ (by clear v1; omega)
              clear hr0 hMO
              go_wp2
              clear v1 v2 m1 m2
              go_roundw
              case rel => exact ⟨d+1, by omega, by rw [HST.out], by go_num, hqt⟩
              case measure => simp [intOf]; omega
          · obtain rfl : d = f + 1 := by omega
            obtain ⟨hown, hRD, hB⟩ := HU.out
            replace hown := ownsRow_chg hown (hqt.chg 0 0) (fun _ _ => .inr (Nat.zero_le _))
            replace hRD := hRD.qt hqt
            replace hB := hB.qt hqt
            have hst := pcV_step cs f
            have hpc : primeC cs (f + 1) = wrap64 ((pcS cs (f + 1) (f + 1)).tdiv ((f : Int) + 1)) := rfl
            generalize primeC cs (f + 1) = t at hst hpc
            generalize pcS cs (f + 1) (f + 1) = S at hpc ⊢
            have HST := Lib.hid hst
            have hglt := hown.lt g rfl
            have hHz : H ≤ wr.heap.size := by omega
            have hm1 : f + 1 ≤ maxLen := by unfold maxLen; omega
            have hm2 : (f + 1) * 8 ≤ 140737488355328 := by omega
            have u1 : IntKind.i64.wrap (S.tdiv ((f : Int) + 1)) = t := by rw [IntWalk.i64_left, hpc]
            have u2 : wrap64 (S.tdiv ((f : Int) + 1)) = t := hpc.symm
            have hz : ¬ ((f : Int) + 1) = 0 := by omega
            clear hst hqt hpc
            go_wp2_with (at_builtin; refine wpList_append_lies _ rfl _ _ 25 rfl H 2 i0 (.int .i64 0) 1 8 Try.underlying25 hi' z0 z1 z2 rfl (by decide) _ _ _ rfl (hown.alloc _) ⟨wr.heap.size, 0, none⟩ 1 1 [.int .i64 t] rfl rfl ?c1 ?c2 (by decide) ?c3 ?c4 ?c5 _ rfl ?_)
            case c1 => exact news_one _ _ _
            case c2 => intro u hu; simp at hu; subst hu; rfl
            case c3 => exact hm1
            case c4 => exact hm2
            case c5 => clear u1 u2; simp; omega
            intro g2 c3 w3 hown3 hgr hlie hlt3
            clear u1 u2
            have hch : Chg g (g + 1) wr w3 := snocC (Below.refl wr.heap.size wr) hgr
            have HF := Lib.hid (⟨by rw [HST.out]; exact hown3, hRD.chg hch (.inl hglt.1), hB.chgn hch (Nat.le_trans hwH hglt.1) hB.size⟩ : w3.ownsRow H 2 1 (.slice (some ⟨g2, 0, none⟩) (f + 1) c3) (f + 1) (pcV cs (f + 1)) ∧ _ ∧ _)
            clear hgr hown hch hlie hlt3 hglt hRD hB hown3
            go_wp2
            go_roundw
            case rel => exact ⟨f+1, g2, c3, by omega, rfl, by go_num, HF.out⟩
            case measure => simp [intOf]; omega
      · obtain rfl : f = q := by omega
        have hO : OwI H wr.heap.size wr (.slice (some ⟨g, 0, none⟩) f cc) (pcs cs f) := OwI.mk hown (by omega) (pcs_I64 cs f)
        have hO2 := hO.mono hwH (Nat.le_refl _)
        have HF := Lib.hid (⟨hO2, hB⟩ : _ ∧ _)
        clear hown hRD hB hO hO2
        go_wp2
        go_ret2
        refine ⟨some ⟨g, 0, none⟩, cc, ?_, ?_, HF.out.2⟩
        · rw [HP2.out.2, HP2.out.1]; rfl
        · rw [HP2.out.2, HP2.out.1]; exact HF.out.1
  · rw [if_neg hc] at hP
    have hcb : (code != 0) = true := by simpa using hc
    clear hc k0 k1
    subst hP
    go_wp2
    go_ret2
    exact ⟨none, 0, rfl, OwI.nil _ _ _, hB⟩

end Go.Proofs.Ytgcidkcedfliiaa
