/- Closed numbers of the model. -/
import Derived.Test.YtgcidkcedfliiaaSpecRows
import Derived.Test.YtgcidkcedfliiaaSpecLen
import Derived.Test.YtgcidkcedfliiaaProd
set_option linter.unusedSimpArgs false
set_option linter.unusedVariables false
namespace Go.Proofs.Ytgcidkcedfliiaa
open Go.RowKit

set_option maxRecDepth 100000 in
set_option maxHeartbeats 6400000 in
theorem l03Count {lo hi : Nat} (s : Int) (a : Option Addr) (n c : Nat) (xss : List (List Int)) (kk : Nat) (w : World) (h : RdR lo hi w (.slice a n c) xss) (hn : xss.length = n) (hg : grB s xss = true) (hk1 : 1 ≤ kk) (hk12 : kk ≤ 12) :
    Calls Try.prog 86 #[.agg #[.int .i64 s, .slice a n c], .int .i64 kk] w fun e w' => e = .returned (.int .i64 (clN (2 * n) (edgeM (dirE (pairs xss))) kk)) ∧ Below w.heap.size w w' := by
  have hn10 : n ≤ 10 := by have := grB_iff hg; omega
  have HR := Lib.hid h
  have HNX := Lib.hid (fun W' (h' : RdR lo hi W' (.slice a n c) xss) x y i0 i1 j0 j1 => l03Next s a n c xss W' h' hn hg x y i0 i1 j0 j1)
  have HRO := Lib.hid (fun W' (h' : RdR lo hi W' (.slice a n c) xss) => l03Rows s a n c xss kk W' h' hn hg hk1 hk12)
  obtain ⟨ds, hds⟩ : ∃ ds, ds = dirE (pairs xss) := ⟨_, rfl⟩
  obtain ⟨N, hN⟩ : ∃ N, N = 2 * n := ⟨_, rfl⟩
  rw [← hds, ← hN] at HRO
  rw [← hds] at HNX ⊢
  have hN20 : N ≤ 20 := by omega
  have HM3 := Lib.hid (show 2 * (n : Int) = (N : Int) by omega)
  obtain ⟨K, hK⟩ : ∃ K, K = kk - 1 := ⟨_, rfl⟩
  have HBD := Lib.hid (pwZ_bd (N := N) (M := edgeM ds) hN20 (edgeM_01 ds))
  rw [← hN]
  obtain ⟨MM, hMM⟩ : ∃ MM, MM = edgeM ds := ⟨_, rfl⟩
  have HMM := Lib.hid hMM
  rw [← hMM] at HBD HRO ⊢
  rw [← hK] at HRO
  have hkk : kk = K + 1 := by omega
  have hcl : clN N MM kk = trZ (pwZ N MM (K + 1)) N := by rw [hkk]; rfl
  obtain ⟨res, hres⟩ : ∃ res, res = clN N MM kk := ⟨_, rfl⟩
  rw [← hres] at hcl ⊢
  have HCL := Lib.hid hcl
  have hK11 : K ≤ 11 := by omega
  clear h hn hg hds hMM hK hkk hcl hres hN hk1 hk12
  go_enter Try.func86, Try.ntmps86
  go_wp2_with fail
  refine calls_gen (fun W => Below w.heap.size w W ∧ W.cell? ⟨w.heap.size, 0, none⟩ = some (.int .i64 s) ∧ W.cell? ⟨w.heap.size, 1, none⟩ = some (.slice a n c)) ⟨(Below.refl _ _).alloc (Nat.le_refl _) _, by go_simp, by go_simp⟩ ?_
  rintro W ⟨hB, k0, k1⟩
  refine (HRO.out W (HR.out.below hB)).mono ?_
  rintro e w1 ⟨a5, c5, rfl, o1, b1⟩
  have HP0 := Lib.hid (⟨o1.rd, hB.next b1, b1.keep k0, b1.keep k1⟩ : _ ∧ _ ∧ _ ∧ _)
  generalize W.heap.size = lo5 at HP0
  generalize w1.heap.size = hi5 at HP0
  clear o1 b1 k0 k1 hB HRO
  obtain ⟨B, hBe⟩ : ∃ B, B = w.heap.size := ⟨_, rfl⟩
  rw [← hBe] at HP0 ⊢
  have HB0 := Lib.hid hBe
  clear hBe
  go_wp2
  go_loopw [6, 7] (fun v y wr => ∃ f : Nat, f ≤ N ∧ v = .int .i64 (trZ (pwZ N MM (K + 1)) f) ∧ y = .int .i64 f ∧ RdR lo5 hi5 wr (.slice a5 N c5) (tab N (pwZ N MM K)) ∧ Below B w wr ∧ wr.cell? ⟨B, 0, none⟩ = some (.int .i64 s) ∧ wr.cell? ⟨B, 1, none⟩ = some (.slice a n c)) (fun _ y _ => N - (intOf y).toNat)
  case atStart => exact ⟨0, Nat.zero_le _, rfl, rfl, HP0.out⟩
  case round =>
    clear HP0
    obtain ⟨f, hf, rfl, rfl, hRD, hB, k0, k1⟩ := hrel
    by_cases hlf : f < N
    · have HU := Lib.hid (⟨hRD, hB, k0, k1⟩ : _ ∧ _ ∧ _ ∧ _)
      clear hRD hB k0 k1
      have hbt := trZ_bd (HBD.out (K + 1)) f
      have hbt2 := kB (show f ≤ 20 by omega) (show (0 : Int) ≤ bnd (K + 1) by have := bnd_pos (K + 1); omega)
      have hbt3 := bnd_le (show K + 1 ≤ 12 by omega)
      obtain ⟨T, hT⟩ : ∃ T, T = trZ (pwZ N MM (K + 1)) f := ⟨_, rfl⟩
      have hTs : trZ (pwZ N MM (K + 1)) (f + 1) = T + dotZ (pwZ N MM K f) (fun r => MM r f) N := by rw [hT]; rfl
      rw [← hT] at hbt ⊢
      have HTS := Lib.hid hTs
      have hT0 : 0 ≤ T ∧ T ≤ 81920000000000000 := by omega
      clear hT hTs hbt hbt2 hbt3
      go_wp2
      go_loopw [6, 8] (fun v y wr' => ∃ b : Nat, b ≤ N ∧ v = .int .i64 (T + dotZ (pwZ N MM K f) (fun r => MM r f) b) ∧ y = .int .i64 b ∧ RdR lo5 hi5 wr' (.slice a5 N c5) (tab N (pwZ N MM K)) ∧ Below B w wr' ∧ wr'.cell? ⟨B, 0, none⟩ = some (.int .i64 s) ∧ wr'.cell? ⟨B, 1, none⟩ = some (.slice a n c)) (fun _ y _ => N - (intOf y).toNat)
      case atStart => exact ⟨0, Nat.zero_le _, by simp [dotZ], rfl, HU.out⟩
      case round =>
        rename_i hrel
        clear HU
        obtain ⟨b, hbN, rfl, rfl, hRD, hB, k0, k1⟩ := hrel
        by_cases hlb : b < N
        · obtain ⟨ba, oa, bA, oA, cA, rfl, a1, a2⟩ := hRD.ent (i := f) (j := b) hlf hlb
          have hst : dotZ (pwZ N MM K f) (fun r => MM r f) (b + 1) = dotZ (pwZ N MM K f) (fun r => MM r f) b + pwZ N MM K f b * MM b f := rfl
          have hxb := HBD.out K f b
          have hxb2 := bnd_le (show K ≤ 12 by omega)
          have hdb := dotZ_bd (u := pwZ N MM K f) (v := fun r => MM r f) (HBD.out K f) (fun r => by rw [HMM.out]; exact edgeM_01 ds r f) b
          have hdb2 := kB (show b ≤ 20 by omega) (show (0 : Int) ≤ bnd K by have := bnd_pos K; omega)
          generalize pwZ N MM K f b = x at a2 hst hxb
          generalize dotZ (pwZ N MM K f) (fun r => MM r f) b = d at hst hdb ⊢
          have hxr : 0 ≤ x ∧ x ≤ 4096000000000000 := by omega
          have hdr : 0 ≤ d ∧ d ≤ 81920000000000000 := by omega
          clear hxb hxb2 hdb hdb2
          by_cases hx : 0 < x
          · obtain ⟨b0, hb0⟩ : ∃ b0 : Bool, b0 = stepQ ds (b : Int) (f : Int) := ⟨_, rfl⟩
            have hnx := HNX.out wr (HR.out.below (by rw [HB0.out] at hB; exact hB)) (b : Int) (f : Int) (by omega) (by rw [HM3.out]; omega) (by omega) (by rw [HM3.out]; omega)
            rw [← hb0] at hnx
            have hme : MM b f = if b0 = true then 1 else 0 := by rw [HMM.out, hb0]; rfl
            rw [hme] at hst
            have HST := Lib.hid hst
            have HO := Lib.hid (⟨hRD, hB⟩ : _ ∧ _)
            have hxd : decide (0 < x) = true := decide_eq_true hx
            have HTD := Lib.hid (⟨hT0, hdr, hxr⟩ : _ ∧ _ ∧ _)
            clear hme hb0 hst hRD hB hT0 hdr hxr
            go_wp2_with fail
            refine hnx.mono ?_
            clear hnx
            rintro e w5 ⟨rfl, b5⟩
            obtain ⟨hRD, hB⟩ := HO.out
            replace a1 := b5.keep a1
            replace a2 := b5.keep a2
            have hB5 : Below B w w5 := by rw [HB0.out] at hB ⊢; exact hB.next b5
            have HF := Lib.hid (⟨hRD.below b5, hB5, b5.keep k0, b5.keep k1⟩ : _ ∧ _ ∧ _ ∧ _)
            clear hRD hB hB5 b5 k0 k1 HO
            cases b0 with
            | false =>
              have hst := HST.out
              rw [if_neg (by simp), Int.mul_zero, Int.add_zero] at hst
              have HS2 := Lib.hid hst
              clear hst
              go_wp2
              go_roundw
              case rel => exact ⟨b+1, by omega, by rw [HS2.out], by go_num, HF.out⟩
              case measure => simp [intOf]; omega
            | true =>
              have hst := HST.out
              rw [if_pos rfl, Int.mul_one] at hst
              have HS2 := Lib.hid hst
              have hdx : -9223372036854775808 ≤ T + d + x ∧ T + d + x ≤ 9223372036854775807 := by
                obtain ⟨h1, h2, h3⟩ := HTD.out; omega
              obtain ⟨t, ht⟩ : ∃ t, t = T + d + x := ⟨_, rfl⟩
              rw [← ht] at hdx
              have t1 : IntKind.i64.wrap (T + d + x) = t := by rw [← ht]; exact IntWalk.i64_in _ hdx
              have t2 : wrap64 (T + d + x) = t := by rw [← ht]; exact IntWalk.wrap64_in _ hdx
              have HT := Lib.hid (show t = T + (d + x) by rw [ht, Int.add_assoc])
              clear hst hdx ht
              go_wp2
              clear t1 t2
              go_roundw
              case rel => exact ⟨b+1, by omega, by rw [HS2.out, HT.out], by go_num, HF.out⟩
              case measure => simp [intOf]; omega
          · have hx0 : x = 0 := by omega
            rw [hx0] at a2 hst
            rw [Int.zero_mul, Int.add_zero] at hst
            have HS2 := Lib.hid hst
            have HF := Lib.hid (⟨hRD, hB, k0, k1⟩ : _ ∧ _ ∧ _ ∧ _)
            clear hst hx hx0 hxr hRD hB k0 k1
            go_wp2
            go_roundw
            case rel => exact ⟨b+1, by omega, by rw [HS2.out], by go_num, HF.out⟩
            case measure => simp [intOf]; omega
        · obtain rfl : b = N := by omega
          have HF := Lib.hid (⟨hRD, hB, k0, k1⟩ : _ ∧ _ ∧ _ ∧ _)
          clear hRD hB k0 k1
          go_wp2
          go_roundw
          case rel => exact ⟨f+1, by omega, by rw [HTS.out], by go_num, HF.out⟩
          case measure => simp [intOf]; omega
    · obtain rfl : f = N := by omega
      rw [HB0.out] at hB
      have HF := Lib.hid hB
      clear hRD hB k0 k1
      go_wp2
      go_ret
      exact ⟨by rw [HCL.out]; rfl, HF.out⟩

end Go.Proofs.Ytgcidkcedfliiaa
