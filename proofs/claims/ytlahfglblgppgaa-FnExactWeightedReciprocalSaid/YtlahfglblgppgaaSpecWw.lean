/- WeightOfWalk of the model. -/
import Derived.Test.YtlahfglblgppgaaWtC
set_option linter.unusedSimpArgs false
set_option linter.unusedVariables false
set_option maxRecDepth 100000
namespace Go.Proofs.Ytlahfglblgppgaa
open Go.RowKit

/-- the product of the weights of the first k edges of a list, modulo p -/
def prodW (p : Int) (vs ws : List Int) : Nat → Int
  | 0 => 1
  | k + 1 => prodW p vs ws k * vs.getD (ws.getD k 0).toNat 0 % p
theorem prodW_in {p : Int} {vs ws : List Int} (hp : 2 ≤ p) : ∀ k, 0 ≤ prodW p vs ws k ∧ prodW p vs ws k < p
  | 0 => ⟨by unfold prodW; omega, by unfold prodW; omega⟩
  | k + 1 => ⟨Int.emod_nonneg _ (by omega), Int.emod_lt_of_pos _ (by omega)⟩
def wwOf (p s : Int) (xss : List (List Int)) (vs ws : List Int) : Int × Int :=
  if wtCode p s xss vs = 0 then (if walkB xss.length ws = true then (prodW p vs ws ws.length, 0) else (0, 2)) else (0, wtCode p s xss vs)
theorem wtCode_ok {p s : Int} {xss : List (List Int)} {vs : List Int} (h : wtCode p s xss vs = 0) : grB s xss = true ∧ primeB p = true ∧ weightsB p xss.length vs = true := by
  unfold wtCode at h
  split at h
  · rename_i hg
    split at h
    · rename_i hp
      split at h
      · rename_i hr
        exact ⟨hg, hp, hr⟩
      · omega
    · omega
  · omega

set_option maxHeartbeats 3200000 in
theorem specWw {lo hi lo1 hi1 lo2 hi2 : Nat} (p s : Int) (a : Option Addr) (n c : Nat) (xss : List (List Int)) (a1 : Option Addr) (n1 c1 : Nat) (vs : List Int) (a2 : Option Addr) (n2 c2 : Nat) (ws : List Int) (w : World) (h : RdR lo hi w (.slice a n c) xss) (hn : xss.length = n) (h1 : RdI lo1 hi1 w (.slice a1 n1 c1) vs) (hl : vs.length = n1) (h2 : RdI lo2 hi2 w (.slice a2 n2 c2) ws) (hl2 : ws.length = n2) :
    Calls Try.prog 29 #[.int .i64 p, .agg #[.int .i64 s, .slice a n c], .slice a1 n1 c1, .slice a2 n2 c2] w fun e w' => e = .returned (.tuple #[.int .i64 (wwOf p s xss vs ws).1, .int .i64 (wwOf p s xss vs ws).2]) ∧ Below w.heap.size w w' := by
  have hb0 : ∀ o, Below w.heap.size w (w.alloc o) := fun o => (Below.refl _ _).alloc (Nat.le_refl _) o
  have hlen2 := h2.1
  rw [hl2] at hlen2
  have HN := Lib.hid hn
  have HL := Lib.hid hl
  have HL2 := Lib.hid hl2
  have HR := Lib.hid h
  have H1 := Lib.hid h1
  have H2 := Lib.hid h2
  obtain ⟨P, hP⟩ : ∃ P, P = wwOf p s xss vs ws := ⟨_, rfl⟩
  rw [← hP]
  unfold wwOf at hP
  rw [hn] at hP
  have HP := Lib.hid hP
  have HOK := Lib.hid (fun h => wtCode_ok (p := p) (s := s) (xss := xss) (vs := vs) h)
  clear hn h hP hl h1 h2 hl2
  go_enter Try.func29, Try.ntmps29
  go_wp2_with fail
  refine calls_gen (fun W => Below w.heap.size w W ∧ W.cell? ⟨w.heap.size, 0, none⟩ = some (.int .i64 s) ∧ W.cell? ⟨w.heap.size, 1, none⟩ = some (.slice a n c)) ⟨hb0 _, by go_simp, by go_simp⟩ ?_
  rintro W ⟨hB, k0, k1⟩
  refine (l06Code p s a n c xss a1 n1 c1 vs W (HR.out.below hB) HN.out (H1.out.below hB) HL.out).mono ?_
  rintro e w1 ⟨rfl, b1⟩
  replace k0 := b1.keep k0
  replace k1 := b1.keep k1
  replace hB := hB.next b1
  clear b1
  generalize wtCode p s xss vs = cd at HP HOK ⊢
  by_cases hc : cd = 0
  case neg =>
    have hP := HP.out
    rw [if_neg hc] at hP
    have hcb : (cd != 0) = true := by simpa using hc
    have hcc : (cd == 0) = false := by simpa using hc
    subst hP
    clear HP HOK hc k0 k1
    go_wp2
    refine bodyPost_ret (v := .tuple #[.int .i64 0, .int .i64 cd]) (by simp [results, Try.results29, go_sem]) rfl ⟨rfl, hB⟩
  have hP := HP.out
  rw [if_pos hc] at hP
  obtain ⟨hg, hp, hwt⟩ := HOK.out hc
  have hp2 := primeB_hd hp
  have hn10 : n ≤ 10 := by have := grB_iff hg; have := HN.out; omega
  have HPP := Lib.hid hP
  have HWT := Lib.hid (weightsB_of hwt)
  subst hc
  clear HP HOK hP hg hp hwt
  cases hw : walkB n ws with
  | false =>
    have HWB := Lib.hid hw
    have hP := HPP.out
    rw [hw, if_neg (by simp)] at hP
    subst hP
    clear hw HPP
    go_wp2_with (go_at_call 67; refine (l02Directed s a n c a2 n2 c2 ws _ (H2.out.below hB) HL2.out hn10 hlen2).mono ?_; rw [HWB.out]; rintro e w2 ⟨rfl, b2⟩; replace hB := hB.next b2)
    refine bodyPost_ret (v := .tuple #[.int .i64 0, .int .i64 2]) (by simp [results, Try.results29, go_sem]) rfl ⟨rfl, hB⟩
  | true =>
  have HWB := Lib.hid hw
  have hP := HPP.out
  rw [hw, if_pos rfl, HL2.out] at hP
  have HPQ := Lib.hid hP
  have hwo := walkB_of hw
  have hn20 : n2 ≤ 20 := by have := HL2.out; omega
  have HIN := Lib.hid (fun j (hj : j < n2) => show 0 ≤ ws.getD j 0 ∧ (ws.getD j 0).toNat < n1 by
    have h1 := hwo.2 j (by rw [HL2.out]; exact hj)
    have h2 := HWT.out.1
    rw [HL.out, HN.out] at h2
    unfold inR at h1
    simp at h1
    simp only [List.getD] at h1 ⊢
    omega)
  have HVI := Lib.hid (fun j (hj : j < n1) => show 0 ≤ vs.getD j 0 ∧ vs.getD j 0 < p by
    have h1 := HWT.out.2 j (by rw [HL.out]; exact hj)
    unfold inR at h1
    simpa using h1)
  clear hw HPP hP hwo
  go_wp2_with (go_at_call 67; refine (l02Directed s a n c a2 n2 c2 ws _ (H2.out.below hB) HL2.out hn10 hlen2).mono ?_; rw [HWB.out]; rintro e w2 ⟨rfl, b2⟩; replace hB := hB.next b2)
  clear k0 k1
  have HBB := Lib.hid hB
  have HC := Lib.hid ((H2.out.below hB).at HL2.out)
  have HD := Lib.hid ((H1.out.below hB).at HL.out)
  clear hB
  have HPI := Lib.hid (fun k => prodW_in (p := p) (vs := vs) (ws := ws) hp2.1 k)
  go_loopw [11, 12] (fun o i wr => ∃ q : Nat, q ≤ n2 ∧ i = .int .i64 q ∧ o = .int .i64 (prodW p vs ws q) ∧ Qt w2 wr) (fun _ i _ => n2 - (intOf i).toNat)
  case atStart => exact ⟨0, Nat.zero_le _, rfl, rfl, Qt.refl _⟩
  case round =>
    obtain ⟨q, hq, rfl, rfl, hqt⟩ := hrel
    by_cases hlq : q < n2
    · obtain ⟨b, off, rfl, g0⟩ := HC.out q hlq
      replace g0 := hqt.cell g0
      obtain ⟨hx0, hx1⟩ := HIN.out q hlq
      have hst : prodW p vs ws (q + 1) = prodW p vs ws q * vs.getD (ws.getD q 0).toNat 0 % p := rfl
      obtain ⟨x, hx⟩ : ∃ x, x = (ws.getD q 0).toNat := ⟨_, rfl⟩
      have hxe : ws.getD q 0 = (x : Int) := by omega
      rw [← hx] at hst hx1
      rw [hxe] at g0
      obtain ⟨b', off', rfl, g1⟩ := HD.out x hx1
      replace g1 := hqt.cell g1
      obtain ⟨hy0, hy1⟩ := HVI.out x hx1
      obtain ⟨hp0, hp1⟩ := HPI.out q
      generalize vs.getD x 0 = y at g1 hy0 hy1 hst
      generalize prodW p vs ws q = P0 at hp0 hp1 hst ⊢
      have HST := Lib.hid hst
      obtain ⟨z, hz⟩ : ∃ z, z = P0 * y := ⟨_, rfl⟩
      have hzb : 0 ≤ z ∧ z ≤ 100140049 := by
        have h1 := Int.mul_le_mul (show P0 ≤ 10007 by omega) (show y ≤ 10007 by omega) hy0 (by decide)
        rw [hz]
        exact ⟨Int.mul_nonneg hp0 hy0, by simpa using h1⟩
      have HZ : Hid (P0 * y % p = z % p) := Lib.hid (by rw [hz])
      have z1 : IntKind.i64.wrap (P0 * y) = z := by rw [← hz]; exact IntWalk.i64_in _ (by clear hz hx hxe; omega)
      have z2 : wrap64 (P0 * y) = z := by rw [← hz]; exact IntWalk.wrap64_in _ (by clear hz hx hxe z1; omega)
      have hrz : 0 ≤ z % p ∧ z % p < p := ⟨Int.emod_nonneg _ (by clear hz hx hxe z1 z2; omega), Int.emod_lt_of_pos _ (by clear hz hx hxe z1 z2; omega)⟩
      have hre : z.tmod p = z % p := Int.tmod_eq_emod_of_nonneg hzb.1
      have hpz : ¬ p = 0 := by clear hz hx hxe z1 z2; omega
      have hxn : (x : Int) < (n1 : Int) := by clear hz hx hxe z1 z2; omega
      have hxz : (0 : Int) ≤ (x : Int) := by clear hz hx hxe z1 z2; omega
      obtain ⟨r, hr⟩ : ∃ r, r = z % p := ⟨_, rfl⟩
      rw [← hr] at hrz hre HZ
      have r1 : IntKind.i64.wrap r = r := IntWalk.i64_in _ (by clear hz hx hxe z1 z2 hr; omega)
      have hre2 : z % p = r := hr.symm
      clear hz hx hxe hr hst hx0 hzb
      go_wp2
      go_roundw
      case rel => exact ⟨q+1, by omega, by go_num, by rw [HST.out, HZ.out], hqt⟩
      case measure => simp [intOf]; omega
    · obtain rfl : q = n2 := by omega
      have HPF := HPQ
      clear HPI
      go_wp2
      refine bodyPost_ret (v := .tuple #[.int .i64 (prodW p vs ws q), .int .i64 0]) (by simp [results, Try.results29, go_sem]) rfl ⟨by rw [HPF.out], HBB.out.qt hqt⟩

end Go.Proofs.Ytlahfglblgppgaa
