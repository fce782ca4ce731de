/- WeightedCounts of the program. -/
import Derived.Test.YtebgbplhcaocoaaWcT
import Derived.Test.YtebgbplhcaocoaaWtR
set_option linter.unusedSimpArgs false
set_option linter.unusedVariables false
set_option maxRecDepth 100000
namespace Go.Proofs.Ytebgbplhcaocoaa
open Go.RowKit

def wcOf (p s : Int) (xss : List (List Int)) (vs : List Int) (k : Int) : List Int × Int :=
  if wtCode p s xss vs = 0 then (if 1 ≤ k ∧ k ≤ 20 then (wcL p (2 * xss.length) (wtM (edgeM (dirE (pairs xss))) vs) k.toNat, 0) else ([], 2)) else ([], wtCode p s xss vs)

set_option maxHeartbeats 3200000 in
theorem implWc {lo hi lo1 hi1 : Nat} (p s : Int) (a : Option Addr) (n c : Nat) (xss : List (List Int)) (a1 : Option Addr) (n1 c1 : Nat) (vs : List Int) (k : Int) (w : World) (h : RdR lo hi w (.slice a n c) xss) (hn : xss.length = n) (h1 : RdI lo1 hi1 w (.slice a1 n1 c1) vs) (hl : vs.length = n1) :
    Calls Try.prog 52 #[.int .i64 p, .agg #[.int .i64 s, .slice a n c], .slice a1 n1 c1, .int .i64 k] w fun e w' => ∃ a' c', e = .returned (.tuple #[.slice a' (wcOf p s xss vs k).1.length c', .int .i64 (wcOf p s xss vs k).2]) ∧ OwI w.heap.size w'.heap.size w' (.slice a' (wcOf p s xss vs k).1.length c') (wcOf p s xss vs k).1 ∧ Below w.heap.size w w' := by
  have hb0 : ∀ o, Below w.heap.size w (w.alloc o) := fun o => (Below.refl _ _).alloc (Nat.le_refl _) o
  have HN := Lib.hid hn
  have HL := Lib.hid hl
  have HR := Lib.hid h
  have H1 := Lib.hid h1
  obtain ⟨P, hP⟩ : ∃ P, P = wcOf p s xss vs k := ⟨_, rfl⟩
  rw [← hP]
  unfold wcOf at hP
  rw [hn] at hP
  have HP := Lib.hid hP
  have HOK := Lib.hid (fun h => wtCode_ok (p := p) (s := s) (xss := xss) (vs := vs) h)
  clear hn h hP hl h1
  go_enter Try.func52, Try.ntmps52
  go_wp2_with fail
  refine calls_gen (fun W => Below w.heap.size w W ∧ W.cell? ⟨w.heap.size, 0, none⟩ = some (.int .i64 s) ∧ W.cell? ⟨w.heap.size, 1, none⟩ = some (.slice a n c)) ⟨hb0 _, by go_simp, by go_simp⟩ ?_
  rintro W ⟨hB, k0, k1⟩
  refine (checkWeights p s a n c xss a1 n1 c1 vs W (HR.out.below hB) HN.out (H1.out.below hB) HL.out).mono ?_
  rintro e w1 ⟨rfl, b1⟩
  replace k0 := b1.keep k0
  replace k1 := b1.keep k1
  replace hB := hB.next b1
  clear b1
  generalize wtCode p s xss vs = cd at HP HOK ⊢
  by_cases hc : cd = 0
  case neg =>
    have hP := HP.out
    rw [if_neg hc] at hP
    have hcb : (cd != 0) = true := by simpa using hc
    subst hP
    clear HP HOK hc k0 k1
    go_wp2
    refine bodyPost_ret (v := .tuple #[.slice none 0 0, .int .i64 cd]) (by simp [results, Try.results52, go_sem]) rfl ⟨none, 0, rfl, OwI.nil' _ _ _, hB⟩
  have hP := HP.out
  rw [if_pos hc] at hP
  by_cases hk : 1 ≤ k ∧ k ≤ 20
  case neg =>
    rw [if_neg hk] at hP
    subst hP
    subst hc
    clear HP HOK k0 k1
    by_cases hk1 : k < 1
    · clear hk
      go_wp2
      refine bodyPost_ret (v := .tuple #[.slice none 0 0, .int .i64 2]) (by simp [results, Try.results52, go_sem]) rfl ⟨none, 0, rfl, OwI.nil' _ _ _, hB⟩
    · have hk2 : k > 20 := by omega
      clear hk
      go_wp2
      refine bodyPost_ret (v := .tuple #[.slice none 0 0, .int .i64 2]) (by simp [results, Try.results52, go_sem]) rfl ⟨none, 0, rfl, OwI.nil' _ _ _, hB⟩
  rw [if_pos hk] at hP
  obtain ⟨K, rfl⟩ : ∃ K : Nat, k = (K : Int) := ⟨k.toNat, by omega⟩
  rw [Int.toNat_natCast] at hP
  have hK : 1 ≤ K ∧ K ≤ 20 := by omega
  obtain ⟨hg, hp, hwt⟩ := HOK.out hc
  have hp2 := primeB_hd hp
  have hn10 : n ≤ 10 := by have := grB_iff hg; have := HN.out; omega
  obtain ⟨hw1, hw2⟩ := weightsB_of hwt
  have hv : ∀ j, j < n1 → 0 ≤ vs.getD j 0 ∧ vs.getD j 0 < p := fun j hj => by
    have h1 := hw2 j (by rw [HL.out]; exact hj)
    unfold inR at h1
    simpa using h1
  have hn1 : n1 = 2 * n := by rw [← HL.out, hw1, HN.out]
  have HRW := Lib.hid (weightedRows p s a n c xss a1 n1 c1 vs w1 (HR.out.below hB) HN.out hg (H1.out.below hB) HL.out hn1 hv hp2.2)
  have HBD := Lib.hid (show ∀ i j, i < 2 * n → j < 2 * n → 0 ≤ wtM (edgeM (dirE (pairs xss))) vs i j ∧ wtM (edgeM (dirE (pairs xss))) vs i j < p from fun i j hi hj => by
    have h2 := hv j (by omega)
    unfold wtM
    rcases edgeM_01w (dirE (pairs xss)) i j with e | e <;> rw [e] <;> omega)
  generalize wtM (edgeM (dirE (pairs xss))) vs = f at HRW HBD hP
  have HPP := Lib.hid hP
  have HB := Lib.hid hB
  subst hc
  obtain ⟨N, hN⟩ : ∃ N, N = 2 * n := ⟨_, rfl⟩
  rw [← hN] at HRW HBD HPP
  have hN20 : N ≤ 20 := by omega
  have hk1 : ¬ (K : Int) < 1 := by omega
  have hk2 : ¬ (K : Int) > 20 := by omega
  have hk3 : ((K : Int) > 20) = False := by simp; omega
  clear HP HOK hP hg hp hwt hw1 hw2 hv hn1 hN hB hk
  go_wp2_with fail
  refine HRW.out.mono ?_
  rintro e w2 ⟨a2, c2, rfl, o2, b2⟩
  have HDT := Lib.hid (residueTable p N f a2 c2 w2 o2.rd (fun i j hi hj => by have := HBD.out i j hi hj; omega) hN20 ⟨by omega, hp2.2⟩)
  have HB2 := Lib.hid (HB.out.next b2)
  clear HRW o2 b2 k0 k1
  go_wp2_with fail
  refine HDT.out.mono ?_
  rintro e w3 ⟨a3, c3, rfl, hc3, hm3, hT, b3⟩
  have HTR := Lib.hid (traces p N f a3 c3 K w3 hT hc3 hm3 hN20 hK hp2)
  obtain ⟨M, hM⟩ : ∃ M, M = N * N := ⟨_, rfl⟩
  rw [← hM] at HTR ⊢
  have HB3 := Lib.hid (HB2.out.next b3)
  clear HDT HB2 hT b3 hM hc3
  go_wp2_with fail
  refine HTR.out.mono ?_
  rintro e w4 ⟨g, rfl, o4, b4⟩
  have HRS := Lib.hid (residuesOf (trE p N f K N 0) (some ⟨g, 0, none⟩) K K w4 (RdP.owned o4 (trE_len p N f K N 0)) (trE_len p N f K N 0) (by omega) (fun e he => by
    obtain ⟨r, _, rfl⟩ := List.mem_map.1 he
    rw [if_neg (Nat.not_lt_zero _)]
    obtain ⟨t0, t1⟩ := trP_in N f r N hp2.1
    unfold I64
    dsimp only
    omega))
  rw [trE_fst] at HRS
  have HB4 := Lib.hid (HB3.out.next b4)
  clear HTR HB3 o4 b4
  go_wp2_with fail
  refine HRS.out.mono ?_
  rintro e w5 ⟨rfl, o5, b5⟩
  have HO := Lib.hid (⟨OwI.mono o5 HB4.out.size (Nat.le_refl _), HB4.out.next b5⟩ : _ ∧ _)
  have hlen : P.1.length = K := by rw [HPP.out]; exact wcL_len _ _ _ _
  clear HRS o5 b5
  go_wp2
  refine bodyPost_ret (v := .tuple #[.slice (some ⟨w4.heap.size, 0, none⟩) K K, .int .i64 0]) (by simp [results, Try.results52, go_sem]) rfl ⟨_, K, by rw [hlen, HPP.out], by rw [hlen]; rw [HPP.out]; exact HO.out.1, HO.out.2⟩

end Go.Proofs.Ytebgbplhcaocoaa
