/- WeightedReciprocal of the program and of the model. -/
import Derived.Test.YtlahfglblgppgaaWtR
import Derived.Test.YtlahfglblgppgaaDetT
set_option linter.unusedSimpArgs false
set_option linter.unusedVariables false
set_option maxRecDepth 100000
namespace Go.Proofs.Ytlahfglblgppgaa
open Go.RowKit

def wrecOf (p s : Int) (xss : List (List Int)) (vs : List Int) : List Int × Int :=
  if wtCode p s xss vs = 0 then (trim (nowL p (2 * xss.length) (wtM (edgeM (dirE (pairs xss))) vs) (2 * xss.length)), 0) else ([], wtCode p s xss vs)

set_option maxHeartbeats 3200000 in
theorem implWrec {lo hi lo1 hi1 : Nat} (p s : Int) (a : Option Addr) (n c : Nat) (xss : List (List Int)) (a1 : Option Addr) (n1 c1 : Nat) (vs : List Int) (w : World) (h : RdR lo hi w (.slice a n c) xss) (hn : xss.length = n) (h1 : RdI lo1 hi1 w (.slice a1 n1 c1) vs) (hl : vs.length = n1) :
    Calls Try.prog 34 #[.int .i64 p, .agg #[.int .i64 s, .slice a n c], .slice a1 n1 c1] w fun e w' => ∃ a' c', e = .returned (.tuple #[.slice a' (wrecOf p s xss vs).1.length c', .int .i64 (wrecOf p s xss vs).2]) ∧ OwI w.heap.size w'.heap.size w' (.slice a' (wrecOf p s xss vs).1.length c') (wrecOf p s xss vs).1 ∧ Below w.heap.size w w' := by
  have hb0 : ∀ o, Below w.heap.size w (w.alloc o) := fun o => (Below.refl _ _).alloc (Nat.le_refl _) o
  have HN := Lib.hid hn
  have HL := Lib.hid hl
  have HR := Lib.hid h
  have H1 := Lib.hid h1
  obtain ⟨P, hP⟩ : ∃ P, P = wrecOf p s xss vs := ⟨_, rfl⟩
  rw [← hP]
  unfold wrecOf at hP
  rw [hn] at hP
  have HP := Lib.hid hP
  have HOK := Lib.hid (fun h => wtCode_ok (p := p) (s := s) (xss := xss) (vs := vs) h)
  clear hn h hP hl h1
  go_enter Try.func34, Try.ntmps34
  go_wp2_with fail
  refine calls_gen (fun W => Below w.heap.size w W ∧ W.cell? ⟨w.heap.size, 0, none⟩ = some (.int .i64 s) ∧ W.cell? ⟨w.heap.size, 1, none⟩ = some (.slice a n c)) ⟨hb0 _, by go_simp, by go_simp⟩ ?_
  rintro W ⟨hB, k0, k1⟩
  refine (checkWeights p s a n c xss a1 n1 c1 vs W (HR.out.below hB) HN.out (H1.out.below hB) HL.out).mono ?_
  rintro e w1 ⟨rfl, b1⟩
  replace k0 := b1.keep k0
  replace k1 := b1.keep k1
  replace hB := hB.next b1
  clear b1
  generalize wtCode p s xss vs = cd at HP HOK ⊢
  by_cases hc : cd = 0
  case neg =>
    have hP := HP.out
    rw [if_neg hc] at hP
    have hcb : (cd != 0) = true := by simpa using hc
    subst hP
    clear HP HOK hc k0 k1
    go_wp2
    refine bodyPost_ret (v := .tuple #[.slice none 0 0, .int .i64 cd]) (by simp [results, Try.results34, go_sem]) rfl ⟨none, 0, rfl, OwI.nil' _ _ _, hB⟩
  have hP := HP.out
  rw [if_pos hc] at hP
  obtain ⟨hg, hp, hwt⟩ := HOK.out hc
  have hp2 := primeB_hd hp
  have hn10 : n ≤ 10 := by have := grB_iff hg; have := HN.out; omega
  obtain ⟨hw1, hw2⟩ := weightsB_of hwt
  have hv : ∀ j, j < n1 → 0 ≤ vs.getD j 0 ∧ vs.getD j 0 < p := fun j hj => by
    have h1 := hw2 j (by rw [HL.out]; exact hj)
    unfold inR at h1
    simpa using h1
  have hn1 : n1 = 2 * n := by rw [← HL.out, hw1, HN.out]
  have HRW := Lib.hid (weightedRows p s a n c xss a1 n1 c1 vs w1 (HR.out.below hB) HN.out hg (H1.out.below hB) HL.out hn1 hv hp2.2)
  have HBD := Lib.hid (show ∀ i j, i < 2 * n → j < 2 * n → 0 ≤ wtM (edgeM (dirE (pairs xss))) vs i j ∧ wtM (edgeM (dirE (pairs xss))) vs i j < p from fun i j hi hj => by
    have h2 := hv j (by omega)
    unfold wtM
    rcases edgeM_01w (dirE (pairs xss)) i j with e | e <;> rw [e] <;> omega)
  generalize wtM (edgeM (dirE (pairs xss))) vs = f at HRW HBD hP
  have HPP := Lib.hid hP
  have HB := Lib.hid hB
  subst hc
  obtain ⟨N, hN⟩ : ∃ N, N = 2 * n := ⟨_, rfl⟩
  rw [← hN] at HRW HBD HPP
  have hN20 : N ≤ 20 := by omega
  clear HP HOK hP hg hp hwt hw1 hw2 hv hn1 hN hB
  go_wp2_with fail
  refine HRW.out.mono ?_
  rintro e w2 ⟨a2, c2, rfl, o2, b2⟩
  have HDT := Lib.hid (detM p N f a2 c2 w2 o2.rd (fun i j hi hj => by have := HBD.out i j hi hj; omega) hN20 hp2)
  have HB2 := Lib.hid (HB.out.next b2)
  clear HRW o2 b2 k0 k1
  go_wp2_with fail
  refine HDT.out.mono ?_
  rintro e w3 ⟨a3, c3, rfl, o3, b3⟩
  have HO := Lib.hid (⟨OwI.mono o3 HB2.out.size (Nat.le_refl _), HB2.out.next b3⟩ : _ ∧ _)
  clear HDT o3 b3
  go_wp2
  refine bodyPost_ret (v := .tuple #[.slice a3 (trim (nowL p N f N)).length c3, .int .i64 0]) (by simp [results, Try.results34, go_sem]) rfl ⟨a3, c3, by rw [HPP.out], by rw [HPP.out]; exact HO.out.1, HO.out.2⟩

set_option maxHeartbeats 3200000 in
theorem specWrec {lo hi lo1 hi1 : Nat} (p s : Int) (a : Option Addr) (n c : Nat) (xss : List (List Int)) (a1 : Option Addr) (n1 c1 : Nat) (vs : List Int) (w : World) (h : RdR lo hi w (.slice a n c) xss) (hn : xss.length = n) (h1 : RdI lo1 hi1 w (.slice a1 n1 c1) vs) (hl : vs.length = n1) :
    Calls Try.prog 33 #[.int .i64 p, .agg #[.int .i64 s, .slice a n c], .slice a1 n1 c1] w fun e w' => ∃ a' c', e = .returned (.tuple #[.slice a' (wrecOf p s xss vs).1.length c', .int .i64 (wrecOf p s xss vs).2]) ∧ OwI w.heap.size w'.heap.size w' (.slice a' (wrecOf p s xss vs).1.length c') (wrecOf p s xss vs).1 ∧ Below w.heap.size w w' := by
  have hb0 : ∀ o, Below w.heap.size w (w.alloc o) := fun o => (Below.refl _ _).alloc (Nat.le_refl _) o
  have HN := Lib.hid hn
  have HL := Lib.hid hl
  have HR := Lib.hid h
  have H1 := Lib.hid h1
  obtain ⟨P, hP⟩ : ∃ P, P = wrecOf p s xss vs := ⟨_, rfl⟩
  rw [← hP]
  unfold wrecOf at hP
  rw [hn] at hP
  have HP := Lib.hid hP
  have HOK := Lib.hid (fun h => wtCode_ok (p := p) (s := s) (xss := xss) (vs := vs) h)
  clear hn h hP hl h1
  go_enter Try.func33, Try.ntmps33
  go_wp2_with fail
  refine calls_gen (fun W => Below w.heap.size w W ∧ W.cell? ⟨w.heap.size, 0, none⟩ = some (.int .i64 s) ∧ W.cell? ⟨w.heap.size, 1, none⟩ = some (.slice a n c)) ⟨hb0 _, by go_simp, by go_simp⟩ ?_
  rintro W ⟨hB, k0, k1⟩
  refine (l06Code p s a n c xss a1 n1 c1 vs W (HR.out.below hB) HN.out (H1.out.below hB) HL.out).mono ?_
  rintro e w1 ⟨rfl, b1⟩
  replace k0 := b1.keep k0
  replace k1 := b1.keep k1
  replace hB := hB.next b1
  clear b1
  generalize wtCode p s xss vs = cd at HP HOK ⊢
  by_cases hc : cd = 0
  case neg =>
    have hP := HP.out
    rw [if_neg hc] at hP
    have hcb : (cd != 0) = true := by simpa using hc
    subst hP
    clear HP HOK hc k0 k1
    go_wp2
    refine bodyPost_ret (v := .tuple #[.slice none 0 0, .int .i64 cd]) (by simp [results, Try.results33, go_sem]) rfl ⟨none, 0, rfl, OwI.nil' _ _ _, hB⟩
  have hP := HP.out
  rw [if_pos hc] at hP
  obtain ⟨hg, hp, hwt⟩ := HOK.out hc
  have hp2 := primeB_hd hp
  have hn10 : n ≤ 10 := by have := grB_iff hg; have := HN.out; omega
  obtain ⟨hw1, hw2⟩ := weightsB_of hwt
  have hv : ∀ j, j < n1 → 0 ≤ vs.getD j 0 ∧ vs.getD j 0 < p := fun j hj => by
    have h1 := hw2 j (by rw [HL.out]; exact hj)
    unfold inR at h1
    simpa using h1
  have hn1 : n1 = 2 * n := by rw [← HL.out, hw1, HN.out]
  have HRW := Lib.hid (l06Rows p s a n c xss a1 n1 c1 vs w1 (HR.out.below hB) HN.out hg (H1.out.below hB) HL.out hn1 hv hp2.2)
  have HBD := Lib.hid (show ∀ i j, i < 2 * n → j < 2 * n → 0 ≤ wtM (edgeM (dirE (pairs xss))) vs i j ∧ wtM (edgeM (dirE (pairs xss))) vs i j < p from fun i j hi hj => by
    have h2 := hv j (by omega)
    unfold wtM
    rcases edgeM_01w (dirE (pairs xss)) i j with e | e <;> rw [e] <;> omega)
  generalize wtM (edgeM (dirE (pairs xss))) vs = f at HRW HBD hP
  have HPP := Lib.hid hP
  have HB := Lib.hid hB
  subst hc
  obtain ⟨N, hN⟩ : ∃ N, N = 2 * n := ⟨_, rfl⟩
  rw [← hN] at HRW HBD HPP
  have hN20 : N ≤ 20 := by omega
  clear HP HOK hP hg hp hwt hw1 hw2 hv hn1 hN hB
  go_wp2_with fail
  refine HRW.out.mono ?_
  rintro e w2 ⟨a2, c2, rfl, o2, b2⟩
  have HDT := Lib.hid (specDet p N f a2 c2 w2 o2.rd HBD.out hN20 hp2)
  have HB2 := Lib.hid (HB.out.next b2)
  clear HRW o2 b2 k0 k1
  go_wp2_with fail
  refine HDT.out.mono ?_
  rintro e w3 ⟨a3, c3, rfl, o3, b3⟩
  have HO := Lib.hid (⟨OwI.mono o3 HB2.out.size (Nat.le_refl _), HB2.out.next b3⟩ : _ ∧ _)
  clear HDT o3 b3
  go_wp2
  refine bodyPost_ret (v := .tuple #[.slice a3 (trim (nowL p N f N)).length c3, .int .i64 0]) (by simp [results, Try.results33, go_sem]) rfl ⟨a3, c3, by rw [HPP.out], by rw [HPP.out]; exact HO.out.1, HO.out.2⟩

end Go.Proofs.Ytlahfglblgppgaa
