/- Steps of the model. -/
import Derived.Test.YtlahfglblgppgaaWk
import Derived.Test.YtlahfglblgppgaaCoreB
set_option linter.unusedSimpArgs false
set_option linter.unusedVariables false
namespace Go.Proofs.Ytlahfglblgppgaa
open Go.RowKit

theorem stepQ_at {ds : List (Int × Int)} {x y : Int} (hx : 0 ≤ x ∧ x < ds.length) (hy : 0 ≤ y ∧ y < ds.length) : stepQ ds x y = ((ds.getD x.toNat (0, 0)).2 == (ds.getD y.toNat (0, 0)).1 && y != rv x) := by
  unfold stepQ
  rw [decide_eq_true (by omega), Bool.true_and]

set_option maxRecDepth 100000 in
set_option maxHeartbeats 1600000 in
theorem l03Next {lo hi : Nat} (s : Int) (a : Option Addr) (n c : Nat) (xss : List (List Int)) (w : World) (h : RdR lo hi w (.slice a n c) xss) (hn : xss.length = n) (hg : grB s xss = true) (x y : Int) (hx0 : 0 ≤ x) (hx1 : x < 2 * (n : Int)) (hy0 : 0 ≤ y) (hy1 : y < 2 * (n : Int)) :
    Calls Try.prog 155 #[.agg #[.int .i64 s, .slice a n c], .int .i64 x, .int .i64 y] w fun e w' => e = .returned (.bool (stepQ (dirE (pairs xss)) x y)) ∧ Below w.heap.size w w' := by
  have hn10 : n ≤ 10 := by have := grB_iff hg; omega
  have HE1 := Lib.hid (fun W' (h' : RdR lo hi W' (.slice a n c) xss) => l01Ends s a n c xss W' h' hn hg x hx0 hx1)
  have HE2 := Lib.hid (fun W' (h' : RdR lo hi W' (.slice a n c) xss) => l01Ends s a n c xss W' h' hn hg y hy0 hy1)
  have hdl : (dirE (pairs xss)).length = 2 * n := by rw [dirE_len, pairs_len, hn]
  have hst := stepQ_at (ds := dirE (pairs xss)) (x := x) (y := y) ⟨hx0, by omega⟩ ⟨hy0, by omega⟩
  have hrv := rv_half x y hx0 (by omega) hy0
  generalize dirE (pairs xss) = ds at HE1 HE2 hst hdl ⊢
  obtain ⟨x0, hx0'⟩ : ∃ z, z = (ds.getD x.toNat (0, 0)).1 := ⟨_, rfl⟩
  obtain ⟨x1', hx1'⟩ : ∃ z, z = (ds.getD x.toNat (0, 0)).2 := ⟨_, rfl⟩
  obtain ⟨y0, hy0'⟩ : ∃ z, z = (ds.getD y.toNat (0, 0)).1 := ⟨_, rfl⟩
  obtain ⟨y1', hy1'⟩ : ∃ z, z = (ds.getD y.toNat (0, 0)).2 := ⟨_, rfl⟩
  rw [← hx0', ← hx1'] at HE1
  rw [← hy0', ← hy1'] at HE2
  rw [← hx1', ← hy0'] at hst
  obtain ⟨q, hq⟩ : ∃ q, q = stepQ ds x y := ⟨_, rfl⟩
  rw [← hq] at hst ⊢
  have HST := Lib.hid hst
  have HRV := Lib.hid hrv
  have HR := Lib.hid h
  clear hx0' hx1' hy0' hy1' hq hst hrv hdl h hn hg
  go_enter Try.func155, Try.ntmps155
  go_wp2_with fail
  refine calls_gen (fun W => Below w.heap.size w W ∧ W.cell? ⟨w.heap.size, 0, none⟩ = some (.int .i64 s) ∧ W.cell? ⟨w.heap.size, 1, none⟩ = some (.slice a n c)) ⟨(Below.refl _ _).alloc (Nat.le_refl _) _, by go_simp, by go_simp⟩ ?_
  rintro W ⟨hB, k0, k1⟩
  refine (HE1.out W (HR.out.below hB)).mono ?_
  rintro e w1 ⟨rfl, b1⟩
  replace hB := hB.next b1
  replace k0 := b1.keep k0
  replace k1 := b1.keep k1
  clear b1
  go_wp2_with fail
  refine (HE2.out w1 (HR.out.below hB)).mono ?_
  rintro e w2 ⟨rfl, b2⟩
  replace hB := hB.next b2
  clear b2 k0 k1
  by_cases e1 : x1' = y0
  · have e1b : (x1' == y0) = true := by simpa using e1
    have hst := HST.out
    rw [e1b, Bool.true_and] at hst
    by_cases e2 : x / 2 = y / 2
    · have e2b : (x / 2 == y / 2) = true := by simpa using e2
      have e2c : (x / 2 != y / 2) = false := by simpa using e2
      by_cases e3 : x = y
      · have e3b : (x == y) = true := by simpa using e3
        have hv : q = true := by
          rw [hst]
          have := HRV.out
          simp only [bne_iff_ne, ne_eq]
          omega
        have HV := Lib.hid hv
        clear hst hv e1 e2 e3
        go_wp2
        go_ret
        exact ⟨by rw [HV.out]; rfl, hB⟩
      · have e3b : (x == y) = false := by simpa using e3
        have hv : q = false := by
          rw [hst]
          have := HRV.out.2 ⟨e2, e3⟩
          simp [this]
        have HV := Lib.hid hv
        clear hst hv e1 e2 e3
        go_wp2
        go_ret
        exact ⟨by rw [HV.out]; rfl, hB⟩
    · have e2b : (x / 2 == y / 2) = false := by simpa using e2
      have e2c : (x / 2 != y / 2) = true := by simpa using e2
      have hv : q = true := by
        rw [hst]
        have := HRV.out
        simp only [bne_iff_ne, ne_eq]
        omega
      have HV := Lib.hid hv
      clear hst hv e1 e2
      go_wp2
      go_ret
      exact ⟨by rw [HV.out]; rfl, hB⟩
  · have e1b : (x1' == y0) = false := by simpa using e1
    have hst := HST.out
    rw [e1b, Bool.false_and] at hst
    have HV := Lib.hid hst
    clear hst e1
    go_wp2
    go_ret
    exact ⟨by rw [HV.out]; rfl, hB⟩

end Go.Proofs.Ytlahfglblgppgaa
