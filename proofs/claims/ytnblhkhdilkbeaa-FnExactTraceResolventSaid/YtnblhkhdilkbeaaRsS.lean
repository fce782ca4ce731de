/- ResolventAt and TraceResolvent of the model. -/
import Derived.Test.YtnblhkhdilkbeaaEvS
import Derived.Test.YtnblhkhdilkbeaaRsI
import Derived.Deep.RegionHeld3
set_option linter.unusedSimpArgs false
set_option linter.unusedVariables false
set_option maxRecDepth 100000
namespace Go.Proofs.Ytnblhkhdilkbeaa
open Go.RowKit

/-- the rows with a unit column, and the column of the unit matrix behind the rows -/
theorem aug_unC (E : Nat → Nat → Int) (p u : Int) (N e f : Nat) (he : e < N) (hf : f < N) :
    dt (tp (augM E p u N) N) ((List.range N).map (fun c => if c = e then N + f else c)) = dt (tp (unC (plM E p u) N e f) N) (List.range N) := by
  unfold tp
  rw [dt_relabel]
  refine dt_congr _ _ (List.range N) (List.range N) (fun i hi c hc => ?_)
  have hiN : i < N := by simpa using hi
  have hcN : c < N := by simpa using hc
  unfold augM unC put colZ
  by_cases h1 : c = e
  · rw [if_pos h1, if_neg (by omega)]
    by_cases h2 : i = f
    · rw [if_pos (by omega), if_pos ⟨h2, h1⟩]
    · rw [if_neg (by omega), if_neg (by omega), if_pos ⟨h1, hiN⟩]
  · rw [if_neg h1, if_pos hcN, if_neg (by omega), if_neg (by omega)]
/-- what the model's elimination leaves is what the program finds -/
theorem rs_is {xss : List (List Int)} {p u : Int} {n : Nat} {T : Nat → Nat → Int} (hn : xss.length = n) (hp : isPr p) (hv : plV xss p u ≠ 0)
    (h : ∀ e f, e < 2 * n → f < 2 * n → (0 ≤ T e f ∧ T e f < p) ∧ cq p (dt (tp (augM (edgeM (dirE (pairs xss))) p u (2 * n)) (2 * n)) ((List.range (2 * n)).map (fun c => if c = e then 2 * n + f else c))) (plV xss p u * T e f)) (e f : Nat) (he : e < 2 * n) (hf : f < 2 * n) : T e f = rsV xss p u e f := by
  obtain ⟨h1, h2⟩ := h e f he hf
  have hle := hp.le
  have hvb := plV_bd xss u hle.1
  rw [aug_unC _ _ _ _ _ _ he hf] at h2
  have h3 : cq p (cofV xss p u e f) (plV xss p u * T e f) := by
    refine cq_trans ?_ h2
    have hcv : cofV xss p u e f = dt (tp (unC (plM (edgeM (dirE (pairs xss))) p u) (2 * n) e f) (2 * n)) (List.range (2 * n)) % p := by unfold cofV; rw [hn]
    rw [hcv]; exact cq_emod p _
  have h4 : cq p (cofV xss p u e f * invO p (plV xss p u)) (plV xss p u * T e f * invO p (plV xss p u)) := cq_mul h3 (cq_refl p _)
  have e5 : plV xss p u * T e f * invO p (plV xss p u) = T e f * (invO p (plV xss p u) * plV xss p u) := by
    rw [Int.mul_comm (plV xss p u) (T e f), Int.mul_assoc, Int.mul_comm (plV xss p u)]
  have h6 : cq p (T e f * (invO p (plV xss p u) * plV xss p u)) (T e f * 1) := cq_mul (cq_refl p _) (by rw [cq_iff, (invO_is hp (by omega)).1, Int.emod_eq_of_lt (by omega) (by omega)])
  rw [e5] at h4
  have h7 := cq_trans h4 h6
  rw [Int.mul_one, cq_iff, Int.emod_eq_of_lt h1.1 h1.2] at h7
  unfold rsV
  exact h7.symm

def tsum (xss : List (List Int)) (p u : Int) : Nat → Int
  | 0 => 0
  | k + 1 => tsum xss p u k + rsV xss p u k k
theorem rsV_bd (xss : List (List Int)) {p : Int} (u : Int) (e f : Nat) (hp : 2 ≤ p) : 0 ≤ rsV xss p u e f ∧ rsV xss p u e f < p := ⟨Int.emod_nonneg _ (by omega), Int.emod_lt_of_pos _ (by omega)⟩
theorem tsum_bd (xss : List (List Int)) {p : Int} (u : Int) (hp : 2 ≤ p ∧ p ≤ 101) : ∀ k : Nat, 0 ≤ tsum xss p u k ∧ tsum xss p u k ≤ 101 * (k : Int)
  | 0 => by simp [tsum]
  | k + 1 => by
    have h1 := tsum_bd xss u hp k
    have h2 := rsV_bd xss u k k hp.1
    simp only [tsum]
    omega
theorem tsum_cq (xss : List (List Int)) (p u : Int) : ∀ k : Nat, cq p (csum xss p u k * invO p (plV xss p u)) (tsum xss p u k)
  | 0 => by simp only [csum, tsum, Int.zero_mul]; exact cq_refl p _
  | k + 1 => by
    simp only [csum, tsum]
    rw [Int.add_mul]
    exact cq_add (tsum_cq xss p u k) (cq_symm (cq_emod p _))
theorem tsum_tr (xss : List (List Int)) (p u : Int) : tsum xss p u (2 * xss.length) % p = trV xss p u := by
  unfold trV
  have := tsum_cq xss p u (2 * xss.length)
  rw [cq_iff] at this
  exact this.symm

set_option maxHeartbeats 3200000 in
theorem specRs {lo hi : Nat} (s : Int) (a : Option Addr) (n c : Nat) (xss : List (List Int)) (p u e0 f0 : Int) (w : World) (h : RdR lo hi w (.slice a n c) xss) (hn : xss.length = n) :
    Calls Try.prog 32 #[.agg #[.int .i64 s, .slice a n c], .int .i64 p, .int .i64 u, .int .i64 e0, .int .i64 f0] w fun en w' => en = .returned (.tuple #[.int .i64 (rsOf s xss p u e0 f0).1, .int .i64 (rsOf s xss p u e0 f0).2]) ∧ Below w.heap.size w w' := by
  have HI := Lib.hid (fun (G : Nat) W (hB : Below w.heap.size w W) (hG : W.cell? ⟨G, 0, none⟩ = some (.int .i64 u)) => l09Code1 s a n c xss p u G W (h.below hB) hn hG)
  by_cases hd : plcCode p s xss u = 0
  · rw [hd] at HI
    obtain ⟨hg, hp, hu⟩ := plc_ok hd
    have hg4 := grB_iff hg
    have hple := hp.le
    obtain ⟨N, hN⟩ : ∃ N, N = 2 * n := ⟨_, rfl⟩
    have hm2 : IntKind.i64.wrap (2 * (n : Int)) = (N : Int) := by rw [hN]; rw [IntWalk.i64_in _ (by omega)]; omega
    have hm2' : wrap64 (2 * (n : Int)) = (N : Int) := by rw [hN]; rw [IntWalk.wrap64_in _ (by omega)]; omega
    have hm4 : IntKind.i64.wrap ((N : Int) - 1) = (N : Int) - 1 := IntWalk.i64_in _ (by clear hm2 hm2'; omega)
    have hm5 : wrap64 ((N : Int) - 1) = (N : Int) - 1 := IntWalk.wrap64_in _ (by clear hm2 hm2' hm4; omega)
    have HXE := Lib.hid (fun W => l01In e0 0 ((N : Int) - 1) W)
    have HXF := Lib.hid (fun W => l01In f0 0 ((N : Int) - 1) W)
    rw [inR_l01] at HXE HXF
    have hcast : (2 * (xss.length : Int)) = (N : Int) := by clear hm2 hm2' hm4 hm5; rw [hn, hN]; omega
    have eR : rsOf s xss p u e0 f0 = if inR e0 (N : Int) then (if inR f0 (N : Int) then (if plV xss p u = 0 then (0, 5) else (rsV xss p u e0.toNat f0.toNat, 0)) else (0, 2)) else (0, 2) := by unfold rsOf; rw [if_pos hd, hcast]
    have HR := Lib.hid (fun W (hB : Below w.heap.size w W) => l09Solve s a n c xss p u W (h.below hB) hn hg hp hu)
    cases he : inR e0 (N : Int) with
    | false =>
      rw [he] at eR HXE
      rw [if_neg (by decide)] at eR
      rw [eR]
      clear h hn hd hg hg4 hp hu hple hcast eR HR HXF he hN
      go_enter Try.func32, Try.ntmps32
      go_wp2
      have hB := (Below.refl w.heap.size w).alloc (Nat.le_refl _) (.cells #[.int .i64 s, .slice a n c] 30)
      have k0 : (w.alloc (.cells #[.int .i64 s, .slice a n c] 30)).cell? ⟨w.heap.size, 0, none⟩ = some (.int .i64 s) := by go_simp
      have k1 : (w.alloc (.cells #[.int .i64 s, .slice a n c] 30)).cell? ⟨w.heap.size, 1, none⟩ = some (.slice a n c) := by go_simp
      generalize w.alloc (.cells #[.int .i64 s, .slice a n c] 30) = W at hB k0 k1 ⊢
      obtain ⟨B, hB0⟩ : ∃ B, B = w.heap.size := ⟨_, rfl⟩
      rw [← hB0] at k0 k1 ⊢
      clear hB0
      have hal : Below W.heap.size W (W.drew.alloc (.cells #[.int .i64 u] 2)) := (Below.refl _ _).drew.alloc (Nat.le_refl _) _
      have k0b := hal.keep k0
      have k1b := hal.keep k1
      have k0c : (W.alloc (.cells #[.int .i64 u] 2)).drew.cell? ⟨B, 0, none⟩ = some (.int .i64 s) := k0b
      have k1c : (W.alloc (.cells #[.int .i64 u] 2)).drew.cell? ⟨B, 1, none⟩ = some (.slice a n c) := k1b
      have g0 : (W.drew.alloc (.cells #[.int .i64 u] 2)).cell? ⟨W.heap.size, 0, none⟩ = some (.int .i64 u) := by go_simp
      have g0c : (W.alloc (.cells #[.int .i64 u] 2)).drew.cell? ⟨W.heap.size, 0, none⟩ = some (.int .i64 u) := g0
      have hBb := hB.next hal
      have hBc : Below w.heap.size w (W.alloc (.cells #[.int .i64 u] 2)).drew := hBb
      have HI1 := Lib.hid (HI.out _ _ hBb g0)
      have HI2 := Lib.hid (HI.out _ _ hBc g0c)
      have HBB := Lib.hid hBb
      have HBC := Lib.hid hBc
      have HS4 := Lib.hid (fun w1 (b1 : Below (W.drew.alloc (.cells #[.int .i64 u] 2)).heap.size (W.drew.alloc (.cells #[.int .i64 u] 2)) w1) => (⟨b1.keep k0b, b1.keep k1b⟩ : w1.cell? ⟨B, 0, none⟩ = some (.int .i64 s) ∧ w1.cell? ⟨B, 1, none⟩ = some (.slice a n c)))
      have HS5 := Lib.hid (fun w1 (b1 : Below (W.alloc (.cells #[.int .i64 u] 2)).drew.heap.size (W.alloc (.cells #[.int .i64 u] 2)).drew w1) => (⟨b1.keep k0c, b1.keep k1c⟩ : w1.cell? ⟨B, 0, none⟩ = some (.int .i64 s) ∧ w1.cell? ⟨B, 1, none⟩ = some (.slice a n c)))
      clear hal hBb hBc g0 g0c hB HI
      go_region_held3 (fun W' => W'.cell? ⟨B, 0, none⟩ = some (.int .i64 s) ∧ W'.cell? ⟨B, 1, none⟩ = some (.slice a n c))
        (first | (exact ⟨k0, k1⟩) | (exact ⟨k0b, k1b⟩) | (exact ⟨k0c, k1c⟩) | (exact S4) | go_keep)
        (first
          | (go_at_call 61; with_reducible refine HI1.out.mono ?_; rintro en w1 ⟨rfl, b1⟩; have S4 := HS4.out w1 b1; have hBn := HBB.out.next b1)
          | (go_at_call 61; with_reducible refine HI2.out.mono ?_; rintro en w1 ⟨rfl, b1⟩; have S4 := HS5.out w1 b1; have hBn := HBC.out.next b1))
      have hB := hBn
      clear k0 k1 k0b k1b k0c k1c HI1 HI2 HS4 HS5 HBB HBC b1 hBn
      obtain ⟨k0, k1⟩ := S4
      go_wp2_with fail
      refine (HXE.out _).mono ?_
      rintro en w2 ⟨rfl, q1⟩
      replace hB := hB.qt q1
      replace k0 := q1.cell k0
      replace k1 := q1.cell k1
      clear q1 HXE
      go_wp2
      go_ret2
      exact ⟨rfl, hB⟩
    | true =>
      rw [he] at eR HXE
      rw [if_pos rfl] at eR
      cases hf : inR f0 (N : Int) with
      | false =>
        rw [hf] at eR HXF
        rw [if_neg (by decide)] at eR
        rw [eR]
        clear h hn hd hg hg4 hp hu hple hcast eR HR he hf hN
        go_enter Try.func32, Try.ntmps32
        go_wp2
        have hB := (Below.refl w.heap.size w).alloc (Nat.le_refl _) (.cells #[.int .i64 s, .slice a n c] 30)
        have k0 : (w.alloc (.cells #[.int .i64 s, .slice a n c] 30)).cell? ⟨w.heap.size, 0, none⟩ = some (.int .i64 s) := by go_simp
        have k1 : (w.alloc (.cells #[.int .i64 s, .slice a n c] 30)).cell? ⟨w.heap.size, 1, none⟩ = some (.slice a n c) := by go_simp
        generalize w.alloc (.cells #[.int .i64 s, .slice a n c] 30) = W at hB k0 k1 ⊢
        obtain ⟨B, hB0⟩ : ∃ B, B = w.heap.size := ⟨_, rfl⟩
        rw [← hB0] at k0 k1 ⊢
        clear hB0
        have hal : Below W.heap.size W (W.drew.alloc (.cells #[.int .i64 u] 2)) := (Below.refl _ _).drew.alloc (Nat.le_refl _) _
        have k0b := hal.keep k0
        have k1b := hal.keep k1
        have k0c : (W.alloc (.cells #[.int .i64 u] 2)).drew.cell? ⟨B, 0, none⟩ = some (.int .i64 s) := k0b
        have k1c : (W.alloc (.cells #[.int .i64 u] 2)).drew.cell? ⟨B, 1, none⟩ = some (.slice a n c) := k1b
        have g0 : (W.drew.alloc (.cells #[.int .i64 u] 2)).cell? ⟨W.heap.size, 0, none⟩ = some (.int .i64 u) := by go_simp
        have g0c : (W.alloc (.cells #[.int .i64 u] 2)).drew.cell? ⟨W.heap.size, 0, none⟩ = some (.int .i64 u) := g0
        have hBb := hB.next hal
        have hBc : Below w.heap.size w (W.alloc (.cells #[.int .i64 u] 2)).drew := hBb
        have HI1 := Lib.hid (HI.out _ _ hBb g0)
        have HI2 := Lib.hid (HI.out _ _ hBc g0c)
        have HBB := Lib.hid hBb
        have HBC := Lib.hid hBc
        have HS4 := Lib.hid (fun w1 (b1 : Below (W.drew.alloc (.cells #[.int .i64 u] 2)).heap.size (W.drew.alloc (.cells #[.int .i64 u] 2)) w1) => (⟨b1.keep k0b, b1.keep k1b⟩ : w1.cell? ⟨B, 0, none⟩ = some (.int .i64 s) ∧ w1.cell? ⟨B, 1, none⟩ = some (.slice a n c)))
        have HS5 := Lib.hid (fun w1 (b1 : Below (W.alloc (.cells #[.int .i64 u] 2)).drew.heap.size (W.alloc (.cells #[.int .i64 u] 2)).drew w1) => (⟨b1.keep k0c, b1.keep k1c⟩ : w1.cell? ⟨B, 0, none⟩ = some (.int .i64 s) ∧ w1.cell? ⟨B, 1, none⟩ = some (.slice a n c)))
        clear hal hBb hBc g0 g0c hB HI
        go_region_held3 (fun W' => W'.cell? ⟨B, 0, none⟩ = some (.int .i64 s) ∧ W'.cell? ⟨B, 1, none⟩ = some (.slice a n c))
          (first | (exact ⟨k0, k1⟩) | (exact ⟨k0b, k1b⟩) | (exact ⟨k0c, k1c⟩) | (exact S4) | go_keep)
          (first
            | (go_at_call 61; with_reducible refine HI1.out.mono ?_; rintro en w1 ⟨rfl, b1⟩; have S4 := HS4.out w1 b1; have hBn := HBB.out.next b1)
            | (go_at_call 61; with_reducible refine HI2.out.mono ?_; rintro en w1 ⟨rfl, b1⟩; have S4 := HS5.out w1 b1; have hBn := HBC.out.next b1))
        have hB := hBn
        clear k0 k1 k0b k1b k0c k1c HI1 HI2 HS4 HS5 HBB HBC b1 hBn
        obtain ⟨k0, k1⟩ := S4
        go_wp2_with fail
        refine (HXE.out _).mono ?_
        rintro en w2 ⟨rfl, q1⟩
        replace hB := hB.qt q1
        replace k0 := q1.cell k0
        replace k1 := q1.cell k1
        clear q1 HXE
        go_wp2_with fail
        refine (HXF.out _).mono ?_
        rintro en w3 ⟨rfl, q1⟩
        replace hB := hB.qt q1
        replace k0 := q1.cell k0
        replace k1 := q1.cell k1
        clear q1 HXF
        go_wp2
        go_ret2
        exact ⟨rfl, hB⟩
      | true =>
        rw [hf] at eR HXF
        rw [if_pos rfl] at eR
        by_cases hv : plV xss p u = 0
        · rw [if_pos hv] at eR
          rw [eR]
          rw [hv] at HR
          clear h hn hd hg hg4 hp hu hple hcast eR he hf hN hv
          go_enter Try.func32, Try.ntmps32
          go_wp2
          have hB := (Below.refl w.heap.size w).alloc (Nat.le_refl _) (.cells #[.int .i64 s, .slice a n c] 30)
          have k0 : (w.alloc (.cells #[.int .i64 s, .slice a n c] 30)).cell? ⟨w.heap.size, 0, none⟩ = some (.int .i64 s) := by go_simp
          have k1 : (w.alloc (.cells #[.int .i64 s, .slice a n c] 30)).cell? ⟨w.heap.size, 1, none⟩ = some (.slice a n c) := by go_simp
          generalize w.alloc (.cells #[.int .i64 s, .slice a n c] 30) = W at hB k0 k1 ⊢
          obtain ⟨B, hB0⟩ : ∃ B, B = w.heap.size := ⟨_, rfl⟩
          rw [← hB0] at k0 k1 ⊢
          clear hB0
          have hal : Below W.heap.size W (W.drew.alloc (.cells #[.int .i64 u] 2)) := (Below.refl _ _).drew.alloc (Nat.le_refl _) _
          have k0b := hal.keep k0
          have k1b := hal.keep k1
          have k0c : (W.alloc (.cells #[.int .i64 u] 2)).drew.cell? ⟨B, 0, none⟩ = some (.int .i64 s) := k0b
          have k1c : (W.alloc (.cells #[.int .i64 u] 2)).drew.cell? ⟨B, 1, none⟩ = some (.slice a n c) := k1b
          have g0 : (W.drew.alloc (.cells #[.int .i64 u] 2)).cell? ⟨W.heap.size, 0, none⟩ = some (.int .i64 u) := by go_simp
          have g0c : (W.alloc (.cells #[.int .i64 u] 2)).drew.cell? ⟨W.heap.size, 0, none⟩ = some (.int .i64 u) := g0
          have hBb := hB.next hal
          have hBc : Below w.heap.size w (W.alloc (.cells #[.int .i64 u] 2)).drew := hBb
          have HI1 := Lib.hid (HI.out _ _ hBb g0)
          have HI2 := Lib.hid (HI.out _ _ hBc g0c)
          have HBB := Lib.hid hBb
          have HBC := Lib.hid hBc
          have HS4 := Lib.hid (fun w1 (b1 : Below (W.drew.alloc (.cells #[.int .i64 u] 2)).heap.size (W.drew.alloc (.cells #[.int .i64 u] 2)) w1) => (⟨b1.keep k0b, b1.keep k1b⟩ : w1.cell? ⟨B, 0, none⟩ = some (.int .i64 s) ∧ w1.cell? ⟨B, 1, none⟩ = some (.slice a n c)))
          have HS5 := Lib.hid (fun w1 (b1 : Below (W.alloc (.cells #[.int .i64 u] 2)).drew.heap.size (W.alloc (.cells #[.int .i64 u] 2)).drew w1) => (⟨b1.keep k0c, b1.keep k1c⟩ : w1.cell? ⟨B, 0, none⟩ = some (.int .i64 s) ∧ w1.cell? ⟨B, 1, none⟩ = some (.slice a n c)))
          clear hal hBb hBc g0 g0c hB HI
          go_region_held3 (fun W' => W'.cell? ⟨B, 0, none⟩ = some (.int .i64 s) ∧ W'.cell? ⟨B, 1, none⟩ = some (.slice a n c))
            (first | (exact ⟨k0, k1⟩) | (exact ⟨k0b, k1b⟩) | (exact ⟨k0c, k1c⟩) | (exact S4) | go_keep)
            (first
              | (go_at_call 61; with_reducible refine HI1.out.mono ?_; rintro en w1 ⟨rfl, b1⟩; have S4 := HS4.out w1 b1; have hBn := HBB.out.next b1)
              | (go_at_call 61; with_reducible refine HI2.out.mono ?_; rintro en w1 ⟨rfl, b1⟩; have S4 := HS5.out w1 b1; have hBn := HBC.out.next b1))
          have hB := hBn
          clear k0 k1 k0b k1b k0c k1c HI1 HI2 HS4 HS5 HBB HBC b1 hBn
          obtain ⟨k0, k1⟩ := S4
          go_wp2_with fail
          refine (HXE.out _).mono ?_
          rintro en w2 ⟨rfl, q1⟩
          replace hB := hB.qt q1
          replace k0 := q1.cell k0
          replace k1 := q1.cell k1
          clear q1 HXE
          go_wp2_with fail
          refine (HXF.out _).mono ?_
          rintro en w3 ⟨rfl, q1⟩
          replace hB := hB.qt q1
          replace k0 := q1.cell k0
          replace k1 := q1.cell k1
          clear q1 HXF
          go_wp2_with fail
          refine (HR.out _ hB).mono ?_
          rintro en w5 ⟨vt, T, rfl, b5, _⟩
          replace hB := hB.next b5
          clear b5 HR k0 k1
          go_wp2
          go_ret2
          exact ⟨rfl, hB⟩
        · rw [if_neg hv] at eR
          obtain ⟨e, rfl, heN⟩ := inR_nat he
          obtain ⟨f, rfl, hfN⟩ := inR_nat hf
          rw [Int.toNat_natCast, Int.toNat_natCast] at eR
          rw [eR]
          have HRS := Lib.hid (fun (T : Nat → Nat → Int) hT => rs_is (T := T) hn hp hv hT e f (by omega) (by omega))
          have HVN := Lib.hid hv
          have hvn : (plV xss p u == 0) = false := by simpa using hv
          rw [← hN] at HR HRS
          generalize rsV xss p u e f = R at HRS ⊢
          generalize plV xss p u = D at HR HVN hvn HRS
          clear h hn hd hg hg4 hp hu hple hcast eR he hf hN hv
          go_enter Try.func32, Try.ntmps32
          go_wp2
          have hB := (Below.refl w.heap.size w).alloc (Nat.le_refl _) (.cells #[.int .i64 s, .slice a n c] 30)
          have k0 : (w.alloc (.cells #[.int .i64 s, .slice a n c] 30)).cell? ⟨w.heap.size, 0, none⟩ = some (.int .i64 s) := by go_simp
          have k1 : (w.alloc (.cells #[.int .i64 s, .slice a n c] 30)).cell? ⟨w.heap.size, 1, none⟩ = some (.slice a n c) := by go_simp
          generalize w.alloc (.cells #[.int .i64 s, .slice a n c] 30) = W at hB k0 k1 ⊢
          obtain ⟨B, hB0⟩ : ∃ B, B = w.heap.size := ⟨_, rfl⟩
          rw [← hB0] at k0 k1 ⊢
          clear hB0
          have hal : Below W.heap.size W (W.drew.alloc (.cells #[.int .i64 u] 2)) := (Below.refl _ _).drew.alloc (Nat.le_refl _) _
          have k0b := hal.keep k0
          have k1b := hal.keep k1
          have k0c : (W.alloc (.cells #[.int .i64 u] 2)).drew.cell? ⟨B, 0, none⟩ = some (.int .i64 s) := k0b
          have k1c : (W.alloc (.cells #[.int .i64 u] 2)).drew.cell? ⟨B, 1, none⟩ = some (.slice a n c) := k1b
          have g0 : (W.drew.alloc (.cells #[.int .i64 u] 2)).cell? ⟨W.heap.size, 0, none⟩ = some (.int .i64 u) := by go_simp
          have g0c : (W.alloc (.cells #[.int .i64 u] 2)).drew.cell? ⟨W.heap.size, 0, none⟩ = some (.int .i64 u) := g0
          have hBb := hB.next hal
          have hBc : Below w.heap.size w (W.alloc (.cells #[.int .i64 u] 2)).drew := hBb
          have HI1 := Lib.hid (HI.out _ _ hBb g0)
          have HI2 := Lib.hid (HI.out _ _ hBc g0c)
          have HBB := Lib.hid hBb
          have HBC := Lib.hid hBc
          have HS4 := Lib.hid (fun w1 (b1 : Below (W.drew.alloc (.cells #[.int .i64 u] 2)).heap.size (W.drew.alloc (.cells #[.int .i64 u] 2)) w1) => (⟨b1.keep k0b, b1.keep k1b⟩ : w1.cell? ⟨B, 0, none⟩ = some (.int .i64 s) ∧ w1.cell? ⟨B, 1, none⟩ = some (.slice a n c)))
          have HS5 := Lib.hid (fun w1 (b1 : Below (W.alloc (.cells #[.int .i64 u] 2)).drew.heap.size (W.alloc (.cells #[.int .i64 u] 2)).drew w1) => (⟨b1.keep k0c, b1.keep k1c⟩ : w1.cell? ⟨B, 0, none⟩ = some (.int .i64 s) ∧ w1.cell? ⟨B, 1, none⟩ = some (.slice a n c)))
          clear hal hBb hBc g0 g0c hB HI
          go_region_held3 (fun W' => W'.cell? ⟨B, 0, none⟩ = some (.int .i64 s) ∧ W'.cell? ⟨B, 1, none⟩ = some (.slice a n c))
            (first | (exact ⟨k0, k1⟩) | (exact ⟨k0b, k1b⟩) | (exact ⟨k0c, k1c⟩) | (exact S4) | go_keep)
            (first
              | (go_at_call 61; with_reducible refine HI1.out.mono ?_; rintro en w1 ⟨rfl, b1⟩; have S4 := HS4.out w1 b1; have hBn := HBB.out.next b1)
              | (go_at_call 61; with_reducible refine HI2.out.mono ?_; rintro en w1 ⟨rfl, b1⟩; have S4 := HS5.out w1 b1; have hBn := HBC.out.next b1))
          have hB := hBn
          clear k0 k1 k0b k1b k0c k1c HI1 HI2 HS4 HS5 HBB HBC b1 hBn
          obtain ⟨k0, k1⟩ := S4
          go_wp2_with fail
          refine (HXE.out _).mono ?_
          rintro en w2 ⟨rfl, q1⟩
          replace hB := hB.qt q1
          replace k0 := q1.cell k0
          replace k1 := q1.cell k1
          clear q1 HXE
          go_wp2_with fail
          refine (HXF.out _).mono ?_
          rintro en w3 ⟨rfl, q1⟩
          replace hB := hB.qt q1
          replace k0 := q1.cell k0
          replace k1 := q1.cell k1
          clear q1 HXF
          go_wp2_with fail
          refine (HR.out _ hB).mono ?_
          rintro en w5 ⟨vt, T, rfl, b5, hT⟩
          obtain ⟨a5, c5, rfl, hO, hcr⟩ := hT HVN.out
          replace hB := hB.next b5
          have hTR := HRS.out T hcr
          obtain ⟨g, b, cb, rfl, y2, y3, _, _, _, _, _⟩ := hO.ent (i := e) (j := f) heN hfN
          rw [hTR] at y3
          have he0 : (0 : Int) ≤ (e : Int) := by omega
          have heI : (e : Int) < (N : Int) := by omega
          have hf0 : (0 : Int) ≤ (f : Int) := by omega
          have hfI : (f : Int) < (N : Int) := by omega
          clear b5 HR k0 k1 hT hO hcr hTR HRS hm2 hm2' hm4 hm5
          go_wp2
          go_ret2
          exact ⟨rfl, hB⟩
  · have e2 : rsOf s xss p u e0 f0 = (0, plcCode p s xss u) := by unfold rsOf; rw [if_neg hd]
    rw [e2]
    have hcb : (plcCode p s xss u == 0) = false := by simpa using hd
    have hcb2 : (plcCode p s xss u != 0) = true := by simpa using hd
    generalize plcCode p s xss u = cd at HI hcb hcb2 ⊢
    clear h hn hd e2
    go_enter Try.func32, Try.ntmps32
    go_wp2
    have hB := (Below.refl w.heap.size w).alloc (Nat.le_refl _) (.cells #[.int .i64 s, .slice a n c] 30)
    have k0 : (w.alloc (.cells #[.int .i64 s, .slice a n c] 30)).cell? ⟨w.heap.size, 0, none⟩ = some (.int .i64 s) := by go_simp
    have k1 : (w.alloc (.cells #[.int .i64 s, .slice a n c] 30)).cell? ⟨w.heap.size, 1, none⟩ = some (.slice a n c) := by go_simp
    generalize w.alloc (.cells #[.int .i64 s, .slice a n c] 30) = W at hB k0 k1 ⊢
    obtain ⟨B, hB0⟩ : ∃ B, B = w.heap.size := ⟨_, rfl⟩
    rw [← hB0] at k0 k1 ⊢
    clear hB0
    have hal : Below W.heap.size W (W.drew.alloc (.cells #[.int .i64 u] 2)) := (Below.refl _ _).drew.alloc (Nat.le_refl _) _
    have k0b := hal.keep k0
    have k1b := hal.keep k1
    have k0c : (W.alloc (.cells #[.int .i64 u] 2)).drew.cell? ⟨B, 0, none⟩ = some (.int .i64 s) := k0b
    have k1c : (W.alloc (.cells #[.int .i64 u] 2)).drew.cell? ⟨B, 1, none⟩ = some (.slice a n c) := k1b
    have g0 : (W.drew.alloc (.cells #[.int .i64 u] 2)).cell? ⟨W.heap.size, 0, none⟩ = some (.int .i64 u) := by go_simp
    have g0c : (W.alloc (.cells #[.int .i64 u] 2)).drew.cell? ⟨W.heap.size, 0, none⟩ = some (.int .i64 u) := g0
    have hBb := hB.next hal
    have hBc : Below w.heap.size w (W.alloc (.cells #[.int .i64 u] 2)).drew := hBb
    have HI1 := Lib.hid (HI.out _ _ hBb g0)
    have HI2 := Lib.hid (HI.out _ _ hBc g0c)
    have HBB := Lib.hid hBb
    have HBC := Lib.hid hBc
    have HS4 := Lib.hid (fun w1 (b1 : Below (W.drew.alloc (.cells #[.int .i64 u] 2)).heap.size (W.drew.alloc (.cells #[.int .i64 u] 2)) w1) => (⟨b1.keep k0b, b1.keep k1b⟩ : w1.cell? ⟨B, 0, none⟩ = some (.int .i64 s) ∧ w1.cell? ⟨B, 1, none⟩ = some (.slice a n c)))
    have HS5 := Lib.hid (fun w1 (b1 : Below (W.alloc (.cells #[.int .i64 u] 2)).drew.heap.size (W.alloc (.cells #[.int .i64 u] 2)).drew w1) => (⟨b1.keep k0c, b1.keep k1c⟩ : w1.cell? ⟨B, 0, none⟩ = some (.int .i64 s) ∧ w1.cell? ⟨B, 1, none⟩ = some (.slice a n c)))
    clear hal hBb hBc g0 g0c hB HI
    go_region_held3 (fun W' => W'.cell? ⟨B, 0, none⟩ = some (.int .i64 s) ∧ W'.cell? ⟨B, 1, none⟩ = some (.slice a n c))
      (first | (exact ⟨k0, k1⟩) | (exact ⟨k0b, k1b⟩) | (exact ⟨k0c, k1c⟩) | (exact S4) | go_keep)
      (first
        | (go_at_call 61; with_reducible refine HI1.out.mono ?_; rintro en w1 ⟨rfl, b1⟩; have S4 := HS4.out w1 b1; have hBn := HBB.out.next b1)
        | (go_at_call 61; with_reducible refine HI2.out.mono ?_; rintro en w1 ⟨rfl, b1⟩; have S4 := HS5.out w1 b1; have hBn := HBC.out.next b1))
    have hB := hBn
    clear k0 k1 k0b k1b k0c k1c HI1 HI2 HS4 HS5 HBB HBC b1 hBn
    obtain ⟨k0, k1⟩ := S4
    go_wp2
    go_ret2
    exact ⟨rfl, hB⟩

set_option maxHeartbeats 3200000 in
theorem specTr {lo hi : Nat} (s : Int) (a : Option Addr) (n c : Nat) (xss : List (List Int)) (p u : Int) (w : World) (h : RdR lo hi w (.slice a n c) xss) (hn : xss.length = n) :
    Calls Try.prog 34 #[.agg #[.int .i64 s, .slice a n c], .int .i64 p, .int .i64 u] w fun en w' => en = .returned (.tuple #[.int .i64 (trOf s xss p u).1, .int .i64 (trOf s xss p u).2]) ∧ Below w.heap.size w w' := by
  have hb0 : ∀ o, Below w.heap.size w (w.alloc o) := fun o => (Below.refl _ _).alloc (Nat.le_refl _) o
  have HI := Lib.hid (fun (G : Nat) W (hB : Below w.heap.size w W) (hG : W.cell? ⟨G, 0, none⟩ = some (.int .i64 u)) => l09Code1 s a n c xss p u G W (h.below hB) hn hG)
  by_cases hd : plcCode p s xss u = 0
  · rw [hd] at HI
    obtain ⟨hg, hp, hu⟩ := plc_ok hd
    have hg4 := grB_iff hg
    have hple := hp.le
    obtain ⟨N, hN⟩ : ∃ N, N = 2 * n := ⟨_, rfl⟩
    have hN20 : N ≤ 20 := by omega
    have eR : trOf s xss p u = if plV xss p u = 0 then (0, 5) else (trV xss p u, 0) := by unfold trOf; rw [if_pos hd]
    have HR := Lib.hid (fun W (hB : Below w.heap.size w W) => l09Solve s a n c xss p u W (h.below hB) hn hg hp hu)
    by_cases hv : plV xss p u = 0
    · rw [if_pos hv] at eR
      rw [eR]
      rw [hv] at HR
      clear h hn hd hg hg4 hp hu hple eR hN hv
      go_enter Try.func34, Try.ntmps34
      go_wp2_with fail
      refine calls_gen (fun W => Below w.heap.size w W ∧ W.cell? ⟨w.heap.size, 0, none⟩ = some (.int .i64 s) ∧ W.cell? ⟨w.heap.size, 1, none⟩ = some (.slice a n c) ∧ W.cell? ⟨w.heap.size + 1, 0, none⟩ = some (.int .i64 u)) ⟨(hb0 _).alloc (by simp) _, by go_simp, by go_simp, by go_simp⟩ ?_
      rintro W ⟨hB, k0, k1, g0⟩
      refine (HI.out _ W hB g0).mono ?_
      clear g0
      rintro en w1 ⟨rfl, b1⟩
      replace hB := hB.next b1
      replace k0 := b1.keep k0
      replace k1 := b1.keep k1
      clear b1 HI
      go_wp2_with fail
      refine (HR.out _ hB).mono ?_
      rintro en w5 ⟨vt, T, rfl, b5, _⟩
      replace hB := hB.next b5
      clear b5 HR k0 k1
      go_wp2
      go_ret2
      exact ⟨rfl, hB⟩
    · rw [if_neg hv] at eR
      rw [eR]
      have hTV : trV xss p u = tsum xss p u N % p := by rw [← tsum_tr, hn, ← hN]
      rw [hTV]
      have HRS := Lib.hid (fun (T : Nat → Nat → Int) hT (k : Nat) (hk : k < 2 * n) => rs_is (T := T) hn hp hv hT k k hk hk)
      have HSB := Lib.hid (fun k : Nat => tsum_bd xss u hple k)
      have HRB := Lib.hid (fun k : Nat => rsV_bd xss u k k hple.1)
      have HST := Lib.hid (show ∀ k : Nat, tsum xss p u (k + 1) = tsum xss p u k + rsV xss p u k k from fun k => rfl)
      have HS0 := Lib.hid (show tsum xss p u 0 = 0 from rfl)
      have HPL := Lib.hid hple
      have hp0 : ¬ p = 0 := by omega
      have hpb : (p == 0) = false := by simpa using hp0
      have HVN := Lib.hid hv
      have hvn : (plV xss p u == 0) = false := by simpa using hv
      rw [← hN] at HR HRS
      generalize tsum xss p u = S at HSB HST HS0 ⊢
      generalize rsV xss p u = C at HRS HRB HST
      generalize plV xss p u = D at HR HVN hvn HRS
      clear h hn hd hg hg4 hp hu hple eR hN hv hTV
      go_enter Try.func34, Try.ntmps34
      go_wp2_with fail
      refine calls_gen (fun W => Below w.heap.size w W ∧ W.cell? ⟨w.heap.size, 0, none⟩ = some (.int .i64 s) ∧ W.cell? ⟨w.heap.size, 1, none⟩ = some (.slice a n c) ∧ W.cell? ⟨w.heap.size + 1, 0, none⟩ = some (.int .i64 u)) ⟨(hb0 _).alloc (by simp) _, by go_simp, by go_simp, by go_simp⟩ ?_
      rintro W ⟨hB, k0, k1, g0⟩
      refine (HI.out _ W hB g0).mono ?_
      clear g0
      rintro en w1 ⟨rfl, b1⟩
      replace hB := hB.next b1
      replace k0 := b1.keep k0
      replace k1 := b1.keep k1
      clear b1 HI
      go_wp2_with fail
      refine (HR.out _ hB).mono ?_
      rintro en w5 ⟨vt, T, rfl, b5, hT⟩
      obtain ⟨a5, c5, rfl, hO, hcr⟩ := hT HVN.out
      have HF := Lib.hid (hB.next b5)
      have HTR := Lib.hid (HRS.out T hcr)
      have HOO := Lib.hid hO
      clear b5 HR k0 k1 hT hO hcr HRS hB
      go_wp2
      go_loopw [12, 11] (fun i v wr => ∃ k : Nat, k ≤ N ∧ i = .int .i64 k ∧ v = .int .i64 (S k) ∧ Qt w5 wr) (fun i _ _ => N - (intOf i).toNat)
      case atStart => exact ⟨0, Nat.zero_le _, rfl, by rw [HS0.out], Qt.refl _⟩
      case round =>
        rename_i hrel
        obtain ⟨k, hk, rfl, rfl, hqt⟩ := hrel
        by_cases hlt : k < N
        · have hkI : (k : Int) < (N : Int) := by omega
          have hk0 : (0 : Int) ≤ (k : Int) := by omega
          have hsb := HSB.out k
          have hrb := HRB.out k
          have hst := HST.out k
          have hpl := HPL.out
          obtain ⟨g, b, cb, rfl, y2, y3, _, _, _, _, _⟩ := (HOO.out.qt hqt).ent (i := k) (j := k) hlt hlt
          rw [HTR.out k hlt] at y3
          generalize C k k = ck at y3 hst hrb
          have m1 : IntKind.i64.wrap (S k + ck) = S (k + 1) := by rw [hst]; exact IntWalk.i64_in _ (by omega)
          have m2 : wrap64 (S k + ck) = S (k + 1) := by rw [hst]; exact IntWalk.wrap64_in _ (by clear m1; omega)
          clear hsb hrb hst hpl
          go_wp2
          clear m1 m2
          go_roundw
          case rel => exact ⟨k+1, by omega, by go_num, rfl, hqt⟩
          case measure => simp [intOf]; omega
        · obtain rfl : k = N := by omega
          have hsb := HSB.out k
          have hpl := HPL.out
          have htm : Int.tmod (S k) p = S k % p := Int.tmod_eq_emod_of_nonneg hsb.1
          have HEX := Lib.hid (HF.out.qt hqt)
          have HTM := Lib.hid htm
          clear hsb hpl hqt
          go_wp2
          go_ret2
          exact ⟨by first | rfl | (rw [← HTM.out]; rfl), HEX.out⟩
  · have e2 : trOf s xss p u = (0, plcCode p s xss u) := by unfold trOf; rw [if_neg hd]
    rw [e2]
    have hcb : (plcCode p s xss u == 0) = false := by simpa using hd
    have hcb2 : (plcCode p s xss u != 0) = true := by simpa using hd
    generalize plcCode p s xss u = cd at HI hcb hcb2 ⊢
    clear h hn hd e2
    go_enter Try.func34, Try.ntmps34
    go_wp2_with fail
    refine calls_gen (fun W => Below w.heap.size w W ∧ W.cell? ⟨w.heap.size, 0, none⟩ = some (.int .i64 s) ∧ W.cell? ⟨w.heap.size, 1, none⟩ = some (.slice a n c) ∧ W.cell? ⟨w.heap.size + 1, 0, none⟩ = some (.int .i64 u)) ⟨(hb0 _).alloc (by simp) _, by go_simp, by go_simp, by go_simp⟩ ?_
    rintro W ⟨hB, k0, k1, g0⟩
    refine (HI.out _ W hB g0).mono ?_
    clear g0
    rintro en w1 ⟨rfl, b1⟩
    replace hB := hB.next b1
    replace k0 := b1.keep k0
    replace k1 := b1.keep k1
    clear b1 HI
    go_wp2
    go_ret2
    exact ⟨rfl, hB⟩
end Go.Proofs.Ytnblhkhdilkbeaa
