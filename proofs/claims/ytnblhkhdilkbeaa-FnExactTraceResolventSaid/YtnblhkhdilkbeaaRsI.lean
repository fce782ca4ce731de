/- ResolventAt and TraceResolvent of the program. -/
import Derived.Test.YtnblhkhdilkbeaaCof
import Derived.Test.YtnblhkhdilkbeaaEvI
import Derived.Deep.RegionHeld3
set_option linter.unusedSimpArgs false
set_option linter.unusedVariables false
set_option maxRecDepth 100000
namespace Go.Proofs.Ytnblhkhdilkbeaa
open Go.RowKit

def rsV (xss : List (List Int)) (p u : Int) (e f : Nat) : Int := (cofV xss p u e f * invO p (plV xss p u)) % p
def csum (xss : List (List Int)) (p u : Int) : Nat → Int
  | 0 => 0
  | k + 1 => csum xss p u k + cofV xss p u k k
def trV (xss : List (List Int)) (p u : Int) : Int := (csum xss p u (2 * xss.length) * invO p (plV xss p u)) % p
theorem csum_bd (xss : List (List Int)) {p : Int} (u : Int) (hp : 2 ≤ p ∧ p ≤ 101) : ∀ k : Nat, 0 ≤ csum xss p u k ∧ csum xss p u k ≤ 101 * (k : Int)
  | 0 => by simp [csum]
  | k + 1 => by
    have h1 := csum_bd xss u hp k
    have h2 := cofV_bd xss u k k hp.1
    simp only [csum]
    omega
theorem quo_ok {p n d : Int} (hp : isPr p) (hd : 1 ≤ d ∧ d < p) : cq p n (d * (n * invO p d % p)) := by
  have hle := hp.le
  have h1 : cq p (d * (n * invO p d % p)) (d * (n * invO p d)) := cq_mul (cq_refl p d) (cq_emod p _)
  have e : d * (n * invO p d) = n * (invO p d * d) := by rw [Int.mul_left_comm, Int.mul_comm d]
  have h2 : cq p (n * (invO p d * d)) (n * 1) := cq_mul (cq_refl p n) (by rw [cq_iff, (invO_is hp hd).1, Int.emod_eq_of_lt (by omega) (by omega)])
  rw [e] at h1
  rw [Int.mul_one] at h2
  exact cq_symm (cq_trans h1 h2)
def rsOf (s : Int) (xss : List (List Int)) (p u e f : Int) : Int × Int :=
  if plcCode p s xss u = 0 then (if inR e (2 * (xss.length : Int)) then (if inR f (2 * (xss.length : Int)) then (if plV xss p u = 0 then (0, 5) else (rsV xss p u e.toNat f.toNat, 0)) else (0, 2)) else (0, 2)) else (0, plcCode p s xss u)
def trOf (s : Int) (xss : List (List Int)) (p u : Int) : Int × Int :=
  if plcCode p s xss u = 0 then (if plV xss p u = 0 then (0, 5) else (trV xss p u, 0)) else (0, plcCode p s xss u)
theorem plV_bd (xss : List (List Int)) {p : Int} (u : Int) (hp : 2 ≤ p) : 0 ≤ plV xss p u ∧ plV xss p u < p := ⟨Int.emod_nonneg _ (by omega), Int.emod_lt_of_pos _ (by omega)⟩
theorem inR_nat {e : Int} {n : Nat} (h : inR e (n : Int) = true) : ∃ k : Nat, e = (k : Int) ∧ k < n := by
  unfold inR at h
  simp at h
  exact ⟨e.toNat, by omega, by omega⟩

set_option maxHeartbeats 3200000 in
theorem implRs {lo hi : Nat} (s : Int) (a : Option Addr) (n c : Nat) (xss : List (List Int)) (p u e0 f0 : Int) (w : World) (h : RdR lo hi w (.slice a n c) xss) (hn : xss.length = n) :
    Calls Try.prog 33 #[.agg #[.int .i64 s, .slice a n c], .int .i64 p, .int .i64 u, .int .i64 e0, .int .i64 f0] w fun en w' => en = .returned (.tuple #[.int .i64 (rsOf s xss p u e0 f0).1, .int .i64 (rsOf s xss p u e0 f0).2]) ∧ Below w.heap.size w w' := by
  have hb0 : ∀ o, Below w.heap.size w (w.alloc o) := fun o => (Below.refl _ _).alloc (Nat.le_refl _) o
  have HI := Lib.hid (fun W (hB : Below w.heap.size w W) => checkPlace p s a n c xss u W (h.below hB) hn)
  by_cases hd : plcCode p s xss u = 0
  · rw [hd] at HI
    obtain ⟨hg, hp, hu⟩ := plc_ok hd
    have hg4 := grB_iff hg
    have hple := hp.le
    obtain ⟨N, hN⟩ : ∃ N, N = 2 * n := ⟨_, rfl⟩
    have hm2 : IntKind.i64.wrap (2 * (n : Int)) = (N : Int) := by rw [hN]; rw [IntWalk.i64_in _ (by omega)]; omega
    have hm2' : wrap64 (2 * (n : Int)) = (N : Int) := by rw [hN]; rw [IntWalk.wrap64_in _ (by omega)]; omega
    have HXE := Lib.hid (fun W => isIndex e0 (N : Int) W)
    have HXF := Lib.hid (fun W => isIndex f0 (N : Int) W)
    have hcast : (2 * (xss.length : Int)) = (N : Int) := by rw [hn, hN]; omega
    have eR : rsOf s xss p u e0 f0 = if inR e0 (N : Int) then (if inR f0 (N : Int) then (if plV xss p u = 0 then (0, 5) else (rsV xss p u e0.toNat f0.toNat, 0)) else (0, 2)) else (0, 2) := by unfold rsOf; rw [if_pos hd, hcast]
    have HR := Lib.hid (fun W (hB : Below w.heap.size w W) => placeValue s a n c xss p u W (h.below hB) hn hg hp hu)
    cases he : inR e0 (N : Int) with
    | false =>
      rw [he] at eR HXE
      rw [if_neg (by decide)] at eR
      rw [eR]
      clear h hn hd hg hg4 hp hu hple hcast eR HR HXF he hN
      go_enter Try.func33, Try.ntmps33
      go_wp2_with fail
      refine calls_gen (fun W => Below w.heap.size w W ∧ w.heap.size < W.heap.size ∧ W.cell? ⟨w.heap.size, 0, none⟩ = some (.int .i64 s) ∧ W.cell? ⟨w.heap.size, 1, none⟩ = some (.slice a n c)) ⟨hb0 _, by simp, by go_simp, by go_simp⟩ ?_
      rintro W ⟨hB, hz, k0, k1⟩
      refine (HI.out W hB).mono ?_
      rintro en w1 ⟨rfl, b1⟩
      replace hB := hB.next b1
      replace k0 := b1.keep k0
      replace k1 := b1.keep k1
      replace hz := Nat.lt_of_lt_of_le hz b1.size
      clear b1 HI
      go_wp2_with fail
      refine (HXE.out w1).mono ?_
      rintro en w2 ⟨rfl, q1⟩
      replace hB := hB.qt q1
      replace k0 := q1.cell k0
      replace k1 := q1.cell k1
      replace hz := Nat.lt_of_lt_of_le hz q1.below.size
      clear q1 HXE
      go_wp2
      go_ret2
      exact ⟨rfl, hB⟩
    | true =>
      rw [he] at eR HXE
      rw [if_pos rfl] at eR
      cases hf : inR f0 (N : Int) with
      | false =>
        rw [hf] at eR HXF
        rw [if_neg (by decide)] at eR
        rw [eR]
        clear h hn hd hg hg4 hp hu hple hcast eR HR he hf hN
        go_enter Try.func33, Try.ntmps33
        go_wp2_with fail
        refine calls_gen (fun W => Below w.heap.size w W ∧ w.heap.size < W.heap.size ∧ W.cell? ⟨w.heap.size, 0, none⟩ = some (.int .i64 s) ∧ W.cell? ⟨w.heap.size, 1, none⟩ = some (.slice a n c)) ⟨hb0 _, by simp, by go_simp, by go_simp⟩ ?_
        rintro W ⟨hB, hz, k0, k1⟩
        refine (HI.out W hB).mono ?_
        rintro en w1 ⟨rfl, b1⟩
        replace hB := hB.next b1
        replace k0 := b1.keep k0
        replace k1 := b1.keep k1
        replace hz := Nat.lt_of_lt_of_le hz b1.size
        clear b1 HI
        go_wp2_with fail
        refine (HXE.out w1).mono ?_
        rintro en w2 ⟨rfl, q1⟩
        replace hB := hB.qt q1
        replace k0 := q1.cell k0
        replace k1 := q1.cell k1
        replace hz := Nat.lt_of_lt_of_le hz q1.below.size
        clear q1 HXE
        go_wp2_with fail
        refine (HXF.out w2).mono ?_
        rintro en w3 ⟨rfl, q1⟩
        replace hB := hB.qt q1
        replace k0 := q1.cell k0
        replace k1 := q1.cell k1
        replace hz := Nat.lt_of_lt_of_le hz q1.below.size
        clear q1 HXF
        go_wp2
        go_ret2
        exact ⟨rfl, hB⟩
      | true =>
        rw [hf] at eR HXF
        rw [if_pos rfl] at eR
        by_cases hv : plV xss p u = 0
        · rw [if_pos hv] at eR
          rw [eR]
          rw [hv] at HR
          clear h hn hd hg hg4 hp hu hple hcast eR he hf hN hv
          go_enter Try.func33, Try.ntmps33
          go_wp2_with fail
          refine calls_gen (fun W => Below w.heap.size w W ∧ w.heap.size < W.heap.size ∧ W.cell? ⟨w.heap.size, 0, none⟩ = some (.int .i64 s) ∧ W.cell? ⟨w.heap.size, 1, none⟩ = some (.slice a n c)) ⟨hb0 _, by simp, by go_simp, by go_simp⟩ ?_
          rintro W ⟨hB, hz, k0, k1⟩
          refine (HI.out W hB).mono ?_
          rintro en w1 ⟨rfl, b1⟩
          replace hB := hB.next b1
          replace k0 := b1.keep k0
          replace k1 := b1.keep k1
          replace hz := Nat.lt_of_lt_of_le hz b1.size
          clear b1 HI
          go_wp2_with fail
          refine (HXE.out w1).mono ?_
          rintro en w2 ⟨rfl, q1⟩
          replace hB := hB.qt q1
          replace k0 := q1.cell k0
          replace k1 := q1.cell k1
          replace hz := Nat.lt_of_lt_of_le hz q1.below.size
          clear q1 HXE
          go_wp2_with fail
          refine (HXF.out w2).mono ?_
          rintro en w3 ⟨rfl, q1⟩
          replace hB := hB.qt q1
          replace k0 := q1.cell k0
          replace k1 := q1.cell k1
          replace hz := Nat.lt_of_lt_of_le hz q1.below.size
          clear q1 HXF
          have hA : ∀ o, Below w3.heap.size w3 (w3.alloc o) := fun o => (Below.refl _ _).alloc (Nat.le_refl _) o
          obtain ⟨P, hP⟩ : ∃ P, P = w3.heap.size := ⟨_, rfl⟩
          go_wp2_with fail
          rw [← hP]
          refine calls_gen (fun V => Below w.heap.size w V ∧ P < V.heap.size ∧ (V.cell? ⟨w.heap.size, 0, none⟩ = some (.int .i64 s) ∧ V.cell? ⟨w.heap.size, 1, none⟩ = some (.slice a n c)) ∧ V.cell? ⟨P, 0, none⟩ = some (.int .i64 s) ∧ V.cell? ⟨P, 1, none⟩ = some (.slice a n c) ∧ V.cell? ⟨P, 2, none⟩ = some (.int .i64 p) ∧ V.cell? ⟨P, 3, none⟩ = some (.int .i64 u)) ⟨?_, ?_, ⟨?_, ?_⟩, ?_, ?_, ?_, ?_⟩ ?_
          · exact hB.next (hA _)
          · rw [hP]; simp
          iterate 6 (first | (rw [hP]; go_simp) | go_simp)
          rintro V ⟨hB, hPV, ⟨k0, k1⟩, y0, y1, y2, y3⟩
          refine (HR.out V hB).mono ?_
          rintro en w5 ⟨rfl, b5⟩
          replace hB := hB.next b5
          replace k0 := b5.keep k0
          replace k1 := b5.keep k1
          replace y0 := b5.keep y0
          replace y1 := b5.keep y1
          replace y2 := b5.keep y2
          replace y3 := b5.keep y3
          replace hPV := Nat.lt_of_lt_of_le hPV b5.size
          have hwP : w.heap.size < P := by rw [hP]; exact hz
          clear b5 HR hA hP hz
          go_wp2
          go_ret2
          exact ⟨rfl, hB⟩
        · rw [if_neg hv] at eR
          obtain ⟨e, rfl, heN⟩ := inR_nat he
          obtain ⟨f, rfl, hfN⟩ := inR_nat hf
          rw [Int.toNat_natCast, Int.toNat_natCast] at eR
          rw [eR]
          have hvb := plV_bd xss u hple.1
          have hcb := cofV_bd xss u e f hple.1
          have HC := Lib.hid (fun W (hB : Below w.heap.size w W) => cofactor s a n c xss p u e f W (h.below hB) hn hg hp hu (by omega) (by omega))
          have HQ := Lib.hid (fun W => mQuo p (cofV xss p u e f) (plV xss p u) (rsV xss p u e f) W hp (by omega) hvb.2 (by omega) (by omega) (quo_ok hp (by omega)) (Int.emod_emod _ _))
          have hvn : (plV xss p u == 0) = false := by simpa using hv
          generalize rsV xss p u e f = R at HQ ⊢
          generalize cofV xss p u e f = C at HC HQ
          generalize plV xss p u = D at HR HQ hvn
          clear h hn hd hg hg4 hp hu hple hcast eR he hf hN hv hvb hcb heN hfN
          go_enter Try.func33, Try.ntmps33
          go_wp2_with fail
          refine calls_gen (fun W => Below w.heap.size w W ∧ w.heap.size < W.heap.size ∧ W.cell? ⟨w.heap.size, 0, none⟩ = some (.int .i64 s) ∧ W.cell? ⟨w.heap.size, 1, none⟩ = some (.slice a n c)) ⟨hb0 _, by simp, by go_simp, by go_simp⟩ ?_
          rintro W ⟨hB, hz, k0, k1⟩
          refine (HI.out W hB).mono ?_
          rintro en w1 ⟨rfl, b1⟩
          replace hB := hB.next b1
          replace k0 := b1.keep k0
          replace k1 := b1.keep k1
          replace hz := Nat.lt_of_lt_of_le hz b1.size
          clear b1 HI
          go_wp2_with fail
          refine (HXE.out w1).mono ?_
          rintro en w2 ⟨rfl, q1⟩
          replace hB := hB.qt q1
          replace k0 := q1.cell k0
          replace k1 := q1.cell k1
          replace hz := Nat.lt_of_lt_of_le hz q1.below.size
          clear q1 HXE
          go_wp2_with fail
          refine (HXF.out w2).mono ?_
          rintro en w3 ⟨rfl, q1⟩
          replace hB := hB.qt q1
          replace k0 := q1.cell k0
          replace k1 := q1.cell k1
          replace hz := Nat.lt_of_lt_of_le hz q1.below.size
          clear q1 HXF
          have hA : ∀ o, Below w3.heap.size w3 (w3.alloc o) := fun o => (Below.refl _ _).alloc (Nat.le_refl _) o
          obtain ⟨P, hP⟩ : ∃ P, P = w3.heap.size := ⟨_, rfl⟩
          go_wp2_with fail
          rw [← hP]
          refine calls_gen (fun V => Below w.heap.size w V ∧ P < V.heap.size ∧ (V.cell? ⟨w.heap.size, 0, none⟩ = some (.int .i64 s) ∧ V.cell? ⟨w.heap.size, 1, none⟩ = some (.slice a n c)) ∧ V.cell? ⟨P, 0, none⟩ = some (.int .i64 s) ∧ V.cell? ⟨P, 1, none⟩ = some (.slice a n c) ∧ V.cell? ⟨P, 2, none⟩ = some (.int .i64 p) ∧ V.cell? ⟨P, 3, none⟩ = some (.int .i64 u)) ⟨?_, ?_, ⟨?_, ?_⟩, ?_, ?_, ?_, ?_⟩ ?_
          · exact hB.next (hA _)
          · rw [hP]; simp
          iterate 6 (first | (rw [hP]; go_simp) | go_simp)
          rintro V ⟨hB, hPV, ⟨k0, k1⟩, y0, y1, y2, y3⟩
          refine (HR.out V hB).mono ?_
          rintro en w5 ⟨rfl, b5⟩
          replace hB := hB.next b5
          replace k0 := b5.keep k0
          replace k1 := b5.keep k1
          replace y0 := b5.keep y0
          replace y1 := b5.keep y1
          replace y2 := b5.keep y2
          replace y3 := b5.keep y3
          replace hPV := Nat.lt_of_lt_of_le hPV b5.size
          have hwP : w.heap.size < P := by rw [hP]; exact hz
          clear b5 HR hA hP hz
          clear k0 k1
          go_wp2_with fail
          have HCD := Lib.hid (HC.out w5.drew (hB.qt (Qt.refl w5).drew))
          have HB0 := Lib.hid hB
          have d0 : w5.drew.cell? ⟨P, 0, none⟩ = some (.int .i64 s) := y0
          have d1 : w5.drew.cell? ⟨P, 1, none⟩ = some (.slice a n c) := y1
          have d2 : w5.drew.cell? ⟨P, 2, none⟩ = some (.int .i64 p) := y2
          have d3 : w5.drew.cell? ⟨P, 3, none⟩ = some (.int .i64 u) := y3
          clear hB HC
          go_region_held3 (fun W' => W'.cell? ⟨P, 0, none⟩ = some (.int .i64 s) ∧ W'.cell? ⟨P, 1, none⟩ = some (.slice a n c) ∧ W'.cell? ⟨P, 2, none⟩ = some (.int .i64 p) ∧ W'.cell? ⟨P, 3, none⟩ = some (.int .i64 u))
            (first | (exact ⟨y0, y1, y2, y3⟩) | (exact S5) | (exact S4) | go_keep)
            (first
              | (go_at_call 67; with_reducible refine HCD.out.mono ?_; rintro en w6 ⟨rfl, b6⟩; have S4 := keep4 b6 d0 d1 d2 d3)
              | (go_at_call 66; with_reducible refine (HQ.out w6).mono ?_; rintro en w7 ⟨rfl, b7⟩; have b67 := b6.next b7; have S5 := keep4 b67 d0 d1 d2 d3))
          all_goals
            have HF := Lib.hid (HB0.out.next ((Qt.refl w5).drew.below.next b67))
            clear S5 S4 b67 b6 b7 HCD HQ y0 y1 y2 y3 d0 d1 d2 d3
            go_wp2
            go_ret2
            exact ⟨rfl, HF.out⟩
  · have e2 : rsOf s xss p u e0 f0 = (0, plcCode p s xss u) := by unfold rsOf; rw [if_neg hd]
    rw [e2]
    have hcb : (plcCode p s xss u == 0) = false := by simpa using hd
    have hcb2 : (plcCode p s xss u != 0) = true := by simpa using hd
    generalize plcCode p s xss u = cd at HI hcb hcb2 ⊢
    clear h hn hd e2
    go_enter Try.func33, Try.ntmps33
    go_wp2_with fail
    refine calls_gen (fun W => Below w.heap.size w W ∧ w.heap.size < W.heap.size ∧ W.cell? ⟨w.heap.size, 0, none⟩ = some (.int .i64 s) ∧ W.cell? ⟨w.heap.size, 1, none⟩ = some (.slice a n c)) ⟨hb0 _, by simp, by go_simp, by go_simp⟩ ?_
    rintro W ⟨hB, hz, k0, k1⟩
    refine (HI.out W hB).mono ?_
    rintro en w1 ⟨rfl, b1⟩
    replace hB := hB.next b1
    replace k0 := b1.keep k0
    replace k1 := b1.keep k1
    replace hz := Nat.lt_of_lt_of_le hz b1.size
    clear b1 HI
    go_wp2
    go_ret2
    exact ⟨rfl, hB⟩

set_option maxHeartbeats 3200000 in
theorem implTr {lo hi : Nat} (s : Int) (a : Option Addr) (n c : Nat) (xss : List (List Int)) (p u : Int) (w : World) (h : RdR lo hi w (.slice a n c) xss) (hn : xss.length = n) :
    Calls Try.prog 35 #[.agg #[.int .i64 s, .slice a n c], .int .i64 p, .int .i64 u] w fun en w' => en = .returned (.tuple #[.int .i64 (trOf s xss p u).1, .int .i64 (trOf s xss p u).2]) ∧ Below w.heap.size w w' := by
  have hb0 : ∀ o, Below w.heap.size w (w.alloc o) := fun o => (Below.refl _ _).alloc (Nat.le_refl _) o
  have HI := Lib.hid (fun W (hB : Below w.heap.size w W) => checkPlace p s a n c xss u W (h.below hB) hn)
  by_cases hd : plcCode p s xss u = 0
  · rw [hd] at HI
    obtain ⟨hg, hp, hu⟩ := plc_ok hd
    have hg4 := grB_iff hg
    have hple := hp.le
    obtain ⟨N, hN⟩ : ∃ N, N = 2 * n := ⟨_, rfl⟩
    have hN20 : N ≤ 20 := by omega
    have hm2 : IntKind.i64.wrap (2 * (n : Int)) = (N : Int) := by rw [hN]; rw [IntWalk.i64_in _ (by omega)]; omega
    have hm2' : wrap64 (2 * (n : Int)) = (N : Int) := by rw [hN]; rw [IntWalk.wrap64_in _ (by omega)]; omega
    have eR : trOf s xss p u = if plV xss p u = 0 then (0, 5) else (trV xss p u, 0) := by unfold trOf; rw [if_pos hd]
    have HR := Lib.hid (fun W (hB : Below w.heap.size w W) => placeValue s a n c xss p u W (h.below hB) hn hg hp hu)
    by_cases hv : plV xss p u = 0
    · rw [if_pos hv] at eR
      rw [eR]
      rw [hv] at HR
      clear h hn hd hg hg4 hp hu hple eR hN hv
      go_enter Try.func35, Try.ntmps35
      go_wp2_with fail
      refine calls_gen (fun W => Below w.heap.size w W ∧ w.heap.size < W.heap.size ∧ W.cell? ⟨w.heap.size, 0, none⟩ = some (.int .i64 s) ∧ W.cell? ⟨w.heap.size, 1, none⟩ = some (.slice a n c)) ⟨hb0 _, by simp, by go_simp, by go_simp⟩ ?_
      rintro W ⟨hB, hz, k0, k1⟩
      refine (HI.out W hB).mono ?_
      rintro en w1 ⟨rfl, b1⟩
      replace hB := hB.next b1
      replace k0 := b1.keep k0
      replace k1 := b1.keep k1
      replace hz := Nat.lt_of_lt_of_le hz b1.size
      clear b1 HI
      have hA : ∀ o, Below w1.heap.size w1 (w1.alloc o) := fun o => (Below.refl _ _).alloc (Nat.le_refl _) o
      obtain ⟨P, hP⟩ : ∃ P, P = w1.heap.size := ⟨_, rfl⟩
      go_wp2_with fail
      rw [← hP]
      refine calls_gen (fun V => Below w.heap.size w V ∧ P < V.heap.size ∧ (V.cell? ⟨w.heap.size, 0, none⟩ = some (.int .i64 s) ∧ V.cell? ⟨w.heap.size, 1, none⟩ = some (.slice a n c)) ∧ V.cell? ⟨P, 0, none⟩ = some (.int .i64 s) ∧ V.cell? ⟨P, 1, none⟩ = some (.slice a n c) ∧ V.cell? ⟨P, 2, none⟩ = some (.int .i64 p) ∧ V.cell? ⟨P, 3, none⟩ = some (.int .i64 u)) ⟨?_, ?_, ⟨?_, ?_⟩, ?_, ?_, ?_, ?_⟩ ?_
      · exact hB.next (hA _)
      · rw [hP]; simp
      iterate 6 (first | (rw [hP]; go_simp) | go_simp)
      rintro V ⟨hB, hPV, ⟨k0, k1⟩, y0, y1, y2, y3⟩
      refine (HR.out V hB).mono ?_
      rintro en w5 ⟨rfl, b5⟩
      replace hB := hB.next b5
      replace k0 := b5.keep k0
      replace k1 := b5.keep k1
      replace y0 := b5.keep y0
      replace y1 := b5.keep y1
      replace y2 := b5.keep y2
      replace y3 := b5.keep y3
      replace hPV := Nat.lt_of_lt_of_le hPV b5.size
      have hwP : w.heap.size < P := by rw [hP]; exact hz
      clear b5 HR hA hP hz
      go_wp2
      go_ret2
      exact ⟨rfl, hB⟩
    · rw [if_neg hv] at eR
      rw [eR]
      have hvb := plV_bd xss u hple.1
      have hsb := csum_bd xss u hple N
      have hTV : trV xss p u = (csum xss p u N * invO p (plV xss p u)) % p := by unfold trV; rw [hn, ← hN]
      rw [hTV]
      have HC := Lib.hid (fun W (hB : Below w.heap.size w W) (k : Nat) (hk : k < N) => cofactor s a n c xss p u k k W (h.below hB) hn hg hp hu (by omega) (by omega))
      have HQ := Lib.hid (fun W => mQuo p (csum xss p u N) (plV xss p u) ((csum xss p u N * invO p (plV xss p u)) % p) W hp (by omega) hvb.2 (by omega) (by omega) (quo_ok hp (by omega)) (Int.emod_emod _ _))
      have HCB := Lib.hid (fun k : Nat => cofV_bd xss u k k hple.1)
      have HSB := Lib.hid (fun k : Nat => csum_bd xss u hple k)
      have HST := Lib.hid (show ∀ k : Nat, csum xss p u (k + 1) = csum xss p u k + cofV xss p u k k from fun k => rfl)
      have HPL := Lib.hid hple
      have hvn : (plV xss p u == 0) = false := by simpa using hv
      generalize (csum xss p u N * invO p (plV xss p u)) % p = R at HQ ⊢
      have HS0 := Lib.hid (show csum xss p u 0 = 0 from rfl)
      generalize csum xss p u = S at HQ HSB HST HS0
      generalize cofV xss p u = C at HC HCB HST
      generalize plV xss p u = D at HR HQ hvn
      clear h hn hd hg hg4 hp hu hple eR hN hv hvb hsb hTV
      go_enter Try.func35, Try.ntmps35
      go_wp2_with fail
      refine calls_gen (fun W => Below w.heap.size w W ∧ w.heap.size < W.heap.size ∧ W.cell? ⟨w.heap.size, 0, none⟩ = some (.int .i64 s) ∧ W.cell? ⟨w.heap.size, 1, none⟩ = some (.slice a n c)) ⟨hb0 _, by simp, by go_simp, by go_simp⟩ ?_
      rintro W ⟨hB, hz, k0, k1⟩
      refine (HI.out W hB).mono ?_
      rintro en w1 ⟨rfl, b1⟩
      replace hB := hB.next b1
      replace k0 := b1.keep k0
      replace k1 := b1.keep k1
      replace hz := Nat.lt_of_lt_of_le hz b1.size
      clear b1 HI
      have hA : ∀ o, Below w1.heap.size w1 (w1.alloc o) := fun o => (Below.refl _ _).alloc (Nat.le_refl _) o
      obtain ⟨P, hP⟩ : ∃ P, P = w1.heap.size := ⟨_, rfl⟩
      go_wp2_with fail
      rw [← hP]
      refine calls_gen (fun V => Below w.heap.size w V ∧ P < V.heap.size ∧ (V.cell? ⟨w.heap.size, 0, none⟩ = some (.int .i64 s) ∧ V.cell? ⟨w.heap.size, 1, none⟩ = some (.slice a n c)) ∧ V.cell? ⟨P, 0, none⟩ = some (.int .i64 s) ∧ V.cell? ⟨P, 1, none⟩ = some (.slice a n c) ∧ V.cell? ⟨P, 2, none⟩ = some (.int .i64 p) ∧ V.cell? ⟨P, 3, none⟩ = some (.int .i64 u)) ⟨?_, ?_, ⟨?_, ?_⟩, ?_, ?_, ?_, ?_⟩ ?_
      · exact hB.next (hA _)
      · rw [hP]; simp
      iterate 6 (first | (rw [hP]; go_simp) | go_simp)
      rintro V ⟨hB, hPV, ⟨k0, k1⟩, y0, y1, y2, y3⟩
      refine (HR.out V hB).mono ?_
      rintro en w5 ⟨rfl, b5⟩
      replace hB := hB.next b5
      replace k0 := b5.keep k0
      replace k1 := b5.keep k1
      replace y0 := b5.keep y0
      replace y1 := b5.keep y1
      replace y2 := b5.keep y2
      replace y3 := b5.keep y3
      replace hPV := Nat.lt_of_lt_of_le hPV b5.size
      have hwP : w.heap.size < P := by rw [hP]; exact hz
      clear b5 HR hA hP hz
      have HK := Lib.hid (⟨hB, hPV, y0, y1, y2, y3⟩ : _ ∧ _ ∧ _ ∧ _ ∧ _ ∧ _)
      clear hB hPV y0 y1 y2 y3 k0
      go_wp2
      clear k1
      go_loopw [32, 11] (fun i v wr => ∃ k : Nat, k ≤ N ∧ i = .int .i64 k ∧ v = .int .i64 (S k) ∧ Below w.heap.size w wr ∧ P < wr.heap.size ∧ wr.cell? ⟨P, 0, none⟩ = some (.int .i64 s) ∧ wr.cell? ⟨P, 1, none⟩ = some (.slice a n c) ∧ wr.cell? ⟨P, 2, none⟩ = some (.int .i64 p) ∧ wr.cell? ⟨P, 3, none⟩ = some (.int .i64 u)) (fun i _ _ => N - (intOf i).toNat)
      case atStart => exact ⟨0, Nat.zero_le _, rfl, by rw [HS0.out], HK.out⟩
      case round =>
        rename_i hrel
        clear HK
        obtain ⟨k, hk, rfl, rfl, hB, hPV, y0, y1, y2, y3⟩ := hrel
        by_cases hlt : k < N
        · have hkI : (k : Int) < (N : Int) := by omega
          have hcb := HCB.out k
          have hsb := HSB.out k
          have hst := HST.out k
          have hpl := HPL.out
          have HCC := Lib.hid (HC.out wr hB k hlt)
          generalize C k k = ck at HCC hcb hst
          have m1 : IntKind.i64.wrap (S k + ck) = S (k + 1) := by rw [hst]; exact IntWalk.i64_in _ (by omega)
          have m2 : wrap64 (S k + ck) = S (k + 1) := by rw [hst]; exact IntWalk.wrap64_in _ (by clear m1; omega)
          have HV := Lib.hid (⟨hB, hPV, y0, y1, y2, y3⟩ : _ ∧ _ ∧ _ ∧ _ ∧ _ ∧ _)
          clear hcb hsb hst hB hPV hpl
          go_wp2_with fail
          refine HCC.out.mono ?_
          rintro en w6 ⟨rfl, b6⟩
          obtain ⟨hB, hPV, y0', y1', y2', y3'⟩ := HV.out
          have HF := Lib.hid (⟨hB.next b6, Nat.lt_of_lt_of_le hPV b6.size, b6.keep y0', b6.keep y1', b6.keep y2', b6.keep y3'⟩ : _ ∧ _ ∧ _ ∧ _ ∧ _ ∧ _)
          clear hB hPV y0 y1 y2 y3 y0' y1' y2' y3' b6 HCC HV
          go_wp2
          clear m1 m2
          go_roundw
          case rel => exact ⟨k+1, by omega, by go_num, rfl, HF.out⟩
          case measure => simp [intOf]; omega
        · obtain rfl : k = N := by omega
          have HB1 := Lib.hid hB
          clear hB y0 y1 y3
          go_wp2_with fail
          refine (HQ.out _).mono ?_
          rintro en w7 ⟨rfl, b7⟩
          have HF := Lib.hid (HB1.out.next b7)
          clear b7
          go_wp2
          go_ret2
          exact ⟨rfl, HF.out⟩
  · have e2 : trOf s xss p u = (0, plcCode p s xss u) := by unfold trOf; rw [if_neg hd]
    rw [e2]
    have hcb : (plcCode p s xss u == 0) = false := by simpa using hd
    have hcb2 : (plcCode p s xss u != 0) = true := by simpa using hd
    generalize plcCode p s xss u = cd at HI hcb hcb2 ⊢
    clear h hn hd e2
    go_enter Try.func35, Try.ntmps35
    go_wp2_with fail
    refine calls_gen (fun W => Below w.heap.size w W ∧ w.heap.size < W.heap.size ∧ W.cell? ⟨w.heap.size, 0, none⟩ = some (.int .i64 s) ∧ W.cell? ⟨w.heap.size, 1, none⟩ = some (.slice a n c)) ⟨hb0 _, by simp, by go_simp, by go_simp⟩ ?_
    rintro W ⟨hB, hz, k0, k1⟩
    refine (HI.out W hB).mono ?_
    rintro en w1 ⟨rfl, b1⟩
    replace hB := hB.next b1
    replace k0 := b1.keep k0
    replace k1 := b1.keep k1
    replace hz := Nat.lt_of_lt_of_le hz b1.size
    clear b1 HI
    go_wp2
    go_ret2
    exact ⟨rfl, hB⟩
end Go.Proofs.Ytnblhkhdilkbeaa
