/- RegularDegree of the model. -/
import Derived.Test.YtnblhkhdilkbeaaDoorCoreB
import Derived.Test.YtnblhkhdilkbeaaDoorCoreA
set_option linter.unusedSimpArgs false
set_option linter.unusedVariables false
set_option maxRecDepth 100000
namespace Go.Proofs.YtnblhkhdilkbeaaDoor
open Go.RowKit

/-- the vertices below k have the degree of the first one -/
def rgK (xss : List (List Int)) (k : Nat) : Bool := (List.range k).all (fun v => decide (deg xss (v : Int) = deg xss 0))
theorem rgK_step (xss : List (List Int)) (k : Nat) : rgK xss (k + 1) = (rgK xss k && decide (deg xss (k : Int) = deg xss 0)) := by
  unfold rgK; rw [List.range_succ, List.all_append]; simp
theorem rgK_no {xss : List (List Int)} {k S : Nat} (hk : k < S) (h : deg xss (k : Int) ≠ deg xss 0) : rgK xss S = false := by
  unfold rgK
  rw [List.all_eq_false]
  exact ⟨k, by simpa using hk, by simpa using h⟩
def rdOf (s : Int) (xss : List (List Int)) : Int × Int := if grB s xss then (if rgK xss s.toNat then (deg xss 0, 0) else (0, 4)) else (0, 1)
theorem deg_0 (xss : List (List Int)) : 0 ≤ deg xss 0 := by
  have := deg_bd xss 0
  omega

set_option maxHeartbeats 1600000 in
theorem l07Regular {lo hi : Nat} (S : Nat) (a : Option Addr) (n c : Nat) (xss : List (List Int)) (w : World) (h : RdR lo hi w (.slice a n c) xss) (hn : xss.length = n) (hg : grB (S : Int) xss = true) :
    Calls Tryd.prog 39 #[.agg #[.int .i64 (S : Int), .slice a n c]] w fun e w' => e = .returned (.int .i64 (if rgK xss S then deg xss 0 else -1)) ∧ Below w.heap.size w w' := by
  have hb0 : ∀ o, Below w.heap.size w (w.alloc o) := fun o => (Below.refl _ _).alloc (Nat.le_refl _) o
  have hg4 := grB_iff hg
  have hS1 : 1 ≤ S := by omega
  have hS8 : S ≤ 8 := by omega
  have HD := Lib.hid (fun W (hB : Below w.heap.size w W) (v : Int) => l01Degree (S : Int) v a n c xss W (h.below hB) hg)
  have HST := Lib.hid (rgK_step xss)
  have HNO := Lib.hid (fun k (hk : k < S) (hne : deg xss (k : Int) ≠ deg xss 0) => rgK_no (S := S) hk hne)
  have HY := Lib.hid (show rgK xss 1 = true by rw [rgK_step]; simp [rgK])
  obtain ⟨z, hzz⟩ : ∃ z, z = if rgK xss S then deg xss 0 else -1 := ⟨_, rfl⟩
  rw [← hzz]
  have HZ1 := Lib.hid (show rgK xss S = true → z = deg xss 0 from fun e => by rw [hzz, e]; rfl)
  have HZ2 := Lib.hid (show rgK xss S = false → z = -1 from fun e => by rw [hzz, e]; rfl)
  clear hzz
  generalize hR : rgK xss = R at HST HNO HY HZ1 HZ2
  clear hR h hn hg hg4
  generalize hdg : deg xss = dg at HD HST HNO HZ1
  clear hdg
  go_enter Tryd.func39, Tryd.ntmps39
  go_wp2_with fail
  refine calls_gen (fun W => Below w.heap.size w W ∧ w.heap.size < W.heap.size ∧ W.cell? ⟨w.heap.size, 0, none⟩ = some (.int .i64 (S : Int)) ∧ W.cell? ⟨w.heap.size, 1, none⟩ = some (.slice a n c)) ⟨hb0 _, by simp, by go_simp, by go_simp⟩ ?_
  rintro W ⟨hB, hz, k0, k1⟩
  refine (HD.out W hB 0).mono ?_
  rintro e w1 ⟨rfl, b1⟩
  have HK := Lib.hid (⟨hB.next b1, b1.keep k0, b1.keep k1⟩ : _ ∧ _ ∧ _)
  clear b1 hB k0 k1
  go_wp2
  go_loopw [4] (fun i wr => ∃ k : Nat, 1 ≤ k ∧ k ≤ S ∧ i = .int .i64 k ∧ Hid (R k = true) ∧ Below w.heap.size w wr ∧ wr.cell? ⟨w.heap.size, 0, none⟩ = some (.int .i64 (S : Int)) ∧ wr.cell? ⟨w.heap.size, 1, none⟩ = some (.slice a n c)) (fun i _ => S - (intOf i).toNat)
  case atStart => exact ⟨1, Nat.le_refl _, hS1, rfl, HY, HK.out⟩
  case round =>
    clear HK
    obtain ⟨k, hk1, hk, rfl, HR, hB, k0, k1⟩ := hrel
    by_cases hlt : k < S
    · have hkI : (k : Int) < (S : Int) := by omega
      have HDK := Lib.hid (HD.out wr hB (k : Int))
      have HKB := Lib.hid (⟨hB, k0, k1⟩ : _ ∧ _ ∧ _)
      clear hB
      go_wp2_with fail
      refine HDK.out.mono ?_
      rintro e w2 ⟨rfl, b2⟩
      obtain ⟨hB, q0, q1⟩ := HKB.out
      have HK2 := Lib.hid (⟨hB.next b2, b2.keep q0, b2.keep q1⟩ : _ ∧ _ ∧ _)
      clear b2 hB q0 q1 k0 k1 HDK HKB
      by_cases he : dg (k : Int) = dg 0
      · have hb : (dg (k : Int) != dg 0) = false := by simpa using he
        have HR2 := Lib.hid (show R (k + 1) = true by rw [HST.out, HR.out, he]; simp)
        go_wp2
        go_roundw
        case rel => exact ⟨k+1, by omega, by omega, by go_num, HR2, HK2.out⟩
        case measure => simp [intOf]; omega
      · have hb : (dg (k : Int) != dg 0) = true := by simpa using he
        have HRF := Lib.hid (HZ2.out (HNO.out k hlt he))
        clear he
        go_wp2
        go_ret
        exact ⟨by rw [HRF.out]; rfl, HK2.out.1⟩
    · obtain rfl : k = S := by omega
      have hkI : ¬ (k : Int) < (k : Int) := by omega
      have HB2 := Lib.hid hB
      have HRF := Lib.hid (HZ1.out HR.out)
      clear hB k1
      go_wp2
      go_ret
      exact ⟨by rw [HRF.out]; rfl, HB2.out⟩

set_option maxHeartbeats 1600000 in
theorem specRd {lo hi : Nat} (s : Int) (a : Option Addr) (n c : Nat) (xss : List (List Int)) (w : World) (h : RdR lo hi w (.slice a n c) xss) (hn : xss.length = n) :
    Calls Tryd.prog 23 #[.agg #[.int .i64 s, .slice a n c]] w fun e w' => e = .returned (.tuple #[.int .i64 (rdOf s xss).1, .int .i64 (rdOf s xss).2]) ∧ Below w.heap.size w w' := by
  have hb0 : ∀ o, Below w.heap.size w (w.alloc o) := fun o => (Below.refl _ _).alloc (Nat.le_refl _) o
  have HI := Lib.hid (fun W (hB : Below w.heap.size w W) => l01Is s a n c xss W (h.below hB) hn)
  cases hg : grB s xss with
  | false =>
    have e2 : rdOf s xss = (0, 1) := by unfold rdOf; rw [hg]; rfl
    rw [e2]
    rw [hg] at HI
    clear h hn hg e2
    go_enter Tryd.func23, Tryd.ntmps23
    go_wp2_with fail
    refine calls_gen (fun W => Below w.heap.size w W) (hb0 _) ?_
    intro W hB
    refine (HI.out W hB).mono ?_
    rintro e w1 ⟨rfl, b1⟩
    replace hB := hB.next b1
    clear b1 HI
    go_wp2
    go_ret2
    exact ⟨rfl, hB⟩
  | true =>
    have hg4 := grB_iff hg
    obtain ⟨S, rfl⟩ : ∃ S : Nat, s = (S : Int) := ⟨s.toNat, by omega⟩
    have e2 : rdOf (S : Int) xss = if rgK xss S then (deg xss 0, 0) else (0, 4) := by unfold rdOf; rw [if_pos hg, Int.toNat_natCast]
    rw [hg] at HI
    have HR := Lib.hid (fun W (hB : Below w.heap.size w W) => l07Regular S a n c xss W (h.below hB) hn hg)
    have hd0 := deg_0 xss
    generalize deg xss 0 = d at e2 HR hd0
    generalize rgK xss S = r at HR e2
    obtain ⟨R2, hR2⟩ : ∃ R2 : Int × Int, R2 = (if r then (d, 0) else (0, 4)) := ⟨_, rfl⟩
    rw [e2, ← hR2]
    have HR2 := Lib.hid hR2
    clear h hn hg hg4 e2 hR2
    go_enter Tryd.func23, Tryd.ntmps23
    go_wp2_with fail
    refine calls_gen (fun W => Below w.heap.size w W ∧ W.cell? ⟨w.heap.size, 0, none⟩ = some (.int .i64 (S : Int)) ∧ W.cell? ⟨w.heap.size, 1, none⟩ = some (.slice a n c)) ⟨hb0 _, by go_simp, by go_simp⟩ ?_
    rintro W ⟨hB, k0, k1⟩
    refine (HI.out W hB).mono ?_
    rintro e w1 ⟨rfl, b1⟩
    replace hB := hB.next b1
    replace k0 := b1.keep k0
    replace k1 := b1.keep k1
    clear b1 HI
    go_wp2_with fail
    refine (HR.out w1 hB).mono ?_
    rintro e w2 ⟨rfl, b2⟩
    replace hB := hB.next b2
    clear b2 HR k0 k1
    cases r with
    | true =>
      have hlt : ¬ d < 0 := by omega
      have HRE := Lib.hid (show R2 = (d, 0) by rw [HR2.out]; rfl)
      simp only [if_true]
      go_wp2
      go_ret2
      exact ⟨by rw [HRE.out]; rfl, hB⟩
    | false =>
      have HRE := Lib.hid (show R2 = (0, 4) by rw [HR2.out]; rfl)
      simp only [Bool.false_eq_true, if_false]
      go_wp2
      go_ret2
      exact ⟨by rw [HRE.out]; rfl, hB⟩
end Go.Proofs.YtnblhkhdilkbeaaDoor
