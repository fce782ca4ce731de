/- Merged: RgS, RgI, FiP, FiD, FiS, CaN, FiL, IsN, FiI, FiJ (the plain kit of these proofs). -/
import Derived.Test.YtnblhkhdilkbeaaDoorCoreB
import Derived.Test.YtnblhkhdilkbeaaDoorCoreA
import Derived.Recover
import Derived.Defers
import Derived.WalkLawsBesides
import Derived.Laws.Pointers
import Derived.Test.YtnblhkhdilkbeaaDoorCoreN
import Derived.Test.YtnblhkhdilkbeaaDoorCoreM
import Derived.Deep.RegionHeld3
import Derived.Test.YtnblhkhdilkbeaaDoorCoreQ
set_option linter.unusedSimpArgs false
set_option linter.unusedVariables false
/- RegularDegree of the model. -/
set_option maxRecDepth 100000
namespace Go.Proofs.YtnblhkhdilkbeaaDoor
open Go.RowKit

/-- the vertices below k have the degree of the first one -/
def rgK (xss : List (List Int)) (k : Nat) : Bool := (List.range k).all (fun v => decide (deg xss (v : Int) = deg xss 0))
theorem rgK_step (xss : List (List Int)) (k : Nat) : rgK xss (k + 1) = (rgK xss k && decide (deg xss (k : Int) = deg xss 0)) := by
  unfold rgK; rw [List.range_succ, List.all_append]; simp
theorem rgK_no {xss : List (List Int)} {k S : Nat} (hk : k < S) (h : deg xss (k : Int) ≠ deg xss 0) : rgK xss S = false := by
  unfold rgK
  rw [List.all_eq_false]
  exact ⟨k, by simpa using hk, by simpa using h⟩
def rdOf (s : Int) (xss : List (List Int)) : Int × Int := if grB s xss then (if rgK xss s.toNat then (deg xss 0, 0) else (0, 4)) else (0, 1)
theorem deg_0 (xss : List (List Int)) : 0 ≤ deg xss 0 := by
  have := deg_bd xss 0
  omega

set_option maxHeartbeats 1600000 in
theorem l07Regular {lo hi : Nat} (S : Nat) (a : Option Addr) (n c : Nat) (xss : List (List Int)) (w : World) (h : RdR lo hi w (.slice a n c) xss) (hn : xss.length = n) (hg : grB (S : Int) xss = true) :
    Calls Tryd.prog 39 #[.agg #[.int .i64 (S : Int), .slice a n c]] w fun e w' => e = .returned (.int .i64 (if rgK xss S then deg xss 0 else -1)) ∧ Below w.heap.size w w' := by
  have hb0 : ∀ o, Below w.heap.size w (w.alloc o) := fun o => (Below.refl _ _).alloc (Nat.le_refl _) o
  have hg4 := grB_iff hg
  have hS1 : 1 ≤ S := by omega
  have hS8 : S ≤ 8 := by omega
  have HD := Lib.hid (fun W (hB : Below w.heap.size w W) (v : Int) => l01Degree (S : Int) v a n c xss W (h.below hB) hg)
  have HST := Lib.hid (rgK_step xss)
  have HNO := Lib.hid (fun k (hk : k < S) (hne : deg xss (k : Int) ≠ deg xss 0) => rgK_no (S := S) hk hne)
  have HY := Lib.hid (show rgK xss 1 = true by rw [rgK_step]; simp [rgK])
  obtain ⟨z, hzz⟩ : ∃ z, z = if rgK xss S then deg xss 0 else -1 := ⟨_, rfl⟩
  rw [← hzz]
  have HZ1 := Lib.hid (show rgK xss S = true → z = deg xss 0 from fun e => by rw [hzz, e]; rfl)
  have HZ2 := Lib.hid (show rgK xss S = false → z = -1 from fun e => by rw [hzz, e]; rfl)
  clear hzz
  generalize hR : rgK xss = R at HST HNO HY HZ1 HZ2
  clear hR h hn hg hg4
  generalize hdg : deg xss = dg at HD HST HNO HZ1
  clear hdg
  go_enter Tryd.func39, Tryd.ntmps39
  go_wp2_with fail
  refine calls_gen (fun W => Below w.heap.size w W ∧ w.heap.size < W.heap.size ∧ W.cell? ⟨w.heap.size, 0, none⟩ = some (.int .i64 (S : Int)) ∧ W.cell? ⟨w.heap.size, 1, none⟩ = some (.slice a n c)) ⟨hb0 _, by simp, by go_simp, by go_simp⟩ ?_
  rintro W ⟨hB, hz, k0, k1⟩
  refine (HD.out W hB 0).mono ?_
  rintro e w1 ⟨rfl, b1⟩
  have HK := Lib.hid (⟨hB.next b1, b1.keep k0, b1.keep k1⟩ : _ ∧ _ ∧ _)
  clear b1 hB k0 k1
  go_wp2
  go_loopw [4] (fun i wr => ∃ k : Nat, 1 ≤ k ∧ k ≤ S ∧ i = .int .i64 k ∧ Hid (R k = true) ∧ Below w.heap.size w wr ∧ wr.cell? ⟨w.heap.size, 0, none⟩ = some (.int .i64 (S : Int)) ∧ wr.cell? ⟨w.heap.size, 1, none⟩ = some (.slice a n c)) (fun i _ => S - (intOf i).toNat)
  case atStart => exact ⟨1, Nat.le_refl _, hS1, rfl, HY, HK.out⟩
  case round =>
    clear HK
    obtain ⟨k, hk1, hk, rfl, HR, hB, k0, k1⟩ := hrel
    by_cases hlt : k < S
    · have hkI : (k : Int) < (S : Int) := by omega
      have HDK := Lib.hid (HD.out wr hB (k : Int))
      have HKB := Lib.hid (⟨hB, k0, k1⟩ : _ ∧ _ ∧ _)
      clear hB
      go_wp2_with fail
      refine HDK.out.mono ?_
      rintro e w2 ⟨rfl, b2⟩
      obtain ⟨hB, q0, q1⟩ := HKB.out
      have HK2 := Lib.hid (⟨hB.next b2, b2.keep q0, b2.keep q1⟩ : _ ∧ _ ∧ _)
      clear b2 hB q0 q1 k0 k1 HDK HKB
      by_cases he : dg (k : Int) = dg 0
      · have hb : (dg (k : Int) != dg 0) = false := by simpa using he
        have HR2 := Lib.hid (show R (k + 1) = true by rw [HST.out, HR.out, he]; simp)
        go_wp2
        go_roundw
        case rel => exact ⟨k+1, by omega, by omega, by go_num, HR2, HK2.out⟩
        case measure => simp [intOf]; omega
      · have hb : (dg (k : Int) != dg 0) = true := by simpa using he
        have HRF := Lib.hid (HZ2.out (HNO.out k hlt he))
        clear he
        go_wp2
        go_ret
        exact ⟨by rw [HRF.out]; rfl, HK2.out.1⟩
    · obtain rfl : k = S := by omega
      have hkI : ¬ (k : Int) < (k : Int) := by omega
      have HB2 := Lib.hid hB
      have HRF := Lib.hid (HZ1.out HR.out)
      clear hB k1
      go_wp2
      go_ret
      exact ⟨by rw [HRF.out]; rfl, HB2.out⟩

set_option maxHeartbeats 1600000 in
theorem specRd {lo hi : Nat} (s : Int) (a : Option Addr) (n c : Nat) (xss : List (List Int)) (w : World) (h : RdR lo hi w (.slice a n c) xss) (hn : xss.length = n) :
    Calls Tryd.prog 23 #[.agg #[.int .i64 s, .slice a n c]] w fun e w' => e = .returned (.tuple #[.int .i64 (rdOf s xss).1, .int .i64 (rdOf s xss).2]) ∧ Below w.heap.size w w' := by
  have hb0 : ∀ o, Below w.heap.size w (w.alloc o) := fun o => (Below.refl _ _).alloc (Nat.le_refl _) o
  have HI := Lib.hid (fun W (hB : Below w.heap.size w W) => l01Is s a n c xss W (h.below hB) hn)
  cases hg : grB s xss with
  | false =>
    have e2 : rdOf s xss = (0, 1) := by unfold rdOf; rw [hg]; rfl
    rw [e2]
    rw [hg] at HI
    clear h hn hg e2
    go_enter Tryd.func23, Tryd.ntmps23
    go_wp2_with fail
    refine calls_gen (fun W => Below w.heap.size w W) (hb0 _) ?_
    intro W hB
    refine (HI.out W hB).mono ?_
    rintro e w1 ⟨rfl, b1⟩
    replace hB := hB.next b1
    clear b1 HI
    go_wp2
    go_ret2
    exact ⟨rfl, hB⟩
  | true =>
    have hg4 := grB_iff hg
    obtain ⟨S, rfl⟩ : ∃ S : Nat, s = (S : Int) := ⟨s.toNat, by omega⟩
    have e2 : rdOf (S : Int) xss = if rgK xss S then (deg xss 0, 0) else (0, 4) := by unfold rdOf; rw [if_pos hg, Int.toNat_natCast]
    rw [hg] at HI
    have HR := Lib.hid (fun W (hB : Below w.heap.size w W) => l07Regular S a n c xss W (h.below hB) hn hg)
    have hd0 := deg_0 xss
    generalize deg xss 0 = d at e2 HR hd0
    generalize rgK xss S = r at HR e2
    obtain ⟨R2, hR2⟩ : ∃ R2 : Int × Int, R2 = (if r then (d, 0) else (0, 4)) := ⟨_, rfl⟩
    rw [e2, ← hR2]
    have HR2 := Lib.hid hR2
    clear h hn hg hg4 e2 hR2
    go_enter Tryd.func23, Tryd.ntmps23
    go_wp2_with fail
    refine calls_gen (fun W => Below w.heap.size w W ∧ W.cell? ⟨w.heap.size, 0, none⟩ = some (.int .i64 (S : Int)) ∧ W.cell? ⟨w.heap.size, 1, none⟩ = some (.slice a n c)) ⟨hb0 _, by go_simp, by go_simp⟩ ?_
    rintro W ⟨hB, k0, k1⟩
    refine (HI.out W hB).mono ?_
    rintro e w1 ⟨rfl, b1⟩
    replace hB := hB.next b1
    replace k0 := b1.keep k0
    replace k1 := b1.keep k1
    clear b1 HI
    go_wp2_with fail
    refine (HR.out w1 hB).mono ?_
    rintro e w2 ⟨rfl, b2⟩
    replace hB := hB.next b2
    clear b2 HR k0 k1
    cases r with
    | true =>
      have hlt : ¬ d < 0 := by omega
      have HRE := Lib.hid (show R2 = (d, 0) by rw [HR2.out]; rfl)
      simp only [if_true]
      go_wp2
      go_ret2
      exact ⟨by rw [HRE.out]; rfl, hB⟩
    | false =>
      have HRE := Lib.hid (show R2 = (0, 4) by rw [HR2.out]; rfl)
      simp only [Bool.false_eq_true, if_false]
      go_wp2
      go_ret2
      exact ⟨by rw [HRE.out]; rfl, hB⟩
end Go.Proofs.YtnblhkhdilkbeaaDoor

/- RegularDegree of the program: a panic through the door. -/
set_option maxRecDepth 100000
namespace Go.Proofs.YtnblhkhdilkbeaaDoor
open Go.RowKit

theorem ta_err (x : Value) (w : World) : Sem.run Tryd.prog (Instr.typeAssert (.iface 165 x) 20 56 true) w = .ok (.tuple #[.iface 165 x, .bool true]) w := by kernel_rfl
theorem ta_nil (w : World) : Sem.run Tryd.prog (Instr.typeAssert .nilIface 20 56 true) w = .ok (.tuple #[.nilIface, .bool false]) w := by kernel_rfl

theorem catchP (p : Addr) (x : Value) (pv : Value) (older : List PanicEntry) (w : World) (hc : w.cell? p = some x) (hz : w.frozen? p = false) :
    CallsD Tryd.prog 54 #[.pointer (some p)] (.panicking ({ v := .iface 165 pv, recovered := false } :: older)) w fun e u' w' =>
      e = .returned (.tuple #[]) ∧ u' = .panicking ({ v := .iface 165 pv, recovered := true } :: older) ∧ w' = w.setCell p (.iface 165 pv) := by
  have hta := ta_err pv
  refine callsD_of_wpS Tryd.func54 rfl fun c₀ cs hu => ?_
  apply wpS_seq
  apply wpS_region
  simp [wpOpsS, go_sem, recoverD, hu, Tryd.ntmps54, Exit.thenS, hta]
  apply wpS_seq
  apply wpS_region
  simp [wpOpsS, go_sem, Exit.thenS]
  refine wpS_cond (t := true) (by simp [Act.eval, Array.replicate]) ?_
  simp only [if_true]
  apply wpS_region
  simp [wpOpsS, go_sem, hc, hz, bodyPostS, results, Tryd.results54]
theorem catchI (p : Addr) (w : World) :
    CallsD Tryd.prog 54 #[.pointer (some p)] .returning w fun e u' w' => e = .returned (.tuple #[]) ∧ u' = .returning ∧ w' = w := by
  have hta := ta_nil
  refine callsD_of_wpS Tryd.func54 rfl fun c₀ cs hu => ?_
  apply wpS_seq
  apply wpS_region
  simp [wpOpsS, go_sem, recoverD, hu, Tryd.ntmps54, Exit.thenS, hta]
  apply wpS_seq
  apply wpS_region
  simp [wpOpsS, go_sem, Exit.thenS]
  refine wpS_cond (t := false) (by simp [Act.eval, Array.replicate]) ?_
  simp only [Bool.false_eq_true, if_false]
  refine wpS_of_wp (wp_skip ?_)
  cases c₀
  simp_all [bodyPostS, results, Tryd.results54]

theorem rdI_at {lo hi : Nat} {w : World} {a : Option Addr} {n c : Nat} {xs : List Int} (h : RdI lo hi w (.slice a n c) xs) (hn : xs.length = n) : ∀ j, j < n → ∃ b off, a = some ⟨b, off, none⟩ ∧ w.cell? ⟨b, off + j, none⟩ = some (.int .i64 (xs.getD j 0)) := by
  intro j hj
  obtain ⟨_, _, ⟨a', c', rfl, _⟩ | ⟨b, off, c', hv, _, _, _, hc⟩⟩ := h
  · simp at hn; omega
  · simp only [Value.slice.injEq] at hv
    exact ⟨b, off, hv.1, hc j (by omega)⟩
theorem chg_setNew {lo hi : Nat} {a w : World} (h : Chg lo hi a w) {p : Addr} (hp : a.heap.size ≤ p.block) (u : Value) : Chg lo hi a (w.setCell p u) :=
  ⟨h.os, h.tape, h.output, by have := h.size; simpa [World.setCell] using this, fun k hk h' => (Below.heap_setCell _ _ _ _ (by omega)).trans (h.block k hk h')⟩
/-- the sentinel, as a package's variable holds it -/
def snt (a0 : Addr) : Value := .iface 165 (.pointer (some a0))
set_option maxHeartbeats 1600000 in
theorem regularDeg {lo hi : Nat} (S : Nat) (a : Option Addr) (n c : Nat) (xss : List (List Int)) (a0 : Addr) (w : World) (h : RdR lo hi w (.slice a n c) xss) (hn : xss.length = n) (hg : grB (S : Int) xss = true) (hE : w.cell? ⟨1, 0, none⟩ = some (.iface 165 (.pointer (some a0)))) :
    Calls Tryd.prog 41 #[.agg #[.int .i64 (S : Int), .slice a n c]] w fun e w' => (rgK xss S = true ∧ e = .returned (.int .i64 (deg xss 0)) ∨ rgK xss S = false ∧ e = .panicked [{ v := .iface 165 (.pointer (some a0)), recovered := false }]) ∧ Below w.heap.size w w' := by
  have hb0 : ∀ o, Below w.heap.size w (w.alloc o) := fun o => (Below.refl _ _).alloc (Nat.le_refl _) o
  have hg4 := grB_iff hg
  have hS1 : 1 ≤ S := by omega
  have hS8 : S ≤ 8 := by omega
  have hDe := @implDegrees lo hi (S : Int) a n c xss
  have ede : degreesOf (S : Int) xss = (degs (S : Int) xss, 0) := by unfold degreesOf; rw [if_pos hg]
  rw [ede] at hDe
  have HD := Lib.hid (fun W (hB : Below w.heap.size w W) => hDe W (h.below hB) hn)
  have hdl : (degs (S : Int) xss).length = S := by simp [degs]
  have hdg : ∀ k, k < S → (degs (S : Int) xss).getD k 0 = deg xss (k : Int) := fun k hk => by simp [degs, List.getD, hk]
  have HST := Lib.hid (rgK_step xss)
  have HNO := Lib.hid (fun k (hk : k < S) (hne : deg xss (k : Int) ≠ deg xss 0) => rgK_no (S := S) hk hne)
  have HY := Lib.hid (show rgK xss 0 = true by simp [rgK])
  generalize hR : rgK xss = R at HST HNO HY ⊢
  clear hR
  generalize degs (S : Int) xss = ds at HD hdl hdg
  generalize deg xss = dg at hdg HST HNO ⊢
  have HDG := Lib.hid hdg
  have HDL := Lib.hid hdl
  have HE := Lib.hid (fun W (hB : Below w.heap.size w W) => (hB.keep hE : W.cell? ⟨1, 0, none⟩ = some (.iface 165 (.pointer (some a0)))))
  clear h hn hg hg4 hDe ede hdg hE
  go_enter Tryd.func41, Tryd.ntmps41
  go_wp2_with fail
  refine calls_gen (fun W => Below w.heap.size w W ∧ w.heap.size < W.heap.size ∧ W.cell? ⟨w.heap.size, 0, none⟩ = some (.int .i64 (S : Int)) ∧ W.cell? ⟨w.heap.size, 1, none⟩ = some (.slice a n c)) ⟨hb0 _, by simp, by go_simp, by go_simp⟩ ?_
  rintro W ⟨hB, hz, k0, k1⟩
  refine (HD.out W hB).mono ?_
  rintro e w1 ⟨a3, c3, rfl, o3, b3⟩
  have HB1 := Lib.hid (hB.next b3)
  have hdl2 := HDL.out
  rw [hdl2] at o3 ⊢
  obtain ⟨b, off, rfl, q0⟩ := rdI_at o3.rd HDL.out 0 (by omega)
  have HO := Lib.hid (o3.rd)
  rw [HDG.out 0 (by omega), show ((0 : Nat) : Int) = 0 from rfl] at q0
  clear o3 b3 hB k0 k1 hdl2 hdl HD
  have hS0 : (0 : Int) < (S : Int) := by omega
  go_wp2
  go_loopw [14] (fun i wr => ∃ k : Nat, k ≤ S ∧ i = .int .i64 k ∧ Hid (R k = true) ∧ wr = w1) (fun i _ => S - (intOf i).toNat)
  case atStart => exact ⟨0, Nat.zero_le _, rfl, HY, rfl⟩
  case round =>
    rename_i hrel
    obtain ⟨k, hk, rfl, HR, rfl⟩ := hrel
    by_cases hlt : k < S
    · have hkI : (k : Int) < (S : Int) := by omega
      have hk0 : (0 : Int) ≤ (k : Int) := by omega
      obtain ⟨b', off', hbe, q1⟩ := rdI_at HO.out HDL.out k hlt
      simp only [Option.some.injEq, Addr.mk.injEq, and_true] at hbe
      obtain ⟨rfl, rfl⟩ := hbe
      rw [HDG.out k hlt] at q1
      rw [Nat.add_zero] at q0
      by_cases he : dg (k : Int) = dg 0
      · have hb : (dg (k : Int) != dg 0) = false := by simpa using he
        have HR2 := Lib.hid (show R (k + 1) = true by rw [HST.out, HR.out, he]; simp)
        go_wp2
        go_roundw
        case rel => exact ⟨k+1, by omega, by go_num, HR2, by first | rfl | trivial⟩
        case measure => simp [intOf]; omega
      · have hb : (dg (k : Int) != dg 0) = true := by simpa using he
        have HRF := Lib.hid (HNO.out k hlt he)
        have g1 := HE.out wr HB1.out
        clear he
        go_wp2
        exact ⟨rfl, .inr ⟨HRF.out, rfl⟩, HB1.out⟩
    · obtain rfl : k = S := by omega
      have hkI : ¬ (k : Int) < (k : Int) := by omega
      rw [Nat.add_zero] at q0
      go_wp2
      go_ret
      exact ⟨.inl ⟨HR.out, rfl⟩, HB1.out⟩

set_option maxHeartbeats 1600000 in
theorem regClo {lo hi : Nat} (S : Nat) (a : Option Addr) (n c : Nat) (xss : List (List Int)) (a0 : Addr) (G D : Nat) (y : Value) (w : World) (h : RdR lo hi w (.slice a n c) xss) (hn : xss.length = n) (hg : grB (S : Int) xss = true) (hE : w.cell? ⟨1, 0, none⟩ = some (.iface 165 (.pointer (some a0))))
    (g0 : w.cell? ⟨G, 0, none⟩ = some (.int .i64 (S : Int))) (g1 : w.cell? ⟨G, 1, none⟩ = some (.slice a n c)) (d0 : w.cell? ⟨D, 0, none⟩ = some y) (d1 : w.frozen? ⟨D, 0, none⟩ = false) :
    Calls Tryd.prog 40 #[.pointer (some ⟨G, 0, none⟩), .pointer (some ⟨D, 0, none⟩)] w fun e w' => (rgK xss S = true ∧ e = .returned (.tuple #[]) ∧ Chg D (D + 1) w w' ∧ w'.cell? ⟨D, 0, none⟩ = some (.int .i64 (deg xss 0))) ∨ (rgK xss S = false ∧ e = .panicked [{ v := .iface 165 (.pointer (some a0)), recovered := false }] ∧ Below w.heap.size w w') := by
  have HR := Lib.hid (regularDeg S a n c xss a0 w h hn hg hE)
  have hDl := World.block_lt_of_cell? w _ d0
  have HD := Lib.hid (⟨d0, d1, hDl⟩ : _ ∧ _ ∧ D < w.heap.size)
  generalize rgK xss S = r at HR ⊢
  generalize deg xss 0 = dg at HR ⊢
  clear h hn hg hE d0 d1 hDl
  go_enter Tryd.func40, Tryd.ntmps40
  go_wp2_with fail
  refine HR.out.mono ?_
  rintro e w1 ⟨⟨hr, rfl⟩ | ⟨hr, rfl⟩, b1⟩
  · obtain ⟨d0, d1, hDl⟩ := HD.out
    have e0 := b1.keep d0
    have e1 := b1.keepf hDl d1
    have hch : Chg D (D + 1) w (w1.setCell ⟨D, 0, none⟩ (.int .i64 dg)) := (b1.chg D (D + 1)).setCell (p := ⟨D, 0, none⟩) ⟨Nat.le_refl _, Nat.lt_succ_self _⟩ _
    have hce := World.cell?_setCell_same w1 ⟨D, 0, none⟩ (.int .i64 dg) e0
    clear b1 d0 d1
    go_wp2
    refine bodyPost_end (results_none rfl _ _ _) rfl ?_
    exact .inl ⟨hr, rfl, hch, hce⟩
  · go_wp2
    exact ⟨rfl, .inr ⟨hr, rfl, b1⟩⟩

set_option maxHeartbeats 1600000 in
theorem doorYes {lo hi : Nat} (S : Nat) (a : Option Addr) (n c : Nat) (xss : List (List Int)) (a0 : Addr) (G D : Nat) (y : Value) (w : World) (h : RdR lo hi w (.slice a n c) xss) (hn : xss.length = n) (hg : grB (S : Int) xss = true) (hE : w.cell? ⟨1, 0, none⟩ = some (.iface 165 (.pointer (some a0))))
    (g0 : w.cell? ⟨G, 0, none⟩ = some (.int .i64 (S : Int))) (g1 : w.cell? ⟨G, 1, none⟩ = some (.slice a n c)) (d0 : w.cell? ⟨D, 0, none⟩ = some y) (d1 : w.frozen? ⟨D, 0, none⟩ = false) :
    Calls Tryd.prog 34 #[.func (.func 40) #[] #[.pointer (some ⟨G, 0, none⟩), .pointer (some ⟨D, 0, none⟩)]] w fun e w' => (rgK xss S = true ∧ e = .returned .nilIface ∧ Chg D (D + 1) w w' ∧ w'.cell? ⟨D, 0, none⟩ = some (.int .i64 (deg xss 0))) ∨ (rgK xss S = false ∧ e = .returned (.iface 165 (.pointer (some a0))) ∧ Below w.heap.size w w') := by
  have hmf : ∀ (fn : Fn) (first cap : Array Value) (w : World), (Instr.makeFunc fn first cap).run Tryd.prog w = .ok (.func fn first cap) w := fun _ _ _ _ => rfl
  have hDl := World.block_lt_of_cell? w _ d0
  have hb0 : ∀ o, Below w.heap.size w (w.alloc o) := fun o => (Below.refl _ _).alloc (Nat.le_refl _) o
  have HR := Lib.hid (fun W (hB : Below w.heap.size w W) => regClo S a n c xss a0 G D y W (h.below hB) hn hg (hB.keep hE) (hB.keep g0) (hB.keep g1) (hB.keep d0) (hB.keepf hDl d1))
  generalize rgK xss S = r at HR ⊢
  generalize deg xss 0 = dg at HR ⊢
  clear h hn hg hE g0 g1 d0 d1
  go_enter_defers Tryd.func34, Tryd.ntmps34
  have c0 : (w.alloc (.cells #[.nilIface] 56)).cell? ⟨w.heap.size, 0, none⟩ = some .nilIface := by go_simp
  have c1 : (w.alloc (.cells #[.nilIface] 56)).frozen? ⟨w.heap.size, 0, none⟩ = false := by go_simp
  have hsz : (w.alloc (.cells #[.nilIface] 56)).heap.size = w.heap.size + 1 := by simp
  go_wp2_with fail
  refine (HR.out _ (hb0 _)).mono ?_
  rintro e w1 (⟨hr, rfl, hch, hcd⟩ | ⟨hr, rfl, b1⟩)
  · have e0 := hch.cell c0 (show w.heap.size < D ∨ D + 1 ≤ w.heap.size by omega)
    have e1 := hch.frozen (p := ⟨w.heap.size, 0, none⟩) (by show w.heap.size < _; omega) (show w.heap.size < D ∨ D + 1 ≤ w.heap.size by omega) c1
    have HF := Lib.hid (show Chg D (D + 1) w (w1.setCell ⟨w.heap.size, 0, none⟩ .nilIface) ∧ (w1.setCell ⟨w.heap.size, 0, none⟩ .nilIface).cell? ⟨D, 0, none⟩ = some (.int .i64 dg) from
      ⟨chg_setNew (((hb0 _).chg D (D + 1)).trans hch) (Nat.le_refl _) _, by rw [World.cell?_setCell_other _ _ _ _ (by first | (simp; omega) | simp)]; exact hcd⟩)
    have e2 : (w1.setCell ⟨w.heap.size, 0, none⟩ .nilIface).cell? ⟨w.heap.size, 0, none⟩ = some .nilIface := World.cell?_setCell_same _ _ _ e0
    have HCD := Lib.hid hcd
    clear hch hcd c0 c1 hb0
    go_wp2
    refine leaves_cons (f := 54) (args := #[.pointer (some ⟨w.heap.size, 0, none⟩)]) (by simp) (by simp [go_sem]) ?_
    refine (catchI ⟨w.heap.size, 0, none⟩ _).mono ?_
    rintro e u' w'' ⟨rfl, rfl, rfl⟩
    simp [Leaves, settle, results, Tryd.results34, go_sem, e2]
    first
      | exact ⟨hr, HF.out.1, HCD.out⟩
      | exact .inl ⟨hr, HF.out⟩
      | exact .inl ⟨hr, HF.out.1, HCD.out⟩
  · have e0 := b1.keep c0
    have e1 := b1.keepf (p := ⟨w.heap.size, 0, none⟩) (by show w.heap.size < _; omega) c1
    have e2 : (w1.setCell ⟨w.heap.size, 0, none⟩ (.iface 165 (.pointer (some a0)))).cell? ⟨w.heap.size, 0, none⟩ = some (.iface 165 (.pointer (some a0))) := World.cell?_setCell_same _ _ _ e0
    have HF := Lib.hid (show Below w.heap.size w (w1.setCell ⟨w.heap.size, 0, none⟩ (.iface 165 (.pointer (some a0)))) from ((hb0 _).next b1).setCell (p := ⟨w.heap.size, 0, none⟩) (Nat.le_refl _) _)
    clear b1 c0 c1 hb0
    go_wp2
    refine leaves_cons (f := 54) (args := #[.pointer (some ⟨w.heap.size, 0, none⟩)]) (by simp) (by simp [go_sem]) ?_
    refine (catchP ⟨w.heap.size, 0, none⟩ _ _ [] _ e0 e1).mono ?_
    rintro e u' w'' ⟨rfl, rfl, rfl⟩
    simp [Leaves, settle, results, Tryd.results34, go_sem, e2]
    first
      | exact ⟨hr, HF.out⟩
      | exact .inr ⟨hr, HF.out⟩

set_option maxHeartbeats 1600000 in
theorem implRd {lo hi : Nat} (s : Int) (a : Option Addr) (n c : Nat) (xss : List (List Int)) (w : World) (h : RdR lo hi w (.slice a n c) xss) (hn : xss.length = n) (a0 : Addr) (hE : w.cell? ⟨1, 0, none⟩ = some (.iface 165 (.pointer (some a0)))) :
    Calls Tryd.prog 24 #[.agg #[.int .i64 s, .slice a n c]] w fun e w' => e = .returned (.tuple #[.int .i64 (rdOf s xss).1, .int .i64 (rdOf s xss).2]) ∧ Below w.heap.size w w' := by
  have hb0 : ∀ o, Below w.heap.size w (w.alloc o) := fun o => (Below.refl _ _).alloc (Nat.le_refl _) o
  have HI := Lib.hid (fun W (hB : Below w.heap.size w W) => implIsGraph s a n c xss W (h.below hB) hn)
  cases hg : grB s xss with
  | false =>
    have e2 : rdOf s xss = (0, 1) := by unfold rdOf; rw [hg]; rfl
    rw [e2]
    rw [hg] at HI
    clear h hn hg e2 hE
    go_enter Tryd.func24, Tryd.ntmps24
    go_wp2_with fail
    refine calls_gen (fun W => Below w.heap.size w W) (hb0 _) ?_
    intro W hB
    refine (HI.out W hB).mono ?_
    rintro e w1 ⟨rfl, b1⟩
    replace hB := hB.next b1
    clear b1 HI
    go_wp2
    go_ret2
    exact ⟨rfl, hB⟩
  | true =>
    have hg4 := grB_iff hg
    obtain ⟨S, rfl⟩ : ∃ S : Nat, s = (S : Int) := ⟨s.toNat, by omega⟩
    have e2 : rdOf (S : Int) xss = if rgK xss S then (deg xss 0, 0) else (0, 4) := by unfold rdOf; rw [if_pos hg, Int.toNat_natCast]
    rw [hg] at HI
    have HD := Lib.hid (fun (G D : Nat) (y : Value) W (hB : Below w.heap.size w W) g0 g1 d0 d1 => doorYes S a n c xss a0 G D y W (h.below hB) hn hg (hB.keep hE) g0 g1 d0 d1)
    obtain ⟨R2, hR2⟩ : ∃ R2 : Int × Int, R2 = (if rgK xss S then (deg xss 0, 0) else (0, 4)) := ⟨_, rfl⟩
    rw [e2, ← hR2]
    have HR2 := Lib.hid hR2
    generalize deg xss 0 = dg at HD HR2
    generalize rgK xss S = r at HD HR2
    clear h hn hg hg4 e2 hR2 hE
    have hmf : ∀ (fn : Fn) (first cap : Array Value) (w : World), (Instr.makeFunc fn first cap).run Tryd.prog w = .ok (.func fn first cap) w := fun _ _ _ _ => rfl
    go_enter Tryd.func24, Tryd.ntmps24
    go_wp2_with fail
    refine calls_gen (fun W => Below w.heap.size w W ∧ w.heap.size < W.heap.size ∧ W.cell? ⟨w.heap.size, 0, none⟩ = some (.int .i64 (S : Int)) ∧ W.cell? ⟨w.heap.size, 1, none⟩ = some (.slice a n c)) ⟨hb0 _, by simp, by go_simp, by go_simp⟩ ?_
    rintro W ⟨hB, hz, k0, k1⟩
    refine (HI.out W hB).mono ?_
    rintro e w1 ⟨rfl, b1⟩
    replace hB := hB.next b1
    replace hz := Nat.lt_of_lt_of_le hz b1.size
    replace k0 := b1.keep k0
    replace k1 := b1.keep k1
    have hA : ∀ o, Below w1.heap.size w1 (w1.alloc o) := fun o => (Below.refl _ _).alloc (Nat.le_refl _) o
    clear b1 HI
    go_wp2_with fail
    refine calls_gen (fun W2 => (Below w.heap.size w W2 ∧ w1.heap.size < W2.heap.size) ∧ (W2.cell? ⟨w.heap.size, 0, none⟩ = some (.int .i64 (S : Int)) ∧ W2.cell? ⟨w.heap.size, 1, none⟩ = some (.slice a n c)) ∧ W2.cell? ⟨w1.heap.size, 0, none⟩ = some (.int .i64 0) ∧ W2.frozen? ⟨w1.heap.size, 0, none⟩ = false) ⟨⟨hB.next (hA _), by simp⟩, ⟨(hA _).keep k0, (hA _).keep k1⟩, by go_simp, by go_simp⟩ ?_
    rintro W2 ⟨⟨hB2, hz2⟩, ⟨g0, g1⟩, d0, d1⟩
    refine (HD.out _ _ _ W2 hB2 g0 g1 d0 d1).mono ?_
    rintro e w3 (⟨hr, rfl, hch, hcd⟩ | ⟨hr, rfl, b3⟩)
    · have HF := Lib.hid (hB2.chgn hch (Nat.le_of_lt hz) hB2.size)
      have HRE := Lib.hid (show R2 = (dg, 0) by rw [HR2.out, hr]; rfl)
      clear hch hB2 g0 g1 d0 d1 k0 k1 hA HD
      go_wp2
      go_ret2
      exact ⟨by rw [HRE.out]; rfl, HF.out⟩
    · have HF := Lib.hid (hB2.next b3)
      have HRE := Lib.hid (show R2 = (0, 4) by rw [HR2.out, hr]; rfl)
      clear b3 hB2 g0 g1 d0 d1 k0 k1 hA HD
      go_wp2
      go_ret2
      exact ⟨by rw [HRE.out]; rfl, HF.out⟩
end Go.Proofs.YtnblhkhdilkbeaaDoor

/- The first isomorphism that begins with a list: plain mathematics. -/
set_option maxRecDepth 100000
namespace Go.Proofs.YtnblhkhdilkbeaaDoor
open Go Go.RowKit

theorem cnG_first {fit : Nat → Bool} {rec : Nat → Int × List Int} {S : Nat} {G : Nat → List (List Int)} (hG : ∀ x, x < S → if fit x = true then (0 ≤ (rec x).1 ∧ (0 < (rec x).1 ↔ G x ≠ []) ∧ (G x ≠ [] → (rec x).2 = (G x).headD [])) else G x = []) :
    ∀ (r : Nat) (f : List Int), r ≤ S → 0 ≤ (cnG fit rec false S r 0 f).1 ∧ (0 < (cnG fit rec false S r 0 f).1 ↔ (List.range' (S - r) r).flatMap G ≠ []) ∧ (cnG fit rec false S r 0 f).2 = ((List.range' (S - r) r).flatMap G).headD f
  | 0, f, _ => by unfold cnG; simp
  | r + 1, f, hr => by
    have e1 : List.range' (S - (r + 1)) (r + 1) = (S - (r + 1)) :: List.range' (S - r) r := by
      rw [List.range'_succ, show S - (r + 1) + 1 = S - r by omega]
    have h0 := hG (S - (r + 1)) (by omega)
    rw [e1, List.flatMap_cons]
    unfold cnG
    by_cases hf : fit (S - (r + 1)) = true
    · rw [if_pos hf] at h0 ⊢
      obtain ⟨g1, g2, g3⟩ := h0
      by_cases hp : 0 < (rec (S - (r + 1))).1
      · have hne := g2.1 hp
        have h3 := g3 hne
        rw [if_pos (⟨by omega, rfl⟩ : 0 < 0 + (rec (S - (r + 1))).1 ∧ false = false), if_pos (⟨rfl, hp⟩ : (0 : Int) = 0 ∧ 0 < (rec (S - (r + 1))).1)]
        refine ⟨by dsimp only; omega, ⟨fun _ => by simp [hne], fun _ => by dsimp only; omega⟩, ?_⟩
        dsimp only
        rw [h3]
        cases hg : G (S - (r + 1)) with
        | nil => exact absurd hg hne
        | cons a b => rfl
      · have hz : (rec (S - (r + 1))).1 = 0 := by omega
        have hnil : G (S - (r + 1)) = [] := Classical.byContradiction fun e => hp (g2.2 e)
        rw [if_neg (fun e => by have := e.1; omega), if_neg (fun e => hp e.2), hz, Int.add_zero, hnil, List.nil_append]
        exact cnG_first hG r f (by omega)
    · rw [if_neg hf] at h0 ⊢
      rw [h0, List.nil_append]
      exact cnG_first hG r f (by omega)
/-- the model's count and first list, where it stops at the first one -/
theorem cntL_first (S : Nat) (f h : Nat → Nat → Int) : ∀ (m : Nat) (l : List Int), 0 ≤ (cntL S f h false m l).1 ∧ (0 < (cntL S f h false m l).1 ↔ isoL S f h m l ≠ []) ∧ (isoL S f h m l ≠ [] → (cntL S f h false m l).2 = (isoL S f h m l).headD [])
  | 0, l => by simp [cntL, isoL]
  | m + 1, l => by
    have hi : isoL S f h (m + 1) l = (List.range S).flatMap (fun x => if fitB f h l x = true then isoL S f h m (l ++ [(x : Int)]) else []) := rfl
    have h1 := cnG_first (fit := fitB f h l) (rec := fun x => cntL S f h false m (l ++ [(x : Int)])) (S := S) (G := fun x => if fitB f h l x = true then isoL S f h m (l ++ [(x : Int)]) else []) (fun x _ => by
      by_cases hf : fitB f h l x = true
      · simp only [if_pos hf]; exact cntL_first S f h m _
      · simp only [if_neg hf]) S [] (Nat.le_refl _)
    rw [Nat.sub_self, ← List.range_eq_range', ← hi] at h1
    unfold cntL
    exact ⟨h1.1, h1.2.1, fun _ => h1.2.2⟩

end Go.Proofs.YtnblhkhdilkbeaaDoor

/- FindIsomorphism and AreIsomorphic: the plain functions. -/
namespace Go.Proofs.YtnblhkhdilkbeaaDoor
open Go Go.RowKit

/-- all isomorphisms from one graph to the other -/
def fiL (s : Int) (xss : List (List Int)) (t : Int) (yss : List (List Int)) : List (List Int) := if s = t then isoL s.toNat (adF xss) (adF yss) s.toNat [] else []
def fiOf (s : Int) (xss : List (List Int)) (t : Int) (yss : List (List Int)) : List Int × Int :=
  if grB s xss = true ∧ grB t yss = true then (if (fiL s xss t yss).isEmpty then ([], 4) else ((fiL s xss t yss).headD [], 0)) else ([], 1)
def aiOf (s : Int) (xss : List (List Int)) (t : Int) (yss : List (List Int)) : Bool × Int := if (fiOf s xss t yss).2 = 1 then (false, 1) else (decide ((fiOf s xss t yss).2 = 0), 0)
theorem fiOf_no1 {s t : Int} {xss yss : List (List Int)} (h : grB s xss = false) : fiOf s xss t yss = ([], 1) := by unfold fiOf; rw [if_neg (by rw [h]; simp)]
theorem fiOf_no2 {s t : Int} {xss yss : List (List Int)} (h : grB t yss = false) : fiOf s xss t yss = ([], 1) := by unfold fiOf; rw [if_neg (by rw [h]; simp)]
theorem fiOf_yes {s t : Int} {xss yss : List (List Int)} (h : grB s xss = true) (h1 : grB t yss = true) : fiOf s xss t yss = if (fiL s xss t yss).isEmpty then ([], 4) else ((fiL s xss t yss).headD [], 0) := by unfold fiOf; rw [if_pos ⟨h, h1⟩]

end Go.Proofs.YtnblhkhdilkbeaaDoor

/- FindIsomorphism and AreIsomorphic, by the model. -/
set_option maxRecDepth 100000
namespace Go.Proofs.YtnblhkhdilkbeaaDoor
open Go.RowKit

theorem emptyO (X : World) (lo : Nat) (h : lo ≤ X.heap.size) : OwI lo (X.alloc (.cells #[] 2)).heap.size (X.alloc (.cells #[] 2)) (.slice (some ⟨X.heap.size, 0, none⟩) 0 0) ([] : List Int) :=
  (OwI.mk (World.ownsRow_lit (base := X.heap.size) (e := 2) (size := 1) X #[] 0 (Nat.le_refl _) (by unfold maxLen; omega) rfl) (by omega) (fun x hx => by simp at hx)).mono h (Nat.le_refl _)

set_option maxHeartbeats 3200000 in
theorem findEq {lo hi lo1 hi1 : Nat} (S : Nat) (a : Option Addr) (n c : Nat) (xss : List (List Int)) (a1 : Option Addr) (n1 c1 : Nat) (yss : List (List Int)) (w : World) (h : RdR lo hi w (.slice a n c) xss) (hn : xss.length = n) (h1 : RdR lo1 hi1 w (.slice a1 n1 c1) yss) (hn1 : yss.length = n1) (hg : grB (S : Int) xss = true) (hg1 : grB (S : Int) yss = true) :
    Calls Tryd.prog 31 #[.agg #[.int .i64 (S : Int), .slice a n c], .agg #[.int .i64 (S : Int), .slice a1 n1 c1]] w fun e w' => ∃ a' c' x, e = .returned (.tuple #[.slice a' x.length c', .bool (!(fiL (S : Int) xss S yss).isEmpty)]) ∧ OwI w.heap.size w'.heap.size w' (.slice a' x.length c') x ∧ Below w.heap.size w w' ∧ ((fiL (S : Int) xss S yss).isEmpty = false → x = (fiL (S : Int) xss S yss).headD []) := by
  have hb0 : ∀ o o', Below w.heap.size w ((w.alloc o).alloc o') := fun o o' => ((Below.refl _ _).alloc (Nat.le_refl _) o).alloc (by simp) o'
  have hg4 := grB_iff hg
  have hS8 : S ≤ 8 := by omega
  have HR := Lib.hid (fun W (hB : Below w.heap.size w W) => l01Adjacency S a n c xss W (h.below hB) hn hg)
  have HT : Hid (tab S (adZ (dirE (pairs xss)) (2 * n)) = tab S (adF xss)) := Lib.hid (by rw [← hn]; exact adZ_tab hg S)
  rw [HT.out] at HR
  have HG := Lib.hid (fun W (hB : Below w.heap.size w W) => l01Adjacency S a1 n1 c1 yss W (h1.below hB) hn1 hg1)
  have HT1 : Hid (tab S (adZ (dirE (pairs yss)) (2 * n1)) = tab S (adF yss)) := Lib.hid (by rw [← hn1]; exact adZ_tab hg1 S)
  rw [HT1.out] at HG
  have eL : fiL (S : Int) xss S yss = isoL S (adF xss) (adF yss) S [] := by unfold fiL; rw [if_pos rfl, Int.toNat_natCast]
  rw [eL]
  have hfi := cntL_first S (adF xss) (adF yss) S []
  have HC := Lib.hid (fun (lo1 hi1 lo2 hi2 : Nat) (a1 : Option Addr) (c1 : Nat) (a2 : Option Addr) (c2 : Nat) (al : Option Addr) (cl lo : Nat) (W : World) => l08Count (lo1 := lo1) (hi1 := hi1) (lo2 := lo2) (hi2 := hi2) S hS8 (adF xss) (adF yss) a1 c1 a2 c2 false S [] al 0 cl lo W rfl (by omega) (fun i hi => by omega))
  generalize adF xss = f at HR HC hfi ⊢
  generalize adF yss = k at HG HC hfi ⊢
  generalize cntL S f k false S [] = R at HC hfi
  generalize isoL S f k S [] = L at hfi ⊢
  have HFI : Hid ((0 < R.1 → L.isEmpty = false ∧ R.2 = L.headD []) ∧ (¬ 0 < R.1 → L.isEmpty = true)) := Lib.hid (by
    obtain ⟨_, q2, q3⟩ := hfi
    refine ⟨fun hp => ?_, fun hp => ?_⟩
    · have := q2.1 hp
      exact ⟨by cases L with
        | nil => exact absurd rfl this
        | cons x l => rfl, q3 this⟩
    · cases L with
      | nil => rfl
      | cons x l => exact absurd (q2.2 (by simp)) hp)
  have hwA : ∀ X : World, Below X.heap.size X (X.alloc (.cells #[] 2)) := fun X => (Below.refl _ _).alloc (Nat.le_refl _) _
  clear h hn h1 hn1 hg hg1 hg4 HT HT1 eL hfi
  have hbn : ((S : Int) != (S : Int)) = false := by simp
  go_enter Tryd.func31, Tryd.ntmps31
  obtain ⟨V, hV⟩ : ∃ V, V = (w.alloc (.cells #[.int .i64 (S : Int), .slice a n c] 24)).alloc (.cells #[.int .i64 (S : Int), .slice a1 n1 c1] 24) := ⟨_, rfl⟩
  have hBV : Below w.heap.size w V.drew := by rw [hV]; exact (hb0 _ _).drew
  have sv : V.drew.cell? ⟨w.heap.size, 0, none⟩ = some (.int .i64 (S : Int)) ∧ V.drew.cell? ⟨w.heap.size, 1, none⟩ = some (.slice a n c) ∧ V.drew.cell? ⟨w.heap.size + 1, 0, none⟩ = some (.int .i64 (S : Int)) ∧ V.drew.cell? ⟨w.heap.size + 1, 1, none⟩ = some (.slice a1 n1 c1) := by rw [hV]; exact ⟨by go_simp, by go_simp, by go_simp, by go_simp⟩
  have HK := Lib.hid (fun (X Y : World) (hb : Below X.heap.size X Y) (hs : X.cell? ⟨w.heap.size, 0, none⟩ = some (.int .i64 (S : Int)) ∧ X.cell? ⟨w.heap.size, 1, none⟩ = some (.slice a n c) ∧ X.cell? ⟨w.heap.size + 1, 0, none⟩ = some (.int .i64 (S : Int)) ∧ X.cell? ⟨w.heap.size + 1, 1, none⟩ = some (.slice a1 n1 c1)) => (⟨hb.keep hs.1, hb.keep hs.2.1, hb.keep hs.2.2.1, hb.keep hs.2.2.2⟩ : Y.cell? ⟨w.heap.size, 0, none⟩ = some (.int .i64 (S : Int)) ∧ Y.cell? ⟨w.heap.size, 1, none⟩ = some (.slice a n c) ∧ Y.cell? ⟨w.heap.size + 1, 0, none⟩ = some (.int .i64 (S : Int)) ∧ Y.cell? ⟨w.heap.size + 1, 1, none⟩ = some (.slice a1 n1 c1)))
  go_wp2
  rw [← hV]
  clear hV hb0
  have HA := Lib.hid hwA
  obtain ⟨V1, hV1⟩ : ∃ X, X = V.drew := ⟨_, rfl⟩
  have sv2 := sv
  rw [← hV1] at sv2 hBV
  have hB1a := hBV.next (hwA V1)
  have sv2a := HK.out _ _ (hwA V1) sv2
  have HRa := Lib.hid (HR.out V1 hBV)
  have HRb := Lib.hid (HR.out _ hB1a)
  have HO1 := Lib.hid (emptyO V1 w.heap.size hBV.size)
  have HB1 := Lib.hid hBV
  have HB1a := Lib.hid hB1a
  have hBVr : Below w.heap.size w V := by rw [hV1] at hBV; exact ⟨hBV.os, hBV.tape, hBV.output, hBV.size, hBV.block⟩
  have hB1c := (hBVr.next (hwA V)).drew
  have sv2c := HK.out _ _ ((hwA V).drew) (show V.cell? ⟨w.heap.size, 0, none⟩ = some (.int .i64 (S : Int)) ∧ V.cell? ⟨w.heap.size, 1, none⟩ = some (.slice a n c) ∧ V.cell? ⟨w.heap.size + 1, 0, none⟩ = some (.int .i64 (S : Int)) ∧ V.cell? ⟨w.heap.size + 1, 1, none⟩ = some (.slice a1 n1 c1) from sv)
  have HRc := Lib.hid (HR.out _ hB1c)
  have HO1c := Lib.hid ((emptyO V w.heap.size hBVr.size).qt ((Qt.refl _).drew))
  have HB1c := Lib.hid hB1c
  clear hwA hBV hB1a hB1c hBVr HR
  subst hV1
  have T2 := HRa
  have T3 := HRb
  go_region_held3 (fun W' => W'.cell? ⟨w.heap.size, 0, none⟩ = some (.int .i64 (S : Int)) ∧ W'.cell? ⟨w.heap.size, 1, none⟩ = some (.slice a n c) ∧ W'.cell? ⟨w.heap.size + 1, 0, none⟩ = some (.int .i64 (S : Int)) ∧ W'.cell? ⟨w.heap.size + 1, 1, none⟩ = some (.slice a1 n1 c1))
    (first | (exact sv) | (exact sv2) | (exact sv2a) | (exact sv2c) | (exact S3) | (exact S3a) | (exact S4) | (exact S4a) | (exact S5) | go_keep)
    (first
      | (go_at_call 51; with_reducible refine HRa.out.mono ?_; rintro en w3 ⟨a3, c3, rfl, o3, b3⟩; have S3 := HK.out _ _ b3 sv2; have S3a := HK.out _ _ (HA.out w3) S3; have hB3 := HB1.out.next b3)
      | (go_at_call 51; with_reducible refine HRc.out.mono ?_; rintro en w3 ⟨a3, c3, rfl, o3, b3⟩; have S3 := HK.out _ _ b3 sv2c; have hB3 := HB1c.out.next b3; have ho3 := (HO1c.out.below b3).mono (Nat.le_refl _) b3.size)
      | (go_at_call 51; with_reducible refine HRb.out.mono ?_; rintro en w3 ⟨a3, c3, rfl, o3, b3⟩; have S3 := HK.out _ _ b3 sv2a; have hB3 := HB1a.out.next b3; have ho3 := (HO1.out.below b3).mono (Nat.le_refl _) b3.size)
      | (go_at_call 51; with_reducible refine (HG.out w3 hB3).mono ?_; rintro en w4 ⟨a4, c4, rfl, o4, b4⟩; have S4 := HK.out _ _ b4 S3; have S4a := HK.out _ _ (HA.out w4) S4; have hB4 := hB3.next b4; have r3 := o3.rd.below b4; have ho4 := (ho3.below b4).mono (Nat.le_refl _) b4.size)
      | (go_at_call 51; with_reducible refine (HG.out w3 hB3).mono ?_; rintro en w4 ⟨a4, c4, rfl, o4, b4⟩; have S4 := HK.out _ _ b4 S3; have S4a := HK.out _ _ (HA.out w4) S4; have hB4 := hB3.next b4; have r3 := o3.rd.below b4)
      | (go_at_call 51; with_reducible refine (HG.out _ (hB3.next (HA.out w3))).mono ?_; rintro en w4 ⟨a4, c4, rfl, o4, b4⟩; have S4 := HK.out _ _ b4 S3a; have hB4 := (hB3.next (HA.out w3)).next b4; have r3 := (o3.rd.below (HA.out w3)).below b4; have ho4 := ((emptyO w3 w.heap.size hB3.size).below b4).mono (Nat.le_refl _) b4.size)
      | (go_at_call 50; with_reducible refine (HC.out _ _ _ _ _ _ _ _ _ _ w.heap.size w4 hB4.size r3 o4.rd ho4).mono ?_; rintro en w5 ⟨a5, c5, rfl, o5, b5⟩; have S5 := HK.out _ _ b5 S4; have hB5 := hB4.next b5)
      | (go_at_call 50; with_reducible refine (HC.out _ _ _ _ _ _ _ _ _ _ w.heap.size _ (hB4.next (HA.out w4)).size (r3.below (HA.out w4)) (o4.rd.below (HA.out w4)) (emptyO w4 w.heap.size hB4.size)).mono ?_; rintro en w5 ⟨a5, c5, rfl, o5, b5⟩; have S5 := HK.out _ _ b5 S4a; have hB5 := (hB4.next (HA.out w4)).next b5)
      | fail)
  all_goals
    have HF := Lib.hid (⟨o5, hB5⟩ : _ ∧ _)
    clear o3 b3 o4 b4 o5 b5 hB3 hB4 hB5 HRa HRb HRc T2 T3 HG HC HA HK sv sv2 sv2a sv2c HO1 HO1c HB1 HB1a HB1c
    by_cases hp : 0 < R.1
    · have HQ := Lib.hid (HFI.out.1 hp)
      clear HFI
      go_wp2
      go_ret2
      exact ⟨a5, c5, R.2, by rw [HQ.out.1]; simp [hp], HF.out.1, HF.out.2, fun _ => HQ.out.2⟩
    · have HQ := Lib.hid (HFI.out.2 (by first | exact hp | omega))
      clear HFI
      go_wp2
      go_ret2
      exact ⟨a5, c5, R.2, by rw [HQ.out]; simp [hp], HF.out.1, HF.out.2, fun h => by have h2 := HQ.out; simp_all⟩

set_option maxHeartbeats 1600000 in
theorem findNe (s t : Int) (hst : s ≠ t) (a : Option Addr) (n c : Nat) (xss : List (List Int)) (a1 : Option Addr) (n1 c1 : Nat) (yss : List (List Int)) (w : World) :
    Calls Tryd.prog 31 #[.agg #[.int .i64 s, .slice a n c], .agg #[.int .i64 t, .slice a1 n1 c1]] w fun e w' => ∃ a' c' x, e = .returned (.tuple #[.slice a' x.length c', .bool (!(fiL s xss t yss).isEmpty)]) ∧ OwI w.heap.size w'.heap.size w' (.slice a' x.length c') x ∧ Below w.heap.size w w' ∧ ((fiL s xss t yss).isEmpty = false → x = (fiL s xss t yss).headD []) := by
  have eL : fiL s xss t yss = [] := by unfold fiL; rw [if_neg hst]
  rw [eL]
  have hbn : (s != t) = true := by simpa using hst
  have hb0 : ∀ o o', Below w.heap.size w ((w.alloc o).alloc o') := fun o o' => ((Below.refl _ _).alloc (Nat.le_refl _) o).alloc (by simp) o'
  clear eL hst
  go_enter Tryd.func31, Tryd.ntmps31
  go_wp2
  go_ret2
  exact ⟨none, 0, [], rfl, OwI.nil' _ _ _, by first | exact hb0 _ _ | exact (hb0 _ _).drew, fun h => by cases h⟩

theorem specFind {lo hi lo1 hi1 : Nat} (s : Int) (a : Option Addr) (n c : Nat) (xss : List (List Int)) (t : Int) (a1 : Option Addr) (n1 c1 : Nat) (yss : List (List Int)) (w : World) (h : RdR lo hi w (.slice a n c) xss) (hn : xss.length = n) (h1 : RdR lo1 hi1 w (.slice a1 n1 c1) yss) (hn1 : yss.length = n1) (hg : grB s xss = true) (hg1 : grB t yss = true) :
    Calls Tryd.prog 31 #[.agg #[.int .i64 s, .slice a n c], .agg #[.int .i64 t, .slice a1 n1 c1]] w fun e w' => ∃ a' c' x, e = .returned (.tuple #[.slice a' x.length c', .bool (!(fiL s xss t yss).isEmpty)]) ∧ OwI w.heap.size w'.heap.size w' (.slice a' x.length c') x ∧ Below w.heap.size w w' ∧ ((fiL s xss t yss).isEmpty = false → x = (fiL s xss t yss).headD []) := by
  by_cases hst : s = t
  · subst hst
    have hg4 := grB_iff hg
    obtain ⟨S, rfl⟩ : ∃ S : Nat, s = (S : Int) := ⟨s.toNat, by omega⟩
    exact findEq S a n c xss a1 n1 c1 yss w h hn h1 hn1 hg hg1
  · exact findNe s t hst a n c xss a1 n1 c1 yss w

set_option maxHeartbeats 1600000 in
theorem specFi {lo hi lo1 hi1 : Nat} (s : Int) (a : Option Addr) (n c : Nat) (xss : List (List Int)) (t : Int) (a1 : Option Addr) (n1 c1 : Nat) (yss : List (List Int)) (w : World) (h : RdR lo hi w (.slice a n c) xss) (hn : xss.length = n) (h1 : RdR lo1 hi1 w (.slice a1 n1 c1) yss) (hn1 : yss.length = n1) :
    Calls Tryd.prog 13 #[.agg #[.int .i64 s, .slice a n c], .agg #[.int .i64 t, .slice a1 n1 c1]] w fun e w' => ∃ a' c', e = .returned (.tuple #[.slice a' (fiOf s xss t yss).1.length c', .int .i64 (fiOf s xss t yss).2]) ∧ OwI w.heap.size w'.heap.size w' (.slice a' (fiOf s xss t yss).1.length c') (fiOf s xss t yss).1 ∧ Below w.heap.size w w' := by
  have hb0 : ∀ o o', Below w.heap.size w ((w.alloc o).alloc o') := fun o o' => ((Below.refl _ _).alloc (Nat.le_refl _) o).alloc (by simp) o'
  have HI := Lib.hid (fun W (hB : Below w.heap.size w W) => l01Is s a n c xss W (h.below hB) hn)
  have HJ := Lib.hid (fun W (hB : Below w.heap.size w W) => l01Is t a1 n1 c1 yss W (h1.below hB) hn1)
  have HD := Lib.hid (fun (hg : grB s xss = true) (hg1 : grB t yss = true) W (hB : Below w.heap.size w W) => specFind s a n c xss t a1 n1 c1 yss W (h.below hB) hn (h1.below hB) hn1 hg hg1)
  obtain ⟨P, hP⟩ : ∃ P, P = fiOf s xss t yss := ⟨_, rfl⟩
  have HP1 := Lib.hid (fun hg => hP.trans (fiOf_no1 (t := t) (yss := yss) hg))
  have HP2 := Lib.hid (fun hg => hP.trans (fiOf_no2 (s := s) (xss := xss) hg))
  have HP3 := Lib.hid (fun hg hg1 => hP.trans (fiOf_yes (s := s) (xss := xss) (t := t) (yss := yss) hg hg1))
  rw [← hP]
  clear h hn h1 hn1 hP
  go_enter Tryd.func13, Tryd.ntmps13
  go_wp2_with fail
  refine calls_gen (fun W => Below w.heap.size w W ∧ W.cell? ⟨w.heap.size, 0, none⟩ = some (.int .i64 s) ∧ W.cell? ⟨w.heap.size, 1, none⟩ = some (.slice a n c) ∧ W.cell? ⟨w.heap.size + 1, 0, none⟩ = some (.int .i64 t) ∧ W.cell? ⟨w.heap.size + 1, 1, none⟩ = some (.slice a1 n1 c1)) ⟨hb0 _ _, by go_simp, by go_simp, by go_simp, by go_simp⟩ ?_
  rintro W ⟨hB, k0, k1, j0, j1⟩
  refine (HI.out W hB).mono ?_
  cases hg : grB s xss with
  | false =>
    rintro e w1 ⟨rfl, b1⟩
    have HF := Lib.hid (⟨hB.next b1, HP1.out hg⟩ : _ ∧ _)
    clear b1 hB k0 k1 j0 j1 hg
    go_wp2
    go_ret2
    rw [HF.out.2]
    exact ⟨none, 0, rfl, OwI.nil' _ _ _, HF.out.1⟩
  | true =>
    rintro e w1 ⟨rfl, b1⟩
    replace k0 := b1.keep k0
    replace k1 := b1.keep k1
    replace j0 := b1.keep j0
    replace j1 := b1.keep j1
    replace hB := hB.next b1
    clear b1
    go_wp2_with fail
    refine (HJ.out w1 hB).mono ?_
    cases hg2 : grB t yss with
    | false =>
      rintro e w2 ⟨rfl, b2⟩
      have HF := Lib.hid (⟨hB.next b2, HP2.out hg2⟩ : _ ∧ _)
      clear b2 hB k0 k1 j0 j1 hg hg2
      go_wp2
      go_ret2
      rw [HF.out.2]
      exact ⟨none, 0, rfl, OwI.nil' _ _ _, HF.out.1⟩
    | true =>
      rintro e w2 ⟨rfl, b2⟩
      replace k0 := b2.keep k0
      replace k1 := b2.keep k1
      replace j0 := b2.keep j0
      replace j1 := b2.keep j1
      have hB2 := hB.next b2
      have HP3' := Lib.hid (HP3.out hg hg2)
      have HD' := Lib.hid (HD.out hg hg2 w2 hB2)
      generalize (fiL s xss t yss).isEmpty = r at HD' HP3'
      generalize (fiL s xss t yss).headD [] = xs at HD' HP3'
      clear b2 hB HI HJ HP1 HP2 HP3 HD hg hg2
      go_wp2_with fail
      refine HD'.out.mono ?_
      rintro e w3 ⟨a', c', x, rfl, ho, b3, hx⟩
      have HF := Lib.hid (⟨hB2.next b3, ho.mono hB2.size (Nat.le_refl _)⟩ : _ ∧ _)
      cases r with
      | false =>
        have hxe := hx rfl
        subst hxe
        have HRE := Lib.hid (show P = (x, 0) by rw [HP3'.out]; rfl)
        clear b3 ho hx hB2 k0 k1 j0 j1 HD' HP3'
        go_wp2
        go_ret2
        rw [HRE.out]
        exact ⟨_, _, rfl, HF.out.2, HF.out.1⟩
      | true =>
        have HRE := Lib.hid (show P = ([], 4) by rw [HP3'.out]; rfl)
        clear b3 ho hx hB2 k0 k1 j0 j1 HD' HP3'
        go_wp2
        go_ret2
        rw [HRE.out]
        exact ⟨none, 0, rfl, OwI.nil' _ _ _, HF.out.1⟩

set_option maxHeartbeats 1600000 in
theorem specAi {lo hi lo1 hi1 : Nat} (s : Int) (a : Option Addr) (n c : Nat) (xss : List (List Int)) (t : Int) (a1 : Option Addr) (n1 c1 : Nat) (yss : List (List Int)) (w : World) (h : RdR lo hi w (.slice a n c) xss) (hn : xss.length = n) (h1 : RdR lo1 hi1 w (.slice a1 n1 c1) yss) (hn1 : yss.length = n1) :
    Calls Tryd.prog 21 #[.agg #[.int .i64 s, .slice a n c], .agg #[.int .i64 t, .slice a1 n1 c1]] w fun e w' => e = .returned (.tuple #[.bool (aiOf s xss t yss).1, .int .i64 (aiOf s xss t yss).2]) ∧ Below w.heap.size w w' := by
  have hb0 : ∀ o o', Below w.heap.size w ((w.alloc o).alloc o') := fun o o' => ((Below.refl _ _).alloc (Nat.le_refl _) o).alloc (by simp) o'
  have HI := Lib.hid (fun W (hB : Below w.heap.size w W) => l01Is s a n c xss W (h.below hB) hn)
  have HJ := Lib.hid (fun W (hB : Below w.heap.size w W) => l01Is t a1 n1 c1 yss W (h1.below hB) hn1)
  have HD := Lib.hid (fun (hg : grB s xss = true) (hg1 : grB t yss = true) W (hB : Below w.heap.size w W) => specFind s a n c xss t a1 n1 c1 yss W (h.below hB) hn (h1.below hB) hn1 hg hg1)
  obtain ⟨P, hP⟩ : ∃ P, P = aiOf s xss t yss := ⟨_, rfl⟩
  have HP1 := Lib.hid (fun hg => show P = (false, 1) by rw [hP]; unfold aiOf; rw [fiOf_no1 (t := t) (yss := yss) hg]; rfl)
  have HP2 := Lib.hid (fun hg => show P = (false, 1) by rw [hP]; unfold aiOf; rw [fiOf_no2 (s := s) (xss := xss) hg]; rfl)
  have HP3 := Lib.hid (fun hg hg1 => show P = (!(fiL s xss t yss).isEmpty, 0) by
    rw [hP]; unfold aiOf; rw [fiOf_yes (s := s) (xss := xss) (t := t) (yss := yss) hg hg1]
    cases (fiL s xss t yss).isEmpty <;> rfl)
  rw [← hP]
  clear h hn h1 hn1 hP
  go_enter Tryd.func21, Tryd.ntmps21
  go_wp2_with fail
  refine calls_gen (fun W => Below w.heap.size w W ∧ W.cell? ⟨w.heap.size, 0, none⟩ = some (.int .i64 s) ∧ W.cell? ⟨w.heap.size, 1, none⟩ = some (.slice a n c) ∧ W.cell? ⟨w.heap.size + 1, 0, none⟩ = some (.int .i64 t) ∧ W.cell? ⟨w.heap.size + 1, 1, none⟩ = some (.slice a1 n1 c1)) ⟨hb0 _ _, by go_simp, by go_simp, by go_simp, by go_simp⟩ ?_
  rintro W ⟨hB, k0, k1, j0, j1⟩
  refine (HI.out W hB).mono ?_
  cases hg : grB s xss with
  | false =>
    rintro e w1 ⟨rfl, b1⟩
    have HF := Lib.hid (⟨hB.next b1, HP1.out hg⟩ : _ ∧ _)
    clear b1 hB k0 k1 j0 j1 hg
    go_wp2
    go_ret2
    rw [HF.out.2]
    exact ⟨rfl, HF.out.1⟩
  | true =>
    rintro e w1 ⟨rfl, b1⟩
    replace k0 := b1.keep k0
    replace k1 := b1.keep k1
    replace j0 := b1.keep j0
    replace j1 := b1.keep j1
    replace hB := hB.next b1
    clear b1
    go_wp2_with fail
    refine (HJ.out w1 hB).mono ?_
    cases hg2 : grB t yss with
    | false =>
      rintro e w2 ⟨rfl, b2⟩
      have HF := Lib.hid (⟨hB.next b2, HP2.out hg2⟩ : _ ∧ _)
      clear b2 hB k0 k1 j0 j1 hg hg2
      go_wp2
      go_ret2
      rw [HF.out.2]
      exact ⟨rfl, HF.out.1⟩
    | true =>
      rintro e w2 ⟨rfl, b2⟩
      replace k0 := b2.keep k0
      replace k1 := b2.keep k1
      replace j0 := b2.keep j0
      replace j1 := b2.keep j1
      have hB2 := hB.next b2
      have HP3' := Lib.hid (HP3.out hg hg2)
      have HD' := Lib.hid (HD.out hg hg2 w2 hB2)
      generalize (fiL s xss t yss).isEmpty = r at HD' HP3'
      generalize (fiL s xss t yss).headD [] = xs at HD' HP3'
      clear b2 hB HI HJ HP1 HP2 HP3 HD hg hg2
      go_wp2_with fail
      refine HD'.out.mono ?_
      rintro e w3 ⟨a', c', x, rfl, ho, b3, hx⟩
      have HF := Lib.hid (hB2.next b3)
      have HRE := Lib.hid HP3'.out
      clear b3 ho hx hB2 k0 k1 j0 j1 HD' HP3'
      go_wp2
      go_ret2
      rw [HRE.out]
      exact ⟨rfl, HF.out⟩
end Go.Proofs.YtnblhkhdilkbeaaDoor

/- CountAutomorphisms, by the program. -/
set_option maxRecDepth 100000
namespace Go.Proofs.YtnblhkhdilkbeaaDoor
open Go Go.RowKit Go.Shelf
attribute [local go_sem] Oper.semAt_some

/-- what the count's range keeps -/
def CaI (T : Nat) (w : World) (pre : List (Nat × Nat × List Int)) (V : World) : Prop := Below w.heap.size w V ∧ V.cell? ⟨T, 0, none⟩ = some (.int .i64 (wrap64 pre.length)) ∧ V.frozen? ⟨T, 0, none⟩ = false
theorem CaI.holds {T B : Nat} {w : World} (hT : T < B) (hB : w.heap.size ≤ B) : HoldsBelow B (CaI T w) := fun s W W' row hs hg hr => by
  have hb := hg.block T (World.block_lt_of_cell? W _ hs.2.1) (fun e => by have := hr T e.symm; omega)
  exact ⟨hs.1.grown hg hs.1.size (fun k e => Nat.le_trans hB (hr k e)), (World.cell?_of_block hb).trans hs.2.1, (World.frozen?_of_block hb).trans hs.2.2⟩
theorem wrap_next (k : Nat) : IntKind.i64.wrap (wrap64 (k : Int) + 1) = wrap64 ((k + 1 : Nat) : Int) := by
  rw [IntWalk.i64_left]
  unfold wrap64
  push_cast
  omega
theorem wrap_next' (k : Nat) : wrap64 (wrap64 (k : Int) + 1) = wrap64 ((k + 1 : Nat) : Int) := by
  unfold wrap64
  push_cast
  omega
theorem KeepX.put {T : Nat} {V : World} {l : Nat} {o o' : Obj} (h : V.heap[l]? = some o) (ho : o.isCells = false) : KeepX T none V (V.putObj l o') := by
  refine ⟨by simp [World.putObj], fun k ob _ _ h3 h4 => ?_⟩
  have hkl : k ≠ l := fun e => by subst e; rw [h] at h3; cases h3; rw [ho] at h4; cases h4
  exact (World.putObj_heap_other hkl).trans h3
theorem KeepX.cellSet {T : Nat} {V : World} {v : Value} : KeepX T none V (V.setCell ⟨T, 0, none⟩ v) :=
  ⟨by rw [World.size_setCell]; exact Nat.le_refl _, fun k ob h1 _ h3 _ => (Below.heap_setCell _ _ _ _ (fun e => h1 e)).trans h3⟩

end Go.Proofs.YtnblhkhdilkbeaaDoor

/- leastIsomorphism: the range ends in its first round. -/
set_option maxRecDepth 100000
namespace Go.Proofs.YtnblhkhdilkbeaaDoor
open Go Go.RowKit Go.Shelf
attribute [local go_sem] Oper.semAt_some

theorem isoL_ent {S : Nat} {f h : Nat → Nat → Int} : ∀ (m n : Nat) (l : List Int), EntB S n l → n + m = S → ∀ x ∈ isoL S f h m l, EntB S S x
  | 0, n, l, hl, hm, x, hx => by
    obtain rfl : n = S := by omega
    simp [isoL] at hx
    subst hx; exact hl
  | m + 1, n, l, hl, hm, x, hx => by
    rw [show isoL S f h (m + 1) l = (List.range S).flatMap (fun x => if fitB f h l x = true then isoL S f h m (l ++ [(x : Int)]) else []) from rfl, List.mem_flatMap] at hx
    obtain ⟨y, hy, hx⟩ := hx
    by_cases hf : fitB f h l y = true
    · rw [if_pos hf] at hx
      exact isoL_ent m (n + 1) _ (hl.snoc (List.mem_range.1 hy)) (by omega) x hx
    · rw [if_neg hf] at hx; cases hx

/-- before the first round -/
def FiI (T : Nat) (w : World) (pre : List (Nat × Nat × List Int)) (V : World) : Prop := pre = [] ∧ Below w.heap.size w V ∧ V.cell? ⟨T, 0, none⟩ = some (.slice none 0 0) ∧ V.frozen? ⟨T, 0, none⟩ = false
theorem FiI.holds {T B : Nat} {w : World} (hT : T < B) (hB : w.heap.size ≤ B) : HoldsBelow B (FiI T w) := fun s W W' row hs hg hr => by
  have hb := hg.block T (World.block_lt_of_cell? W _ hs.2.2.1) (fun e => by have := hr T e.symm; omega)
  exact ⟨hs.1, hs.2.1.grown hg hs.2.1.size (fun k e => Nat.le_trans hB (hr k e)), (World.cell?_of_block hb).trans hs.2.2.1, (World.frozen?_of_block hb).trans hs.2.2.2⟩
/-- behind the return: the result's box holds the first list -/
def FiX (T S B1 : Nat) (L : List (List Int)) (w V : World) : Prop := Below w.heap.size w V ∧ L ≠ [] ∧ ∃ g c, V.cell? ⟨T, 0, none⟩ = some (.slice (some ⟨g, 0, none⟩) S c) ∧ V.ownsRow B1 2 1 (.slice (some ⟨g, 0, none⟩) S c) S ((L.headD []).map (Value.int .i64))
theorem FiX.own {T S B1 B : Nat} {L : List (List Int)} {w : World} (hT : T < B) (hB : w.heap.size ≤ B) : OwnFrom B (fun (_ : Unit) => FiX T S B1 L w) := fun _ W W' row hs hg hr => by
  obtain ⟨hb, hL, g, c, h1, h2⟩ := hs
  have hbT := hg.block T (World.block_lt_of_cell? W _ h1) (fun e => by have := (hr T e.symm).1; omega)
  refine ⟨hb.grown hg hb.size (fun k e => Nat.le_trans hB (hr k e).1), hL, g, c, (World.cell?_of_block hbT).trans h1, ?_⟩
  have hk : KeepX (W.heap.size + 1) row W W' := KeepX.of_grown hg
  refine hk.owns h2 (fun k e => ⟨by have := (h2.lt k e).2; omega, fun e9 => ?_⟩)
  obtain ⟨o, ho1, ho2⟩ := (hr k e9).2
  rcases h2.2 with ⟨hv, _⟩ | ⟨g', cap', cur, h', hbb, hgg, _⟩
  · cases hv
  · simp only [Value.slice.injEq, Option.some.injEq, Addr.mk.injEq, and_true, true_and] at h'
    obtain ⟨rfl, rfl⟩ := h'
    injection e with e
    subst e
    rw [hgg] at ho1
    cases ho1
    cases ho2

set_option maxHeartbeats 4000000 in
theorem leastFi (S : Nat) (s2 : Int) (a : Option Addr) (n c : Nat) (a1 : Option Addr) (n1 c1 : Nat) (L : List (List Int)) (hL : ∀ x ∈ L, ∀ y ∈ x, I64 y) (hS8 : S ≤ 8) (a0 : Addr) (w : World)
    (hE : w.cell? ⟨0, 0, none⟩ = some (.iface 165 (.pointer (some a0))))
    (hIS : ∀ W, Below w.heap.size w W → Calls Tryd.prog 55 #[.agg #[.int .i64 (S : Int), .slice a n c], .agg #[.int .i64 s2, .slice a1 n1 c1]] W fun e w' => ∃ Bx, e = .returned (.func (.func 86) #[] #[.pointer (some ⟨Bx, 0, none⟩)]) ∧ Below W.heap.size W w' ∧
      ∀ T, T < W.heap.size → TellsOwn (GdN S w'.heap.size L) Fence.wide 5 Tryd.prog 86 #[.pointer (some ⟨Bx, 0, none⟩)] (encM S) (KeepX T none) (fun xs => xs.map (fun x => x.2.2) = L) w') :
    CallsIn Fence.wide 6 Tryd.prog 36 #[.agg #[.int .i64 (S : Int), .slice a n c], .agg #[.int .i64 s2, .slice a1 n1 c1]] w fun e w' => Below w.heap.size w w' ∧ ((L ≠ [] ∧ ∃ g c, e = .returned (.slice (some ⟨g, 0, none⟩) S c) ∧ OwI w.heap.size w'.heap.size w' (.slice (some ⟨g, 0, none⟩) S c) (L.headD [])) ∨ (L = [] ∧ e = .panicked [{ v := .iface 165 (.pointer (some a0)), recovered := false }])) := by
  have HIS := Lib.hid hIS
  have HLL := Lib.hid hL
  have HE := Lib.hid (fun W (hB : Below w.heap.size w W) => (hB.keep hE : W.cell? ⟨0, 0, none⟩ = some (.iface 165 (.pointer (some a0)))))
  clear hIS hL hE
  refine callsIn_of_wp_marks Tryd.func36 rfl trivial ?_ rfl
  simp only [Tryd.ntmps36, List.size_toArray, List.length_cons, List.length_nil, Nat.reduceAdd, Nat.reduceSub, Array.replicate_succ, Array.replicate_zero, List.push_toArray, List.append_toArray, List.nil_append, List.cons_append]
  have hF2 : Fence.wide.fn 55 := trivial
  gi_wp2
  obtain ⟨V1, hV1⟩ : ∃ V, V = ((w.alloc (.cells #[.int .i64 (S : Int), .slice a n c] 24)).alloc (.cells #[.int .i64 s2, .slice a1 n1 c1] 24)).alloc (.cells #[.slice none 0 0] 25) := ⟨_, rfl⟩
  obtain ⟨T, hT⟩ : ∃ T, T = w.heap.size + 1 + 1 := ⟨_, rfl⟩
  have hb1 : Below w.heap.size w V1 := by rw [hV1]; exact (((Below.refl _ _).alloc (Nat.le_refl _) _).alloc (by simp) _).alloc (by simp; omega) _
  have t0 : V1.cell? ⟨T, 0, none⟩ = some (.slice none 0 0) := by rw [hV1, hT]; go_simp
  have tf : V1.frozen? ⟨T, 0, none⟩ = false := by rw [hV1, hT]; go_simp
  have hTs : T < V1.heap.size := World.block_lt_of_cell? V1 _ t0
  rw [← hV1, ← hT]
  have HB3 := Lib.hid hb1
  have hTw : w.heap.size ≤ T := by rw [hT]; omega
  clear hV1 hb1 hT
  refine (callsIn_wide.2 (HIS.out V1 HB3.out)).mono ?_
  rintro e V2 ⟨Bx, rfl, hb2, hTO⟩
  have HTO := Lib.hid (hTO T hTs)
  replace t0 := hb2.keep t0
  replace tf := hb2.keepf hTs tf
  have HB4 := Lib.hid (HB3.out.next hb2)
  have hTV : T < V2.heap.size := Nat.lt_of_lt_of_le hTs hb2.size
  clear hTO hb2 HB3 HIS
  gi_wp2
  refine range_own (GdN S V2.heap.size L) (fun _ x V l o o' h1 h2 hgd => hgd.put o' h1 h2) rfl (by omega) (gf := 86) (lb := #[.pointer (some ⟨Bx, 0, none⟩)]) rfl trivial (enters_of Tryd.func86 (by kernel_rfl) rfl)
    HTO.out
    (Below.refl _ _) (fun _ => rfl) (fun h k => KeepX.trans h k) (fun V l o o' _ h ho _ => KeepX.put h ho)
    (FiI T w) (FiX T S V2.heap.size L w) (FiI.holds hTV HB4.out.size) (FiX.own hTV HB4.out.size) ⟨rfl, HB4.out, t0, tf⟩
    (fun x => { tmps := #[.agg #[.int .i64 (S : Int), .slice a n c], .agg #[.int .i64 s2, .slice a1 n1 c1], .pointer (some ⟨w.heap.size, 0, none⟩), .pointer (some ⟨w.heap.size + 1, 0, none⟩), .pointer (some ⟨T, 0, none⟩), .slice (some ⟨x.1, 0, none⟩) S x.2.1, .agg #[.int .i64 (S : Int), .slice a n c], .agg #[.int .i64 s2, .slice a1 n1 c1], .func (.func 86) #[] #[.pointer (some ⟨Bx, 0, none⟩)], .slice (some ⟨x.1, 0, none⟩) S x.2.1, undef, undef], defers := [] }) ?assign ?body ?done ?stop
  case assign =>
    intro l x W K hK
    simp only [encM]
    have e : ∀ (t : Array Value) (v : Value), Array.foldl (fun (t : Array Value) (y : Tmp × Value) => t.setIfInBounds y.1 y.2) t (#[9].zip #[v]) = t.setIfInBounds 9 v := fun t v => by simp
    simp only [e]
    gi_wp2
    exact hK
  case body =>
    rintro l pre ⟨g, cg, lst⟩ V ⟨rfl, hb, hc, hf⟩ ⟨⟨hl1, hl2, hl3, hl4⟩, tl, htl⟩
    dsimp only at hl1 hl2 hl3 hl4 htl
    have HF := Lib.hid (show KeepsOthers V (V.setCell ⟨T, 0, none⟩ (.slice (some ⟨g, 0, none⟩) S cg)) ∧ FiX T S V2.heap.size L w (V.setCell ⟨T, 0, none⟩ (.slice (some ⟨g, 0, none⟩) S cg)) from
      ⟨KeepsOthers.setCell V _ _, hb.setCell (p := ⟨T, 0, none⟩) hTw _, by rw [← htl]; simp, g, cg, World.cell?_setCell_same _ _ _ hc, by
        have e1 : L.headD [] = lst := by rw [← htl]; rfl
        rw [e1]
        exact KeepX.cellSet.owns hl4 (fun k e => ⟨by have := (hl4.lt k e).1; omega, by simp⟩)⟩)
    clear hl3 hl4 htl hb hl1 hl2
    dsimp only
    gi_wp2
    exact HF.out
  case done =>
    rintro D xs V hD hS2 ⟨hxs, hb, hc, hf⟩ hK
    subst hxs
    have HH := Lib.hid (⟨hb, hK⟩ : _ ∧ _)
    have HLN := Lib.hid (show L = [] from hS2.symm)
    have g1 := HE.out V hb
    clear hS2 hb hK hf hc
    gi_wp2
    have hBe : Below w.heap.size w (V.putObj D (.deferred none)) := HH.out.1.trans (belowK_b (w := w) (Nat.le_refl _) V D _ _ (by have := HB4.out.size; omega) HH.out.2 rfl rfl)
    refine ⟨by simp, .inl ⟨_, _, rfl, run_takeDeferred HH.out.2, ?_⟩⟩
    exact ⟨hBe, .inr ⟨HLN.out, rfl⟩⟩
  case stop =>
    rintro D V hD ⟨hb, hne, g, cg, h1, h2⟩ hK
    have q0 := cell_put (.deferred none) hK rfl h1
    have ho := ownsRow_putObj h2 (.deferred none) hK rfl
    have hVs := HB4.out.size
    have hO : OwI w.heap.size (V.putObj D (.deferred none)).heap.size (V.putObj D (.deferred none)) (.slice (some ⟨g, 0, none⟩) S cg) (L.headD []) := (OwI.mk ho (by omega) (fun y hy => by
      cases L with
      | nil => exact absurd rfl hne
      | cons x l => exact HLL.out x (List.mem_cons_self ..) y hy)).mono hVs (Nat.le_refl _)
    have hBe : Below w.heap.size w (V.putObj D (.deferred none)) := hb.trans (belowK_b (w := w) (Nat.le_refl _) V D _ _ (by have := HB4.out.size; omega) hK rfl rfl)
    have HH := Lib.hid (⟨hne, hO, hBe⟩ : _ ∧ _ ∧ _)
    clear ho hO hBe h1 h2 hb hne
    gi_wp2
    refine ⟨by simp, .inl ⟨_, _, rfl, run_takeDeferred hK, ?_⟩⟩
    refine ⟨.slice (some ⟨g, 0, none⟩) S cg, ?_, HH.out.2.2, .inl ⟨HH.out.1, _, _, rfl, HH.out.2.1⟩⟩
    simp [results, Tryd.results36, go_sem, q0]

end Go.Proofs.YtnblhkhdilkbeaaDoor

/- The iterator over isomorphisms of graphs of two sizes: it tells nothing. -/
set_option maxRecDepth 100000
namespace Go.Proofs.YtnblhkhdilkbeaaDoor
open Go Go.RowKit

/-- two sizes in two boxes -/
def EnvN (S S2 q1 q2 : Nat) (V : World) : Prop := V.cell? ⟨q1, 0, none⟩ = some (.int .i64 (S : Int)) ∧ V.cell? ⟨q2, 0, none⟩ = some (.int .i64 (S2 : Int))
theorem EnvN.keep {S S2 q1 q2 T B0 : Nat} {A B : World} (hA : EnvN S S2 q1 q2 A) (h1 : T < q1 ∧ q1 < B0) (h2 : T < q2 ∧ q2 < B0) (hk : ∀ k o, k < B0 → k ≠ T → A.heap[k]? = some o → o.isCells = true → B.heap[k]? = some o) : EnvN S S2 q1 q2 B :=
  ⟨cell_kept hA.1 (fun o e1 e2 => hk _ o h1.2 (by show q1 ≠ T; omega) e1 e2), cell_kept hA.2 (fun o e1 e2 => hk _ o h2.2 (by show q2 ≠ T; omega) e1 e2)⟩
theorem klB_never (g : Nat → Nat) (n : Nat) : klB (fun _ _ => 0) (fun _ _ => 1) g n = false := klB_no (v := 0) (by omega) (by simp)
theorem isoL_never (S : Nat) (hS : 1 ≤ S) : isoL S (fun _ _ => 0) (fun _ _ => 1) S [] = [] := by
  obtain ⟨m, rfl⟩ : ∃ m, S = m + 1 := ⟨S - 1, by omega⟩
  rw [show isoL (m + 1) (fun _ _ => 0) (fun _ _ => 1) (m + 1) [] = (List.range (m + 1)).flatMap (fun x => if fitB (fun _ _ => 0) (fun _ _ => 1) [] x = true then isoL (m + 1) (fun _ _ => 0) (fun _ _ => 1) m ([] ++ [(x : Int)]) else []) from rfl]
  refine List.flatMap_eq_nil_iff.2 (fun x _ => if_neg (fun h => ?_))
  rw [fit_kl (n := 0) rfl (by rfl), klB_never] at h
  cases h
set_option maxHeartbeats 1600000 in
theorem fitNe (S S2 : Nat) (hne : S ≠ S2) (q1 q2 q3 q4 : Nat) (v : Value) (W : World) (hE : EnvN S S2 q1 q2 W) :
    Calls Tryd.prog 68 #[v, .pointer (some ⟨q1, 0, none⟩), .pointer (some ⟨q2, 0, none⟩), .pointer (some ⟨q3, 0, none⟩), .pointer (some ⟨q4, 0, none⟩)] W fun e W' => e = .returned (.bool false) ∧ Below W.heap.size W W' := by
  obtain ⟨s1, s2⟩ := hE
  have hb : ((S : Int) == (S2 : Int)) = false := by
    have : (S : Int) ≠ (S2 : Int) := by omega
    simpa using this
  have hb0 : Below W.heap.size W W := Below.refl _ _
  clear hne
  go_enter Tryd.func68, Tryd.ntmps68
  go_wp2
  go_ret
  exact ⟨rfl, by first | exact hb0 | exact hb0.drew⟩

set_option maxHeartbeats 3200000 in
theorem isosOfN {lo hi lo1 hi1 : Nat} (S S2 : Nat) (a : Option Addr) (n c : Nat) (xss : List (List Int)) (a1 : Option Addr) (n1 c1 : Nat) (yss : List (List Int)) (w : World) (h : RdR lo hi w (.slice a n c) xss) (hn : xss.length = n) (h1 : RdR lo1 hi1 w (.slice a1 n1 c1) yss) (hn1 : yss.length = n1) (hg : grB (S : Int) xss = true) (hg1 : grB (S2 : Int) yss = true) :
    Calls Tryd.prog 55 #[.agg #[.int .i64 (S : Int), .slice a n c], .agg #[.int .i64 (S2 : Int), .slice a1 n1 c1]] w fun e w' => ∃ q1 q2 q3 q4 Bx, e = .returned (.func (.func 86) #[] #[.pointer (some ⟨Bx, 0, none⟩)]) ∧ Below w.heap.size w w' ∧
      (w.heap.size ≤ q1 ∧ q1 < w'.heap.size ∧ w.heap.size ≤ q2 ∧ q2 < w'.heap.size) ∧ EnvN S S2 q1 q2 w' ∧
      w'.cell? ⟨Bx, 0, none⟩ = some (.int .i64 (S : Int)) ∧ w'.cell? ⟨Bx, 1, none⟩ = some (.func (.func 68) #[] #[.pointer (some ⟨q1, 0, none⟩), .pointer (some ⟨q2, 0, none⟩), .pointer (some ⟨q3, 0, none⟩), .pointer (some ⟨q4, 0, none⟩)]) := by
  have hb0 : ∀ o o', Below w.heap.size w ((w.alloc o).alloc o') := fun o o' => ((Below.refl _ _).alloc (Nat.le_refl _) o).alloc (by simp) o'
  have HA := Lib.hid (fun W (hB : Below w.heap.size w W) => show Calls Tryd.prog 67 #[.agg #[.int .i64 (S : Int), .slice a n c]] W fun e w' => ∃ a' c', e = .returned (.tuple #[.slice a' S c', .int .i64 0]) ∧ OwR W.heap.size w'.heap.size w' (.slice a' S c') (tab S (adF xss)) ∧ Below W.heap.size W w' by
    have := implAdj_yes S a n c xss W (h.below hB) hn hg
    rw [← hn] at this ⊢
    exact this)
  have HA1 := Lib.hid (fun W (hB : Below w.heap.size w W) => show Calls Tryd.prog 67 #[.agg #[.int .i64 (S2 : Int), .slice a1 n1 c1]] W fun e w' => ∃ a' c', e = .returned (.tuple #[.slice a' S2 c', .int .i64 0]) ∧ OwR W.heap.size w'.heap.size w' (.slice a' S2 c') (tab S2 (adF yss)) ∧ Below W.heap.size W w' by
    have := implAdj_yes S2 a1 n1 c1 yss W (h1.below hB) hn1 hg1
    rw [← hn1] at this ⊢
    exact this)
  generalize adF xss = f at HA ⊢
  generalize adF yss = g at HA1 ⊢
  clear h hn h1 hn1 hg hg1
  go_enter Tryd.func55, Tryd.ntmps55
  go_wp2_with fail
  refine calls_gen (fun W => Below w.heap.size w W ∧ W.cell? ⟨w.heap.size, 0, none⟩ = some (.int .i64 (S : Int)) ∧ W.cell? ⟨w.heap.size, 1, none⟩ = some (.slice a n c) ∧ W.cell? ⟨w.heap.size + 1, 0, none⟩ = some (.int .i64 (S2 : Int)) ∧ W.cell? ⟨w.heap.size + 1, 1, none⟩ = some (.slice a1 n1 c1)) ⟨hb0 _ _, by go_simp, by go_simp, by go_simp, by go_simp⟩ ?_
  rintro W ⟨hB, k0, k1, j0, j1⟩
  refine (HA.out W hB).mono ?_
  rintro e w1 ⟨a3, c3, rfl, o3, b3⟩
  have hsz : w.heap.size + 1 < w1.heap.size := Nat.lt_of_lt_of_le (World.block_lt_of_cell? W _ j0) b3.size
  have hwW := hB.size
  replace k0 := b3.keep k0
  replace j0 := b3.keep j0
  replace j1 := b3.keep j1
  have HB1 := Lib.hid (hB.next b3)
  have HR3 := Lib.hid ((o3.mono hwW (Nat.le_refl _)).rd)
  clear hB b3 o3 k1 HA
  go_wp2_with fail
  refine calls_gen (fun W' => Below w1.heap.size w1 W' ∧ W'.cell? ⟨w1.heap.size, 0, none⟩ = some (.slice a3 S c3)) ⟨(Below.refl _ _).alloc (Nat.le_refl _) _, by go_simp⟩ ?_
  rintro W2 ⟨hB2, m0⟩
  have HB2 := Lib.hid (HB1.out.next hB2)
  refine (HA1.out W2 HB2.out).mono ?_
  rintro e w4 ⟨a4, c4, rfl, o4, b4⟩
  replace k0 := b4.keep (hB2.keep k0)
  replace j0 := b4.keep (hB2.keep j0)
  replace m0 := b4.keep m0
  have hq3 : w1.heap.size < w4.heap.size := World.block_lt_of_cell? w4 _ m0
  have HR4 := Lib.hid ((o4.mono HB2.out.size (Nat.le_refl _)).rd)
  have HR3' := Lib.hid (RdR.wide ((HR3.out.below hB2).below b4) (Nat.le_of_lt hq3))
  have HB4 := Lib.hid (HB2.out.next b4)
  have hw1s := HB1.out.size
  clear hB2 b4 o4 j1 HA1 HB2 HR3 HB1
  obtain ⟨Q3, hQ3⟩ : ∃ Q, Q = w1.heap.size := ⟨_, rfl⟩
  rw [← hQ3] at m0 hq3 hw1s hsz ⊢
  clear hQ3
  have k0d := ((Below.refl w4.heap.size w4).alloc (Nat.le_refl _) (.cells #[.slice a4 S2 c4] 22)).keep k0
  go_wp2_with fail
  refine calls_gen (fun W' => Below w4.heap.size w4 W' ∧ W'.cell? ⟨w4.heap.size, 0, none⟩ = some (.slice a4 S2 c4)) ⟨(Below.refl _ _).alloc (Nat.le_refl _) _, by go_simp⟩ ?_
  clear k0d
  rintro W5 ⟨hB5, n0⟩
  have hq4 : w4.heap.size < W5.heap.size := World.block_lt_of_cell? W5 _ n0
  refine (foundOf S w.heap.size (w.heap.size + 1) Q3 w4.heap.size W5).mono ?_
  rintro e w6 ⟨rfl, hw6⟩
  have hb6 : Below W5.heap.size W5 w6 := by rw [hw6]; exact (Below.refl _ _).alloc (Nat.le_refl _) _
  have x0 : w6.cell? ⟨W5.heap.size, 0, none⟩ = some (.int .i64 (S : Int)) := by rw [hw6]; go_simp
  have x1 : w6.cell? ⟨W5.heap.size, 1, none⟩ = some (.func (.func 68) #[] #[.pointer (some ⟨w.heap.size, 0, none⟩), .pointer (some ⟨w.heap.size + 1, 0, none⟩), .pointer (some ⟨Q3, 0, none⟩), .pointer (some ⟨w4.heap.size, 0, none⟩)]) := by rw [hw6]; go_simp
  have hb46 := hB5.next hb6
  have hs6 := hb46.size
  have hs65 := hb6.size
  have HF := Lib.hid (show Below w.heap.size w w6 ∧ (w.heap.size ≤ w.heap.size ∧ w.heap.size < w6.heap.size ∧ w.heap.size ≤ w.heap.size + 1 ∧ w.heap.size + 1 < w6.heap.size) ∧ EnvN S S2 w.heap.size (w.heap.size + 1) w6 ∧ _ ∧ _ from
    ⟨HB4.out.next hb46, ⟨Nat.le_refl _, by omega, by omega, by omega⟩, ⟨hb46.keep k0, hb46.keep j0⟩, x0, x1⟩)
  clear hw6 hb6 x0 x1 hb46 hB5 HR3' HR4 HB4 k0 j0 m0 n0
  go_wp2
  go_ret
  exact ⟨_, _, _, _, _, rfl, HF.out⟩

end Go.Proofs.YtnblhkhdilkbeaaDoor

/- FindIsomorphism and AreIsomorphic of the program. -/
set_option maxRecDepth 100000
namespace Go.Proofs.YtnblhkhdilkbeaaDoor
open Go Go.RowKit

theorem emp_of {α : Type} {L : List α} : (L ≠ [] → L.isEmpty = false) ∧ (L = [] → L.isEmpty = true) := by cases L <;> simp
/-- leastIsomorphism of two graphs -/
theorem leastIso {lo hi lo1 hi1 : Nat} (S S2 : Nat) (a : Option Addr) (n c : Nat) (xss : List (List Int)) (a1 : Option Addr) (n1 c1 : Nat) (yss : List (List Int)) (a0 : Addr) (w : World) (h : RdR lo hi w (.slice a n c) xss) (hn : xss.length = n) (h1 : RdR lo1 hi1 w (.slice a1 n1 c1) yss) (hn1 : yss.length = n1) (hg : grB (S : Int) xss = true) (hg1 : grB (S2 : Int) yss = true)
    (hE : w.cell? ⟨0, 0, none⟩ = some (.iface 165 (.pointer (some a0)))) :
    Calls Tryd.prog 36 #[.agg #[.int .i64 (S : Int), .slice a n c], .agg #[.int .i64 (S2 : Int), .slice a1 n1 c1]] w fun e w' => Below w.heap.size w w' ∧ (((fiL S xss S2 yss).isEmpty = false ∧ ∃ g c, e = .returned (.slice (some ⟨g, 0, none⟩) S c) ∧ OwI w.heap.size w'.heap.size w' (.slice (some ⟨g, 0, none⟩) S c) ((fiL S xss S2 yss).headD [])) ∨ ((fiL S xss S2 yss).isEmpty = true ∧ e = .panicked [{ v := .iface 165 (.pointer (some a0)), recovered := false }])) := by
  have hg4 := grB_iff hg
  have hS1 : 1 ≤ S := by omega
  have hS8 : S ≤ 8 := by omega
  have hfin : ∀ (L : List (List Int)), L = fiL S xss S2 yss → ∀ (e : Ending) (w' : World), (Below w.heap.size w w' ∧ ((L ≠ [] ∧ ∃ g c, e = Ending.returned (.slice (some ⟨g, 0, none⟩) S c) ∧ OwI w.heap.size w'.heap.size w' (.slice (some ⟨g, 0, none⟩) S c) (L.headD [])) ∨ (L = [] ∧ e = Ending.panicked [{ v := .iface 165 (.pointer (some a0)), recovered := false }]))) → Below w.heap.size w w' ∧ (((fiL S xss S2 yss).isEmpty = false ∧ ∃ g c, e = Ending.returned (.slice (some ⟨g, 0, none⟩) S c) ∧ OwI w.heap.size w'.heap.size w' (.slice (some ⟨g, 0, none⟩) S c) ((fiL S xss S2 yss).headD [])) ∨ ((fiL S xss S2 yss).isEmpty = true ∧ e = Ending.panicked [{ v := .iface 165 (.pointer (some a0)), recovered := false }])) := by
    rintro L rfl e w' ⟨hb, ⟨hl, hr⟩ | ⟨hl, hr⟩⟩
    · exact ⟨hb, .inl ⟨emp_of.1 hl, hr⟩⟩
    · exact ⟨hb, .inr ⟨emp_of.2 hl, hr⟩⟩
  by_cases hst : S = S2
  · subst hst
    refine (callsIn_wide.1 (leastFi S (S : Int) a n c a1 n1 c1 (isoL S (adF xss) (adF yss) S []) (fun x hx y hy => (isoL_ent S 0 [] ⟨rfl, fun i hi => by omega⟩ (by omega) x hx).i64 hS8 y hy) hS8 a0 w hE (fun W hB => (isosOf S a n c xss a1 n1 c1 yss W (h.below hB) hn (h1.below hB) hn1 hg hg1).mono ?_))).mono (hfin _ (by unfold fiL; rw [if_pos rfl, Int.toNat_natCast]))
    rintro e w' ⟨q1, q2, q3, q4, hi4, Bx, a3, c3, a4, c4, rfl, hb2, hq, hhi, hEn, x0, x1⟩
    exact ⟨Bx, rfl, hb2, fun T hT => foundRun 4 S ⟨hS1, hS8⟩ (adF xss) (adF yss) T Bx q1 q2 q3 q4 w' (Nat.lt_of_lt_of_le hT hb2.size) (EnvI S (adF xss) (adF yss) q1 q2 q3 q4 W.heap.size hi4 a3 c3 a4 c4)
      (fun A B hA hk => hA.keep hT hq hhi hk) (fun W g cg m lst hE hl hm hc => fitRun S ⟨hS1, hS8⟩ (adF xss) (adF yss) q1 q2 q3 q4 a3 c3 a4 c4 W g cg m lst hE hl hm hc) hEn x0 x1⟩
  · have hnil := isoL_never S hS1
    refine (callsIn_wide.1 (leastFi S (S2 : Int) a n c a1 n1 c1 [] (fun x hx => by cases hx) hS8 a0 w hE (fun W hB => (isosOfN S S2 a n c xss a1 n1 c1 yss W (h.below hB) hn (h1.below hB) hn1 hg hg1).mono ?_))).mono (hfin _ (by unfold fiL; rw [if_neg (by omega)]))
    rintro e w' ⟨q1, q2, q3, q4, Bx, rfl, hb2, hq, hEn, x0, x1⟩
    refine ⟨Bx, rfl, hb2, fun T hT => ?_⟩
    have hfr := foundRun 4 S ⟨hS1, hS8⟩ (fun _ _ => 0) (fun _ _ => 1) T Bx q1 q2 q3 q4 w' (Nat.lt_of_lt_of_le hT hb2.size) (EnvN S S2 q1 q2)
      (fun A B hA hk => hA.keep ⟨by omega, hq.2.1⟩ ⟨by omega, hq.2.2.2⟩ hk) (fun W g cg m lst hE hl hm hc => by rw [klB_never]; exact fitNe S S2 hst q1 q2 q3 q4 _ W hE) hEn x0 x1
    rw [hnil] at hfr
    exact hfr

/-- the closure's and the door's good end: the box holds the list -/
def FiY (D S : Nat) (xs : List Int) (w w' : World) : Prop := Chg D (D + 1) w w' ∧ ∃ g c, w'.cell? ⟨D, 0, none⟩ = some (.slice (some ⟨g, 0, none⟩) S c) ∧ OwI w.heap.size w'.heap.size w' (.slice (some ⟨g, 0, none⟩) S c) xs

set_option maxHeartbeats 1600000 in
theorem findClo {lo hi lo1 hi1 : Nat} (S S2 : Nat) (a : Option Addr) (n c : Nat) (xss : List (List Int)) (a1 : Option Addr) (n1 c1 : Nat) (yss : List (List Int)) (a0 : Addr) (G G2 D : Nat) (y : Value) (w : World) (h : RdR lo hi w (.slice a n c) xss) (hn : xss.length = n) (h1 : RdR lo1 hi1 w (.slice a1 n1 c1) yss) (hn1 : yss.length = n1) (hg : grB (S : Int) xss = true) (hg1 : grB (S2 : Int) yss = true)
    (hE : w.cell? ⟨0, 0, none⟩ = some (.iface 165 (.pointer (some a0))))
    (g0 : w.cell? ⟨G, 0, none⟩ = some (.int .i64 (S : Int))) (g1 : w.cell? ⟨G, 1, none⟩ = some (.slice a n c)) (g2 : w.cell? ⟨G2, 0, none⟩ = some (.int .i64 (S2 : Int))) (g3 : w.cell? ⟨G2, 1, none⟩ = some (.slice a1 n1 c1)) (d0 : w.cell? ⟨D, 0, none⟩ = some y) (d1 : w.frozen? ⟨D, 0, none⟩ = false) :
    Calls Tryd.prog 35 #[.pointer (some ⟨G, 0, none⟩), .pointer (some ⟨G2, 0, none⟩), .pointer (some ⟨D, 0, none⟩)] w fun e w' => ((fiL S xss S2 yss).isEmpty = false ∧ e = .returned (.tuple #[]) ∧ FiY D S ((fiL S xss S2 yss).headD []) w w') ∨ ((fiL S xss S2 yss).isEmpty = true ∧ e = .panicked [{ v := .iface 165 (.pointer (some a0)), recovered := false }] ∧ Below w.heap.size w w') := by
  have HR := Lib.hid (leastIso S S2 a n c xss a1 n1 c1 yss a0 w h hn h1 hn1 hg hg1 hE)
  have hDl := World.block_lt_of_cell? w _ d0
  have HD := Lib.hid (⟨d0, d1, hDl⟩ : _ ∧ _ ∧ D < w.heap.size)
  generalize (fiL S xss S2 yss).isEmpty = r at HR ⊢
  generalize (fiL S xss S2 yss).headD [] = xs at HR ⊢
  clear h hn h1 hn1 hg hg1 hE d0 d1 hDl
  go_enter Tryd.func35, Tryd.ntmps35
  go_wp2_with fail
  refine HR.out.mono ?_
  rintro e w1 ⟨b1, ⟨hr, g, cg, rfl, ho⟩ | ⟨hr, rfl⟩⟩
  · obtain ⟨d0, d1, hDl⟩ := HD.out
    have e0 := b1.keep d0
    have e1 := b1.keepf hDl d1
    have HF := Lib.hid (show FiY D S xs w (w1.setCell ⟨D, 0, none⟩ (.slice (some ⟨g, 0, none⟩) S cg)) from
      ⟨(b1.chg D (D + 1)).setCell (p := ⟨D, 0, none⟩) ⟨Nat.le_refl _, Nat.lt_succ_self _⟩ _, g, cg, World.cell?_setCell_same w1 ⟨D, 0, none⟩ _ e0, by
        rw [World.size_setCell]
        exact ho.chg ((Chg.refl D (D + 1) w1).setCell (p := ⟨D, 0, none⟩) ⟨Nat.le_refl _, Nat.lt_succ_self _⟩ _) (.inr hDl)⟩)
    clear b1 d0 d1 ho
    go_wp2
    refine bodyPost_end (results_none rfl _ _ _) rfl ?_
    exact .inl ⟨hr, rfl, HF.out⟩
  · go_wp2
    exact ⟨rfl, .inr ⟨hr, rfl, b1⟩⟩

set_option maxHeartbeats 1600000 in
theorem doorFi {lo hi lo1 hi1 : Nat} (S S2 : Nat) (a : Option Addr) (n c : Nat) (xss : List (List Int)) (a1 : Option Addr) (n1 c1 : Nat) (yss : List (List Int)) (a0 : Addr) (G G2 D : Nat) (y : Value) (w : World) (h : RdR lo hi w (.slice a n c) xss) (hn : xss.length = n) (h1 : RdR lo1 hi1 w (.slice a1 n1 c1) yss) (hn1 : yss.length = n1) (hg : grB (S : Int) xss = true) (hg1 : grB (S2 : Int) yss = true)
    (hE : w.cell? ⟨0, 0, none⟩ = some (.iface 165 (.pointer (some a0))))
    (g0 : w.cell? ⟨G, 0, none⟩ = some (.int .i64 (S : Int))) (g1 : w.cell? ⟨G, 1, none⟩ = some (.slice a n c)) (g2 : w.cell? ⟨G2, 0, none⟩ = some (.int .i64 (S2 : Int))) (g3 : w.cell? ⟨G2, 1, none⟩ = some (.slice a1 n1 c1)) (d0 : w.cell? ⟨D, 0, none⟩ = some y) (d1 : w.frozen? ⟨D, 0, none⟩ = false) :
    Calls Tryd.prog 34 #[.func (.func 35) #[] #[.pointer (some ⟨G, 0, none⟩), .pointer (some ⟨G2, 0, none⟩), .pointer (some ⟨D, 0, none⟩)]] w fun e w' => ((fiL S xss S2 yss).isEmpty = false ∧ e = .returned .nilIface ∧ FiY D S ((fiL S xss S2 yss).headD []) w w') ∨ ((fiL S xss S2 yss).isEmpty = true ∧ e = .returned (.iface 165 (.pointer (some a0))) ∧ Below w.heap.size w w') := by
  have hmf : ∀ (fn : Fn) (first cap : Array Value) (w : World), (Instr.makeFunc fn first cap).run Tryd.prog w = .ok (.func fn first cap) w := fun _ _ _ _ => rfl
  have hDl := World.block_lt_of_cell? w _ d0
  have hb0 : ∀ o, Below w.heap.size w (w.alloc o) := fun o => (Below.refl _ _).alloc (Nat.le_refl _) o
  have HR := Lib.hid (fun W (hB : Below w.heap.size w W) => findClo S S2 a n c xss a1 n1 c1 yss a0 G G2 D y W (h.below hB) hn (h1.below hB) hn1 hg hg1 (hB.keep hE) (hB.keep g0) (hB.keep g1) (hB.keep g2) (hB.keep g3) (hB.keep d0) (hB.keepf hDl d1))
  generalize (fiL S xss S2 yss).isEmpty = r at HR ⊢
  generalize (fiL S xss S2 yss).headD [] = xs at HR ⊢
  clear h hn h1 hn1 hg hg1 hE g0 g1 g2 g3 d0 d1
  go_enter_defers Tryd.func34, Tryd.ntmps34
  have c0 : (w.alloc (.cells #[.nilIface] 56)).cell? ⟨w.heap.size, 0, none⟩ = some .nilIface := by go_simp
  have c1 : (w.alloc (.cells #[.nilIface] 56)).frozen? ⟨w.heap.size, 0, none⟩ = false := by go_simp
  have hsz : (w.alloc (.cells #[.nilIface] 56)).heap.size = w.heap.size + 1 := by simp
  go_wp2_with fail
  refine (HR.out _ (hb0 _)).mono ?_
  rintro e w1 (⟨hr, rfl, hch, g, cg, hcd, ho⟩ | ⟨hr, rfl, b1⟩)
  · have e0 := hch.cell c0 (show w.heap.size < D ∨ D + 1 ≤ w.heap.size by omega)
    have e1 := hch.frozen (p := ⟨w.heap.size, 0, none⟩) (by show w.heap.size < _; omega) (show w.heap.size < D ∨ D + 1 ≤ w.heap.size by omega) c1
    have HF := Lib.hid (show FiY D S xs w (w1.setCell ⟨w.heap.size, 0, none⟩ .nilIface) from
      ⟨chg_setNew (((hb0 _).chg D (D + 1)).trans hch) (Nat.le_refl _) _, g, cg, by rw [World.cell?_setCell_other _ _ _ _ (by first | (simp; omega) | simp)]; exact hcd, by
        rw [World.size_setCell]
        exact (ho.chg ((Chg.refl w.heap.size (w.heap.size + 1) w1).setCell (p := ⟨w.heap.size, 0, none⟩) ⟨Nat.le_refl _, Nat.lt_succ_self _⟩ _) (.inr (by omega))).mono (by omega) (Nat.le_refl _)⟩)
    have e2 : (w1.setCell ⟨w.heap.size, 0, none⟩ .nilIface).cell? ⟨w.heap.size, 0, none⟩ = some .nilIface := World.cell?_setCell_same _ _ _ e0
    clear hch hcd c0 c1 hb0 ho
    go_wp2
    refine leaves_cons (f := 54) (args := #[.pointer (some ⟨w.heap.size, 0, none⟩)]) (by simp) (by simp [go_sem]) ?_
    refine (catchI ⟨w.heap.size, 0, none⟩ _).mono ?_
    rintro e u' w'' ⟨rfl, rfl, rfl⟩
    simp [Leaves, settle, results, Tryd.results34, go_sem, e2]
    first
      | exact ⟨hr, HF.out⟩
      | exact .inl ⟨hr, HF.out⟩
  · have e0 := b1.keep c0
    have e1 := b1.keepf (p := ⟨w.heap.size, 0, none⟩) (by show w.heap.size < _; omega) c1
    have e2 : (w1.setCell ⟨w.heap.size, 0, none⟩ (.iface 165 (.pointer (some a0)))).cell? ⟨w.heap.size, 0, none⟩ = some (.iface 165 (.pointer (some a0))) := World.cell?_setCell_same _ _ _ e0
    have HF := Lib.hid (show Below w.heap.size w (w1.setCell ⟨w.heap.size, 0, none⟩ (.iface 165 (.pointer (some a0)))) from ((hb0 _).next b1).setCell (p := ⟨w.heap.size, 0, none⟩) (Nat.le_refl _) _)
    clear b1 c0 c1 hb0
    go_wp2
    refine leaves_cons (f := 54) (args := #[.pointer (some ⟨w.heap.size, 0, none⟩)]) (by simp) (by simp [go_sem]) ?_
    refine (catchP ⟨w.heap.size, 0, none⟩ _ _ [] _ e0 e1).mono ?_
    rintro e u' w'' ⟨rfl, rfl, rfl⟩
    simp [Leaves, settle, results, Tryd.results34, go_sem, e2]
    first
      | exact ⟨hr, HF.out⟩
      | exact .inr ⟨hr, HF.out⟩
end Go.Proofs.YtnblhkhdilkbeaaDoor

/- FindIsomorphism and AreIsomorphic of the program: the whole. -/
set_option maxRecDepth 100000
namespace Go.Proofs.YtnblhkhdilkbeaaDoor
open Go Go.RowKit

theorem fiL_head_len {S : Nat} {xss yss : List (List Int)} {S2 : Nat} (h : (fiL (S : Int) xss (S2 : Int) yss).isEmpty = false) : ((fiL (S : Int) xss (S2 : Int) yss).headD []).length = S := by
  unfold fiL at h ⊢
  by_cases e : (S : Int) = (S2 : Int)
  · rw [if_pos e, Int.toNat_natCast] at h ⊢
    generalize hL : isoL S (adF xss) (adF yss) S [] = L at h ⊢
    cases L with
    | nil => cases h
    | cons x l => exact (isoL_ent S 0 [] ⟨rfl, fun i hi => by omega⟩ (by omega) x (by rw [hL]; exact List.mem_cons_self ..)).1
  · rw [if_neg e] at h; cases h

set_option maxHeartbeats 1600000 in
theorem implFi {lo hi lo1 hi1 : Nat} (s : Int) (a : Option Addr) (n c : Nat) (xss : List (List Int)) (t : Int) (a1 : Option Addr) (n1 c1 : Nat) (yss : List (List Int)) (w : World) (h : RdR lo hi w (.slice a n c) xss) (hn : xss.length = n) (h1 : RdR lo1 hi1 w (.slice a1 n1 c1) yss) (hn1 : yss.length = n1) (a0 : Addr) (hE : w.cell? ⟨0, 0, none⟩ = some (.iface 165 (.pointer (some a0)))) :
    Calls Tryd.prog 15 #[.agg #[.int .i64 s, .slice a n c], .agg #[.int .i64 t, .slice a1 n1 c1]] w fun e w' => ∃ a' c', e = .returned (.tuple #[.slice a' (fiOf s xss t yss).1.length c', .int .i64 (fiOf s xss t yss).2]) ∧ OwI w.heap.size w'.heap.size w' (.slice a' (fiOf s xss t yss).1.length c') (fiOf s xss t yss).1 ∧ Below w.heap.size w w' := by
  have hb0 : ∀ o o', Below w.heap.size w ((w.alloc o).alloc o') := fun o o' => ((Below.refl _ _).alloc (Nat.le_refl _) o).alloc (by simp) o'
  have HI := Lib.hid (fun W (hB : Below w.heap.size w W) => implIsGraph s a n c xss W (h.below hB) hn)
  have HJ := Lib.hid (fun W (hB : Below w.heap.size w W) => implIsGraph t a1 n1 c1 yss W (h1.below hB) hn1)
  have HD := Lib.hid (fun (S S2 : Nat) (es : s = (S : Int)) (et : t = (S2 : Int)) (hg : grB s xss = true) (hg1 : grB t yss = true) (G G2 D : Nat) (y : Value) W (hB : Below w.heap.size w W) g0 g1 g2 g3 d0 d1 => doorFi S S2 a n c xss a1 n1 c1 yss a0 G G2 D y W (h.below hB) hn (h1.below hB) hn1 (es ▸ hg) (et ▸ hg1) (hB.keep hE) g0 g1 g2 g3 d0 d1)
  obtain ⟨P, hP⟩ : ∃ P, P = fiOf s xss t yss := ⟨_, rfl⟩
  have HP1 := Lib.hid (fun hg => hP.trans (fiOf_no1 (t := t) (yss := yss) hg))
  have HP2 := Lib.hid (fun hg => hP.trans (fiOf_no2 (s := s) (xss := xss) hg))
  have HP3 := Lib.hid (fun (S S2 : Nat) (es : s = (S : Int)) (et : t = (S2 : Int)) hg hg1 => show P = if (fiL S xss S2 yss).isEmpty then ([], 4) else ((fiL S xss S2 yss).headD [], 0) by rw [← es, ← et]; exact hP.trans (fiOf_yes hg hg1))
  have HP4 := Lib.hid (fun (S S2 : Nat) => @fiL_head_len S xss yss S2)
  rw [← hP]
  have HNN := Lib.hid (fun (hg : grB s xss = true) => show ∃ S : Nat, s = (S : Int) from ⟨s.toNat, by have := grB_iff hg; omega⟩)
  have HNM := Lib.hid (fun (hg : grB t yss = true) => show ∃ S : Nat, t = (S : Int) from ⟨t.toNat, by have := grB_iff hg; omega⟩)
  clear h hn h1 hn1 hE hP
  have hmf : ∀ (fn : Fn) (first cap : Array Value) (w : World), (Instr.makeFunc fn first cap).run Tryd.prog w = .ok (.func fn first cap) w := fun _ _ _ _ => rfl
  go_enter Tryd.func15, Tryd.ntmps15
  go_wp2_with fail
  refine calls_gen (fun W => (Below w.heap.size w W ∧ w.heap.size + 1 < W.heap.size) ∧ W.cell? ⟨w.heap.size, 0, none⟩ = some (.int .i64 s) ∧ W.cell? ⟨w.heap.size, 1, none⟩ = some (.slice a n c) ∧ W.cell? ⟨w.heap.size + 1, 0, none⟩ = some (.int .i64 t) ∧ W.cell? ⟨w.heap.size + 1, 1, none⟩ = some (.slice a1 n1 c1)) ⟨⟨hb0 _ _, by simp⟩, by go_simp, by go_simp, by go_simp, by go_simp⟩ ?_
  rintro W ⟨⟨hB, hz⟩, k0, k1, j0, j1⟩
  refine (HI.out W hB).mono ?_
  cases hg : grB s xss with
  | false =>
    rintro e w1 ⟨rfl, b1⟩
    have HF := Lib.hid (⟨hB.next b1, HP1.out hg⟩ : _ ∧ _)
    clear b1 hB k0 k1 j0 j1 hg
    go_wp2
    go_ret2
    rw [HF.out.2]
    exact ⟨none, 0, rfl, OwI.nil' _ _ _, HF.out.1⟩
  | true =>
    rintro e w1 ⟨rfl, b1⟩
    replace k0 := b1.keep k0
    replace k1 := b1.keep k1
    replace j0 := b1.keep j0
    replace j1 := b1.keep j1
    replace hB := hB.next b1
    replace hz := Nat.lt_of_lt_of_le hz b1.size
    clear b1
    go_wp2_with fail
    refine (HJ.out w1 hB).mono ?_
    cases hg2 : grB t yss with
    | false =>
      rintro e w2 ⟨rfl, b2⟩
      have HF := Lib.hid (⟨hB.next b2, HP2.out hg2⟩ : _ ∧ _)
      clear b2 hB k0 k1 j0 j1 hg hg2
      go_wp2
      go_ret2
      rw [HF.out.2]
      exact ⟨none, 0, rfl, OwI.nil' _ _ _, HF.out.1⟩
    | true =>
      rintro e w2 ⟨rfl, b2⟩
      replace k0 := b2.keep k0
      replace k1 := b2.keep k1
      replace j0 := b2.keep j0
      replace j1 := b2.keep j1
      replace hz := Nat.lt_of_lt_of_le hz b2.size
      have hB2 := hB.next b2
      obtain ⟨S, es⟩ := HNN.out hg
      obtain ⟨S2, et⟩ := HNM.out hg2
      have HP3' := Lib.hid (HP3.out S S2 es et hg hg2)
      have HD' := Lib.hid (HD.out S S2 es et hg hg2)
      have HP4' := Lib.hid (HP4.out S S2)
      subst es
      subst et
      generalize (fiL S xss S2 yss).isEmpty = r at HD' HP3' HP4'
      generalize (fiL S xss S2 yss).headD [] = xs at HD' HP3' HP4'
      have hA : ∀ o, Below w2.heap.size w2 (w2.alloc o) := fun o => (Below.refl _ _).alloc (Nat.le_refl _) o
      clear b2 hB HI HJ HP1 HP2 HP3 HNN HNM HD HP4 hg hg2
      go_wp2_with fail
      refine calls_gen (fun W2 => (Below w.heap.size w W2 ∧ w2.heap.size < W2.heap.size) ∧ (W2.cell? ⟨w.heap.size, 0, none⟩ = some (.int .i64 (S : Int)) ∧ W2.cell? ⟨w.heap.size, 1, none⟩ = some (.slice a n c) ∧ W2.cell? ⟨w.heap.size + 1, 0, none⟩ = some (.int .i64 (S2 : Int)) ∧ W2.cell? ⟨w.heap.size + 1, 1, none⟩ = some (.slice a1 n1 c1)) ∧ W2.cell? ⟨w2.heap.size, 0, none⟩ = some (.slice none 0 0) ∧ W2.frozen? ⟨w2.heap.size, 0, none⟩ = false) ⟨⟨hB2.next (hA _), by simp⟩, ⟨(hA _).keep k0, (hA _).keep k1, (hA _).keep j0, (hA _).keep j1⟩, by go_simp, by go_simp⟩ ?_
      rintro W2 ⟨⟨hB3, hz2⟩, ⟨g0, g1, g2, g3⟩, d0, d1⟩
      have hB2s := hB2.size
      refine (HD'.out _ _ _ _ W2 hB3 g0 g1 g2 g3 d0 d1).mono ?_
      rintro e w3 (⟨hr, rfl, hch, g, cg, hcd, ho⟩ | ⟨hr, rfl, b3⟩)
      · have hxl : xs.length = S := HP4'.out hr
        have HF := Lib.hid (⟨hB3.chgn hch (by omega) hB3.size, ho.mono hB3.size (Nat.le_refl _)⟩ : _ ∧ _)
        have HRE := Lib.hid (show P = (xs, 0) by rw [HP3'.out, hr]; rfl)
        clear hch hB2 hB3 g0 g1 g2 g3 d0 d1 k0 k1 j0 j1 hA HD' ho
        go_wp2
        go_ret2
        rw [HRE.out]
        dsimp only
        rw [hxl]
        exact ⟨_, _, rfl, HF.out.2, HF.out.1⟩
      · have HF := Lib.hid (hB3.next b3)
        have HRE := Lib.hid (show P = ([], 4) by rw [HP3'.out, hr]; rfl)
        clear b3 hB2 hB3 g0 g1 g2 g3 d0 d1 k0 k1 j0 j1 hA HD'
        go_wp2
        go_ret2
        rw [HRE.out]
        exact ⟨none, 0, rfl, OwI.nil' _ _ _, HF.out⟩

set_option maxHeartbeats 1600000 in
theorem implAi {lo hi lo1 hi1 : Nat} (s : Int) (a : Option Addr) (n c : Nat) (xss : List (List Int)) (t : Int) (a1 : Option Addr) (n1 c1 : Nat) (yss : List (List Int)) (w : World) (h : RdR lo hi w (.slice a n c) xss) (hn : xss.length = n) (h1 : RdR lo1 hi1 w (.slice a1 n1 c1) yss) (hn1 : yss.length = n1) (a0 : Addr) (hE : w.cell? ⟨0, 0, none⟩ = some (.iface 165 (.pointer (some a0)))) :
    Calls Tryd.prog 22 #[.agg #[.int .i64 s, .slice a n c], .agg #[.int .i64 t, .slice a1 n1 c1]] w fun e w' => e = .returned (.tuple #[.bool (aiOf s xss t yss).1, .int .i64 (aiOf s xss t yss).2]) ∧ Below w.heap.size w w' := by
  have hb0 : ∀ o o', Below w.heap.size w ((w.alloc o).alloc o') := fun o o' => ((Below.refl _ _).alloc (Nat.le_refl _) o).alloc (by simp) o'
  have HF := Lib.hid (fun W (hB : Below w.heap.size w W) => implFi s a n c xss t a1 n1 c1 yss W (h.below hB) hn (h1.below hB) hn1 a0 (hB.keep hE))
  have HP : aiOf s xss t yss = if (fiOf s xss t yss).2 = 1 then (false, 1) else (decide ((fiOf s xss t yss).2 = 0), 0) := rfl
  generalize aiOf s xss t yss = P at HP ⊢
  generalize fiOf s xss t yss = Q at HF HP
  obtain ⟨ql, qc⟩ := Q
  dsimp only at HF HP
  have HPP := Lib.hid HP
  clear h hn h1 hn1 hE HP
  go_enter Tryd.func22, Tryd.ntmps22
  go_wp2_with fail
  refine calls_gen (fun W => Below w.heap.size w W) (hb0 _ _) ?_
  rintro W hB
  refine (HF.out W hB).mono ?_
  rintro e w1 ⟨a', c', rfl, _, b1⟩
  replace hB := hB.next b1
  clear b1 HF
  by_cases e1 : qc = 1
  · have hq : (qc == 1) = true := by simp [e1]
    have HR := Lib.hid (show P = (false, qc) by rw [HPP.out, if_pos e1, e1])
    clear HPP e1
    go_wp2
    go_ret2
    rw [HR.out]
    exact ⟨rfl, hB⟩
  · have hq : (qc == 1) = false := by simp [e1]
    have HR := Lib.hid (show P = (qc == 0, 0) by rw [HPP.out, if_neg e1]; rfl)
    clear HPP e1
    go_wp2
    go_ret2
    rw [HR.out]
    exact ⟨rfl, hB⟩
end Go.Proofs.YtnblhkhdilkbeaaDoor
