/- RegularDegree of the program: a panic through the door. -/
import Derived.Test.YtnblhkhdilkbeaaDoorRgS
import Derived.Test.YtnblhkhdilkbeaaDoorCoreB
import Derived.Recover
import Derived.Defers
import Derived.WalkLawsBesides
import Derived.Laws.Pointers
set_option linter.unusedSimpArgs false
set_option linter.unusedVariables false
set_option maxRecDepth 100000
namespace Go.Proofs.YtnblhkhdilkbeaaDoor
open Go.RowKit

theorem ta_err (x : Value) (w : World) : Sem.run Tryd.prog (Instr.typeAssert (.iface 165 x) 20 56 true) w = .ok (.tuple #[.iface 165 x, .bool true]) w := by kernel_rfl
theorem ta_nil (w : World) : Sem.run Tryd.prog (Instr.typeAssert .nilIface 20 56 true) w = .ok (.tuple #[.nilIface, .bool false]) w := by kernel_rfl

theorem catchP (p : Addr) (x : Value) (pv : Value) (older : List PanicEntry) (w : World) (hc : w.cell? p = some x) (hz : w.frozen? p = false) :
    CallsD Tryd.prog 54 #[.pointer (some p)] (.panicking ({ v := .iface 165 pv, recovered := false } :: older)) w fun e u' w' =>
      e = .returned (.tuple #[]) ∧ u' = .panicking ({ v := .iface 165 pv, recovered := true } :: older) ∧ w' = w.setCell p (.iface 165 pv) := by
  have hta := ta_err pv
  refine callsD_of_wpS Tryd.func54 rfl fun c₀ cs hu => ?_
  apply wpS_seq
  apply wpS_region
  simp [wpOpsS, go_sem, recoverD, hu, Tryd.ntmps54, Exit.thenS, hta]
  apply wpS_seq
  apply wpS_region
  simp [wpOpsS, go_sem, Exit.thenS]
  refine wpS_cond (t := true) (by simp [Act.eval, Array.replicate]) ?_
  simp only [if_true]
  apply wpS_region
  simp [wpOpsS, go_sem, hc, hz, bodyPostS, results, Tryd.results54]
theorem catchI (p : Addr) (w : World) :
    CallsD Tryd.prog 54 #[.pointer (some p)] .returning w fun e u' w' => e = .returned (.tuple #[]) ∧ u' = .returning ∧ w' = w := by
  have hta := ta_nil
  refine callsD_of_wpS Tryd.func54 rfl fun c₀ cs hu => ?_
  apply wpS_seq
  apply wpS_region
  simp [wpOpsS, go_sem, recoverD, hu, Tryd.ntmps54, Exit.thenS, hta]
  apply wpS_seq
  apply wpS_region
  simp [wpOpsS, go_sem, Exit.thenS]
  refine wpS_cond (t := false) (by simp [Act.eval, Array.replicate]) ?_
  simp only [Bool.false_eq_true, if_false]
  refine wpS_of_wp (wp_skip ?_)
  cases c₀
  simp_all [bodyPostS, results, Tryd.results54]

theorem rdI_at {lo hi : Nat} {w : World} {a : Option Addr} {n c : Nat} {xs : List Int} (h : RdI lo hi w (.slice a n c) xs) (hn : xs.length = n) : ∀ j, j < n → ∃ b off, a = some ⟨b, off, none⟩ ∧ w.cell? ⟨b, off + j, none⟩ = some (.int .i64 (xs.getD j 0)) := by
  intro j hj
  obtain ⟨_, _, ⟨a', c', rfl, _⟩ | ⟨b, off, c', hv, _, _, _, hc⟩⟩ := h
  · simp at hn; omega
  · simp only [Value.slice.injEq] at hv
    exact ⟨b, off, hv.1, hc j (by omega)⟩
theorem chg_setNew {lo hi : Nat} {a w : World} (h : Chg lo hi a w) {p : Addr} (hp : a.heap.size ≤ p.block) (u : Value) : Chg lo hi a (w.setCell p u) :=
  ⟨h.os, h.tape, h.output, by have := h.size; simpa [World.setCell] using this, fun k hk h' => (Below.heap_setCell _ _ _ _ (by omega)).trans (h.block k hk h')⟩
/-- the sentinel, as a package's variable holds it -/
def snt (a0 : Addr) : Value := .iface 165 (.pointer (some a0))
set_option maxHeartbeats 1600000 in
theorem regularDeg {lo hi : Nat} (S : Nat) (a : Option Addr) (n c : Nat) (xss : List (List Int)) (a0 : Addr) (w : World) (h : RdR lo hi w (.slice a n c) xss) (hn : xss.length = n) (hg : grB (S : Int) xss = true) (hE : w.cell? ⟨1, 0, none⟩ = some (.iface 165 (.pointer (some a0)))) :
    Calls Tryd.prog 41 #[.agg #[.int .i64 (S : Int), .slice a n c]] w fun e w' => (rgK xss S = true ∧ e = .returned (.int .i64 (deg xss 0)) ∨ rgK xss S = false ∧ e = .panicked [{ v := .iface 165 (.pointer (some a0)), recovered := false }]) ∧ Below w.heap.size w w' := by
  have hb0 : ∀ o, Below w.heap.size w (w.alloc o) := fun o => (Below.refl _ _).alloc (Nat.le_refl _) o
  have hg4 := grB_iff hg
  have hS1 : 1 ≤ S := by omega
  have hS8 : S ≤ 8 := by omega
  have hDe := @implDegrees lo hi (S : Int) a n c xss
  have ede : degreesOf (S : Int) xss = (degs (S : Int) xss, 0) := by unfold degreesOf; rw [if_pos hg]
  rw [ede] at hDe
  have HD := Lib.hid (fun W (hB : Below w.heap.size w W) => hDe W (h.below hB) hn)
  have hdl : (degs (S : Int) xss).length = S := by simp [degs]
  have hdg : ∀ k, k < S → (degs (S : Int) xss).getD k 0 = deg xss (k : Int) := fun k hk => by simp [degs, List.getD, hk]
  have HST := Lib.hid (rgK_step xss)
  have HNO := Lib.hid (fun k (hk : k < S) (hne : deg xss (k : Int) ≠ deg xss 0) => rgK_no (S := S) hk hne)
  have HY := Lib.hid (show rgK xss 0 = true by simp [rgK])
  generalize hR : rgK xss = R at HST HNO HY ⊢
  clear hR
  generalize degs (S : Int) xss = ds at HD hdl hdg
  generalize deg xss = dg at hdg HST HNO ⊢
  have HDG := Lib.hid hdg
  have HDL := Lib.hid hdl
  have HE := Lib.hid (fun W (hB : Below w.heap.size w W) => (hB.keep hE : W.cell? ⟨1, 0, none⟩ = some (.iface 165 (.pointer (some a0)))))
  clear h hn hg hg4 hDe ede hdg hE
  go_enter Tryd.func41, Tryd.ntmps41
  go_wp2_with fail
  refine calls_gen (fun W => Below w.heap.size w W ∧ w.heap.size < W.heap.size ∧ W.cell? ⟨w.heap.size, 0, none⟩ = some (.int .i64 (S : Int)) ∧ W.cell? ⟨w.heap.size, 1, none⟩ = some (.slice a n c)) ⟨hb0 _, by simp, by go_simp, by go_simp⟩ ?_
  rintro W ⟨hB, hz, k0, k1⟩
  refine (HD.out W hB).mono ?_
  rintro e w1 ⟨a3, c3, rfl, o3, b3⟩
  have HB1 := Lib.hid (hB.next b3)
  have hdl2 := HDL.out
  rw [hdl2] at o3 ⊢
  obtain ⟨b, off, rfl, q0⟩ := rdI_at o3.rd HDL.out 0 (by omega)
  have HO := Lib.hid (o3.rd)
  rw [HDG.out 0 (by omega), show ((0 : Nat) : Int) = 0 from rfl] at q0
  clear o3 b3 hB k0 k1 hdl2 hdl HD
  have hS0 : (0 : Int) < (S : Int) := by omega
  go_wp2
  go_loopw [14] (fun i wr => ∃ k : Nat, k ≤ S ∧ i = .int .i64 k ∧ Hid (R k = true) ∧ wr = w1) (fun i _ => S - (intOf i).toNat)
  case atStart => exact ⟨0, Nat.zero_le _, rfl, HY, rfl⟩
  case round =>
    rename_i hrel
    obtain ⟨k, hk, rfl, HR, rfl⟩ := hrel
    by_cases hlt : k < S
    · have hkI : (k : Int) < (S : Int) := by omega
      have hk0 : (0 : Int) ≤ (k : Int) := by omega
      obtain ⟨b', off', hbe, q1⟩ := rdI_at HO.out HDL.out k hlt
      simp only [Option.some.injEq, Addr.mk.injEq, and_true] at hbe
      obtain ⟨rfl, rfl⟩ := hbe
      rw [HDG.out k hlt] at q1
      rw [Nat.add_zero] at q0
      by_cases he : dg (k : Int) = dg 0
      · have hb : (dg (k : Int) != dg 0) = false := by simpa using he
        have HR2 := Lib.hid (show R (k + 1) = true by rw [HST.out, HR.out, he]; simp)
        go_wp2
        go_roundw
        case rel => exact ⟨k+1, by omega, by go_num, HR2, by first | rfl | trivial⟩
        case measure => simp [intOf]; omega
      · have hb : (dg (k : Int) != dg 0) = true := by simpa using he
        have HRF := Lib.hid (HNO.out k hlt he)
        have g1 := HE.out wr HB1.out
        clear he
        go_wp2
        exact ⟨rfl, .inr ⟨HRF.out, rfl⟩, HB1.out⟩
    · obtain rfl : k = S := by omega
      have hkI : ¬ (k : Int) < (k : Int) := by omega
      rw [Nat.add_zero] at q0
      go_wp2
      go_ret
      exact ⟨.inl ⟨HR.out, rfl⟩, HB1.out⟩

set_option maxHeartbeats 1600000 in
theorem regClo {lo hi : Nat} (S : Nat) (a : Option Addr) (n c : Nat) (xss : List (List Int)) (a0 : Addr) (G D : Nat) (y : Value) (w : World) (h : RdR lo hi w (.slice a n c) xss) (hn : xss.length = n) (hg : grB (S : Int) xss = true) (hE : w.cell? ⟨1, 0, none⟩ = some (.iface 165 (.pointer (some a0))))
    (g0 : w.cell? ⟨G, 0, none⟩ = some (.int .i64 (S : Int))) (g1 : w.cell? ⟨G, 1, none⟩ = some (.slice a n c)) (d0 : w.cell? ⟨D, 0, none⟩ = some y) (d1 : w.frozen? ⟨D, 0, none⟩ = false) :
    Calls Tryd.prog 40 #[.pointer (some ⟨G, 0, none⟩), .pointer (some ⟨D, 0, none⟩)] w fun e w' => (rgK xss S = true ∧ e = .returned (.tuple #[]) ∧ Chg D (D + 1) w w' ∧ w'.cell? ⟨D, 0, none⟩ = some (.int .i64 (deg xss 0))) ∨ (rgK xss S = false ∧ e = .panicked [{ v := .iface 165 (.pointer (some a0)), recovered := false }] ∧ Below w.heap.size w w') := by
  have HR := Lib.hid (regularDeg S a n c xss a0 w h hn hg hE)
  have hDl := World.block_lt_of_cell? w _ d0
  have HD := Lib.hid (⟨d0, d1, hDl⟩ : _ ∧ _ ∧ D < w.heap.size)
  generalize rgK xss S = r at HR ⊢
  generalize deg xss 0 = dg at HR ⊢
  clear h hn hg hE d0 d1 hDl
  go_enter Tryd.func40, Tryd.ntmps40
  go_wp2_with fail
  refine HR.out.mono ?_
  rintro e w1 ⟨⟨hr, rfl⟩ | ⟨hr, rfl⟩, b1⟩
  · obtain ⟨d0, d1, hDl⟩ := HD.out
    have e0 := b1.keep d0
    have e1 := b1.keepf hDl d1
    have hch : Chg D (D + 1) w (w1.setCell ⟨D, 0, none⟩ (.int .i64 dg)) := (b1.chg D (D + 1)).setCell (p := ⟨D, 0, none⟩) ⟨Nat.le_refl _, Nat.lt_succ_self _⟩ _
    have hce := World.cell?_setCell_same w1 ⟨D, 0, none⟩ (.int .i64 dg) e0
    clear b1 d0 d1
    go_wp2
    refine bodyPost_end (results_none rfl _ _ _) rfl ?_
    exact .inl ⟨hr, rfl, hch, hce⟩
  · go_wp2
    exact ⟨rfl, .inr ⟨hr, rfl, b1⟩⟩

set_option maxHeartbeats 1600000 in
theorem doorYes {lo hi : Nat} (S : Nat) (a : Option Addr) (n c : Nat) (xss : List (List Int)) (a0 : Addr) (G D : Nat) (y : Value) (w : World) (h : RdR lo hi w (.slice a n c) xss) (hn : xss.length = n) (hg : grB (S : Int) xss = true) (hE : w.cell? ⟨1, 0, none⟩ = some (.iface 165 (.pointer (some a0))))
    (g0 : w.cell? ⟨G, 0, none⟩ = some (.int .i64 (S : Int))) (g1 : w.cell? ⟨G, 1, none⟩ = some (.slice a n c)) (d0 : w.cell? ⟨D, 0, none⟩ = some y) (d1 : w.frozen? ⟨D, 0, none⟩ = false) :
    Calls Tryd.prog 34 #[.func (.func 40) #[] #[.pointer (some ⟨G, 0, none⟩), .pointer (some ⟨D, 0, none⟩)]] w fun e w' => (rgK xss S = true ∧ e = .returned .nilIface ∧ Chg D (D + 1) w w' ∧ w'.cell? ⟨D, 0, none⟩ = some (.int .i64 (deg xss 0))) ∨ (rgK xss S = false ∧ e = .returned (.iface 165 (.pointer (some a0))) ∧ Below w.heap.size w w') := by
  have hmf : ∀ (fn : Fn) (first cap : Array Value) (w : World), (Instr.makeFunc fn first cap).run Tryd.prog w = .ok (.func fn first cap) w := fun _ _ _ _ => rfl
  have hDl := World.block_lt_of_cell? w _ d0
  have hb0 : ∀ o, Below w.heap.size w (w.alloc o) := fun o => (Below.refl _ _).alloc (Nat.le_refl _) o
  have HR := Lib.hid (fun W (hB : Below w.heap.size w W) => regClo S a n c xss a0 G D y W (h.below hB) hn hg (hB.keep hE) (hB.keep g0) (hB.keep g1) (hB.keep d0) (hB.keepf hDl d1))
  generalize rgK xss S = r at HR ⊢
  generalize deg xss 0 = dg at HR ⊢
  clear h hn hg hE g0 g1 d0 d1
  go_enter_defers Tryd.func34, Tryd.ntmps34
  have c0 : (w.alloc (.cells #[.nilIface] 56)).cell? ⟨w.heap.size, 0, none⟩ = some .nilIface := by go_simp
  have c1 : (w.alloc (.cells #[.nilIface] 56)).frozen? ⟨w.heap.size, 0, none⟩ = false := by go_simp
  have hsz : (w.alloc (.cells #[.nilIface] 56)).heap.size = w.heap.size + 1 := by simp
  go_wp2_with fail
  refine (HR.out _ (hb0 _)).mono ?_
  rintro e w1 (⟨hr, rfl, hch, hcd⟩ | ⟨hr, rfl, b1⟩)
  · have e0 := hch.cell c0 (show w.heap.size < D ∨ D + 1 ≤ w.heap.size by omega)
    have e1 := hch.frozen (p := ⟨w.heap.size, 0, none⟩) (by show w.heap.size < _; omega) (show w.heap.size < D ∨ D + 1 ≤ w.heap.size by omega) c1
    have HF := Lib.hid (show Chg D (D + 1) w (w1.setCell ⟨w.heap.size, 0, none⟩ .nilIface) ∧ (w1.setCell ⟨w.heap.size, 0, none⟩ .nilIface).cell? ⟨D, 0, none⟩ = some (.int .i64 dg) from
      ⟨chg_setNew (((hb0 _).chg D (D + 1)).trans hch) (Nat.le_refl _) _, by rw [World.cell?_setCell_other _ _ _ _ (by first | (simp; omega) | simp)]; exact hcd⟩)
    have e2 : (w1.setCell ⟨w.heap.size, 0, none⟩ .nilIface).cell? ⟨w.heap.size, 0, none⟩ = some .nilIface := World.cell?_setCell_same _ _ _ e0
    have HCD := Lib.hid hcd
    clear hch hcd c0 c1 hb0
    go_wp2
    refine leaves_cons (f := 54) (args := #[.pointer (some ⟨w.heap.size, 0, none⟩)]) (by simp) (by simp [go_sem]) ?_
    refine (catchI ⟨w.heap.size, 0, none⟩ _).mono ?_
    rintro e u' w'' ⟨rfl, rfl, rfl⟩
    simp [Leaves, settle, results, Tryd.results34, go_sem, e2]
    first
      | exact ⟨hr, HF.out.1, HCD.out⟩
      | exact .inl ⟨hr, HF.out⟩
      | exact .inl ⟨hr, HF.out.1, HCD.out⟩
  · have e0 := b1.keep c0
    have e1 := b1.keepf (p := ⟨w.heap.size, 0, none⟩) (by show w.heap.size < _; omega) c1
    have e2 : (w1.setCell ⟨w.heap.size, 0, none⟩ (.iface 165 (.pointer (some a0)))).cell? ⟨w.heap.size, 0, none⟩ = some (.iface 165 (.pointer (some a0))) := World.cell?_setCell_same _ _ _ e0
    have HF := Lib.hid (show Below w.heap.size w (w1.setCell ⟨w.heap.size, 0, none⟩ (.iface 165 (.pointer (some a0)))) from ((hb0 _).next b1).setCell (p := ⟨w.heap.size, 0, none⟩) (Nat.le_refl _) _)
    clear b1 c0 c1 hb0
    go_wp2
    refine leaves_cons (f := 54) (args := #[.pointer (some ⟨w.heap.size, 0, none⟩)]) (by simp) (by simp [go_sem]) ?_
    refine (catchP ⟨w.heap.size, 0, none⟩ _ _ [] _ e0 e1).mono ?_
    rintro e u' w'' ⟨rfl, rfl, rfl⟩
    simp [Leaves, settle, results, Tryd.results34, go_sem, e2]
    first
      | exact ⟨hr, HF.out⟩
      | exact .inr ⟨hr, HF.out⟩

set_option maxHeartbeats 1600000 in
theorem implRd {lo hi : Nat} (s : Int) (a : Option Addr) (n c : Nat) (xss : List (List Int)) (w : World) (h : RdR lo hi w (.slice a n c) xss) (hn : xss.length = n) (a0 : Addr) (hE : w.cell? ⟨1, 0, none⟩ = some (.iface 165 (.pointer (some a0)))) :
    Calls Tryd.prog 24 #[.agg #[.int .i64 s, .slice a n c]] w fun e w' => e = .returned (.tuple #[.int .i64 (rdOf s xss).1, .int .i64 (rdOf s xss).2]) ∧ Below w.heap.size w w' := by
  have hb0 : ∀ o, Below w.heap.size w (w.alloc o) := fun o => (Below.refl _ _).alloc (Nat.le_refl _) o
  have HI := Lib.hid (fun W (hB : Below w.heap.size w W) => implIsGraph s a n c xss W (h.below hB) hn)
  cases hg : grB s xss with
  | false =>
    have e2 : rdOf s xss = (0, 1) := by unfold rdOf; rw [hg]; rfl
    rw [e2]
    rw [hg] at HI
    clear h hn hg e2 hE
    go_enter Tryd.func24, Tryd.ntmps24
    go_wp2_with fail
    refine calls_gen (fun W => Below w.heap.size w W) (hb0 _) ?_
    intro W hB
    refine (HI.out W hB).mono ?_
    rintro e w1 ⟨rfl, b1⟩
    replace hB := hB.next b1
    clear b1 HI
    go_wp2
    go_ret2
    exact ⟨rfl, hB⟩
  | true =>
    have hg4 := grB_iff hg
    obtain ⟨S, rfl⟩ : ∃ S : Nat, s = (S : Int) := ⟨s.toNat, by omega⟩
    have e2 : rdOf (S : Int) xss = if rgK xss S then (deg xss 0, 0) else (0, 4) := by unfold rdOf; rw [if_pos hg, Int.toNat_natCast]
    rw [hg] at HI
    have HD := Lib.hid (fun (G D : Nat) (y : Value) W (hB : Below w.heap.size w W) g0 g1 d0 d1 => doorYes S a n c xss a0 G D y W (h.below hB) hn hg (hB.keep hE) g0 g1 d0 d1)
    obtain ⟨R2, hR2⟩ : ∃ R2 : Int × Int, R2 = (if rgK xss S then (deg xss 0, 0) else (0, 4)) := ⟨_, rfl⟩
    rw [e2, ← hR2]
    have HR2 := Lib.hid hR2
    generalize deg xss 0 = dg at HD HR2
    generalize rgK xss S = r at HD HR2
    clear h hn hg hg4 e2 hR2 hE
    have hmf : ∀ (fn : Fn) (first cap : Array Value) (w : World), (Instr.makeFunc fn first cap).run Tryd.prog w = .ok (.func fn first cap) w := fun _ _ _ _ => rfl
    go_enter Tryd.func24, Tryd.ntmps24
    go_wp2_with fail
    refine calls_gen (fun W => Below w.heap.size w W ∧ w.heap.size < W.heap.size ∧ W.cell? ⟨w.heap.size, 0, none⟩ = some (.int .i64 (S : Int)) ∧ W.cell? ⟨w.heap.size, 1, none⟩ = some (.slice a n c)) ⟨hb0 _, by simp, by go_simp, by go_simp⟩ ?_
    rintro W ⟨hB, hz, k0, k1⟩
    refine (HI.out W hB).mono ?_
    rintro e w1 ⟨rfl, b1⟩
    replace hB := hB.next b1
    replace hz := Nat.lt_of_lt_of_le hz b1.size
    replace k0 := b1.keep k0
    replace k1 := b1.keep k1
    have hA : ∀ o, Below w1.heap.size w1 (w1.alloc o) := fun o => (Below.refl _ _).alloc (Nat.le_refl _) o
    clear b1 HI
    go_wp2_with fail
    refine calls_gen (fun W2 => (Below w.heap.size w W2 ∧ w1.heap.size < W2.heap.size) ∧ (W2.cell? ⟨w.heap.size, 0, none⟩ = some (.int .i64 (S : Int)) ∧ W2.cell? ⟨w.heap.size, 1, none⟩ = some (.slice a n c)) ∧ W2.cell? ⟨w1.heap.size, 0, none⟩ = some (.int .i64 0) ∧ W2.frozen? ⟨w1.heap.size, 0, none⟩ = false) ⟨⟨hB.next (hA _), by simp⟩, ⟨(hA _).keep k0, (hA _).keep k1⟩, by go_simp, by go_simp⟩ ?_
    rintro W2 ⟨⟨hB2, hz2⟩, ⟨g0, g1⟩, d0, d1⟩
    refine (HD.out _ _ _ W2 hB2 g0 g1 d0 d1).mono ?_
    rintro e w3 (⟨hr, rfl, hch, hcd⟩ | ⟨hr, rfl, b3⟩)
    · have HF := Lib.hid (hB2.chgn hch (Nat.le_of_lt hz) hB2.size)
      have HRE := Lib.hid (show R2 = (dg, 0) by rw [HR2.out, hr]; rfl)
      clear hch hB2 g0 g1 d0 d1 k0 k1 hA HD
      go_wp2
      go_ret2
      exact ⟨by rw [HRE.out]; rfl, HF.out⟩
    · have HF := Lib.hid (hB2.next b3)
      have HRE := Lib.hid (show R2 = (0, 4) by rw [HR2.out, hr]; rfl)
      clear b3 hB2 g0 g1 d0 d1 k0 k1 hA HD
      go_wp2
      go_ret2
      exact ⟨by rw [HRE.out]; rfl, HF.out⟩
end Go.Proofs.YtnblhkhdilkbeaaDoor
