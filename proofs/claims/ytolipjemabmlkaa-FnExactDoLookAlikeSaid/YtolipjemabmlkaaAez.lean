/- AreEqualZetas, both sides. -/
import Derived.Test.YtolipjemabmlkaaRec
import Derived.Test.YtolipjemabmlkaaSlEq
import Derived.Deep.RegionHeld3
set_option linter.unusedSimpArgs false
set_option linter.unusedVariables false
set_option maxRecDepth 100000
namespace Go.Proofs.Ytolipjemabmlkaa
open Go.RowKit

theorem recL_len (xss : List (List Int)) : (recL xss).length ≤ 2 * xss.length + 1 := by
  unfold recL
  have h1 : (trim (dkL (edgeM (dirE (pairs xss))) (2 * xss.length))).length ≤ (dkL (edgeM (dirE (pairs xss))) (2 * xss.length)).length := by
    unfold trim; rw [List.length_take]; exact Nat.min_le_right _ _
  have h2 : (dkL (edgeM (dirE (pairs xss))) (2 * xss.length)).length = 2 * xss.length + 1 := by simp [dkL]
  omega

set_option maxHeartbeats 1600000 in
theorem slEqualNe (a a1 : Option Addr) (n m c c1 : Nat) (w : World) (h : n ≠ m) :
    Calls Try.prog 84 #[.slice a n c, .slice a1 m c1] w fun e w' => e = .returned (.bool false) ∧ Qt w w' := by
  have hb : (((n : Nat) : Int) != (m : Int)) = true := by simp; omega
  go_enter Try.func84, Try.ntmps84
  go_wp2
  go_ret
  exact ⟨rfl, Qt.refl _⟩
theorem slEqualAny {lo hi lo1 hi1 : Nat} (a : Option Addr) (c : Nat) (xs : List Int) (a1 : Option Addr) (c1 : Nat) (ys : List Int) (w : World) (h : RdI lo hi w (.slice a xs.length c) xs) (h1 : RdI lo1 hi1 w (.slice a1 ys.length c1) ys) (hn : xs.length ≤ 1000) :
    Calls Try.prog 84 #[.slice a xs.length c, .slice a1 ys.length c1] w fun e w' => e = .returned (.bool (decide (xs = ys))) ∧ Qt w w' := by
  by_cases hl : xs.length = ys.length
  · rw [hl] at h hn ⊢
    refine (slEqual a ys.length c xs a1 c1 ys w h hl h1 rfl hn).mono ?_
    rintro e w' ⟨rfl, q⟩
    refine ⟨?_, q⟩
    have h9 := eqL_eq hl (rfl : ys.length = ys.length)
    cases he : eqL xs ys ys.length 0 with
    | true => rw [decide_eq_true (h9.mp he)]
    | false => rw [decide_eq_false (fun x => by rw [h9.mpr x] at he; cases he)]
  · have : ¬ xs = ys := fun e => hl (by rw [e])
    rw [decide_eq_false this]
    exact slEqualNe a a1 _ _ c c1 w hl

set_option maxHeartbeats 1600000 in
theorem l02Same {lo hi lo1 hi1 : Nat} (a : Option Addr) (n c : Nat) (xs : List Int) (a1 : Option Addr) (m c1 : Nat) (ys : List Int) (w : World) (h : RdI lo hi w (.slice a n c) xs) (h1 : RdI lo1 hi1 w (.slice a1 m c1) ys) (hn : xs.length = n) (hm : ys.length = m) (h100 : n ≤ 1000) :
    Calls Try.prog 82 #[.slice a n c, .slice a1 m c1] w fun e w' => e = .returned (.bool (decide (xs = ys))) ∧ Qt w w' := by
  by_cases hl : n = m
  · subst hl
    have HX := Lib.hid (fun W (hq : Qt w W) => (h.qt hq).at hn)
    have HY := Lib.hid (fun W (hq : Qt w W) => (h1.qt hq).at hm)
    have HNE := Lib.hid (fun j (hj : j < n) (he : xs.getD j 0 ≠ ys.getD j 0) => show decide (xs = ys) = false from decide_eq_false (fun e => he (by rw [e])))
    have HEQ := Lib.hid (fun (he : ∀ j, j < n → xs.getD j 0 = ys.getD j 0) => show decide (xs = ys) = true from decide_eq_true (by
      refine List.ext_getElem (by omega) fun j h3 h4 => ?_
      have := he j (by omega)
      simpa [List.getD, List.getElem?_eq_getElem h3, List.getElem?_eq_getElem h4] using this))
    clear h h1 hn hm
    generalize decide (xs = ys) = R at HNE HEQ ⊢
    go_enter Try.func82, Try.ntmps82
    go_wp2
    go_loopw [5] (fun v wr => ∃ k : Nat, k ≤ n ∧ v = .int .i64 k ∧ Qt w wr ∧ Hid (∀ j, j < k → xs.getD j 0 = ys.getD j 0)) (fun v _ => n - (intOf v).toNat)
    case atStart => exact ⟨0, Nat.zero_le _, rfl, Qt.refl _, Lib.hid (fun j hj => by omega)⟩
    case round =>
      obtain ⟨k, hk, rfl, hq, HA⟩ := hrel
      by_cases hlt : k < n
      · obtain ⟨b, off, rfl, g1⟩ := HX.out wr hq k hlt
        obtain ⟨b2, off2, rfl, g2⟩ := HY.out wr hq k hlt
        have hkn : (k : Int) < (n : Int) := by omega
        obtain ⟨x, hx⟩ : ∃ x, x = xs.getD k 0 := ⟨_, rfl⟩
        obtain ⟨y, hy⟩ : ∃ y, y = ys.getD k 0 := ⟨_, rfl⟩
        rw [← hx] at g1
        rw [← hy] at g2
        have HXY := Lib.hid (⟨hx, hy⟩ : _ ∧ _)
        clear hx hy
        by_cases he : x = y
        · have hb : (x != y) = false := by simpa using he
          have HN := Lib.hid (fun j (hj : j < k + 1) => show xs.getD j 0 = ys.getD j 0 by
            by_cases e : j = k
            · subst e; rw [← HXY.out.1, ← HXY.out.2]; exact he
            · exact HA.out j (by omega))
          clear he HA
          go_wp2
          go_quiet (fail)
          go_wp2
          go_roundw
          case rel => exact ⟨k + 1, by omega, by go_num, hq.drewN _, HN⟩
          case measure => simp [intOf]; omega
        · have hb : (x != y) = true := by simpa using he
          have HN := Lib.hid (HNE.out k hlt (by rw [← HXY.out.1, ← HXY.out.2]; exact he))
          clear he HA
          go_wp2
          go_quiet (fail)
          go_wp2
          go_ret
          exact ⟨by rw [HN.out]; rfl, hq.drewN _⟩
      · obtain rfl : k = n := by omega
        have HN := Lib.hid (HEQ.out HA.out)
        clear HA
        go_wp2
        go_ret
        exact ⟨by rw [HN.out]; rfl, hq⟩
  · have : ¬ xs = ys := fun e => hl (by rw [← hn, ← hm, e])
    rw [decide_eq_false this]
    have hb : (((n : Nat) : Int) != (m : Int)) = true := by simp; omega
    clear h h1 hn hm this
    go_enter Try.func82, Try.ntmps82
    go_wp2
    go_ret
    exact ⟨rfl, Qt.refl _⟩

def aezOf (s : Int) (xss : List (List Int)) (t : Int) (yss : List (List Int)) : Bool × Int := if grB s xss = true ∧ grB t yss = true then (decide (recL xss = recL yss), 0) else (false, 1)

set_option maxHeartbeats 3200000 in
theorem implAez {lo hi lo1 hi1 : Nat} (s : Int) (a : Option Addr) (n c : Nat) (xss : List (List Int)) (t : Int) (a1 : Option Addr) (n1 c1 : Nat) (yss : List (List Int)) (w : World) (h : RdR lo hi w (.slice a n c) xss) (hn : xss.length = n) (h1 : RdR lo1 hi1 w (.slice a1 n1 c1) yss) (hn1 : yss.length = n1) :
    Calls Try.prog 85 #[.agg #[.int .i64 s, .slice a n c], .agg #[.int .i64 t, .slice a1 n1 c1]] w fun e w' => e = .returned (.tuple #[.bool (aezOf s xss t yss).1, .int .i64 (aezOf s xss t yss).2]) ∧ Below w.heap.size w w' := by
  have hb0 : ∀ o o', Below w.heap.size w ((w.alloc o).alloc o') := fun o o' => ((Below.refl _ _).alloc (Nat.le_refl _) o).alloc (by simp) o'
  have HI := Lib.hid (fun W (hB : Below w.heap.size w W) => implIsGraph s a n c xss W (h.below hB) hn)
  have HJ := Lib.hid (fun W (hB : Below w.heap.size w W) => implIsGraph t a1 n1 c1 yss W (h1.below hB) hn1)
  have HR := Lib.hid (fun W (hB : Below w.heap.size w W) => implRec s a n c xss W (h.below hB) hn)
  have HS := Lib.hid (fun W (hB : Below w.heap.size w W) => implRec t a1 n1 c1 yss W (h1.below hB) hn1)
  obtain ⟨P, hP⟩ : ∃ P, P = aezOf s xss t yss := ⟨_, rfl⟩
  rw [← hP]
  unfold aezOf at hP
  have HLN := Lib.hid (fun (hg : grB s xss = true) => show (recL xss).length ≤ 1000 by have := recL_len xss; have := grB_iff hg; omega)
  clear h hn h1 hn1
  go_enter Try.func85, Try.ntmps85
  go_wp2_with fail
  refine calls_gen (fun W => Below w.heap.size w W ∧ W.cell? ⟨w.heap.size, 0, none⟩ = some (.int .i64 s) ∧ W.cell? ⟨w.heap.size, 1, none⟩ = some (.slice a n c) ∧ W.cell? ⟨w.heap.size + 1, 0, none⟩ = some (.int .i64 t) ∧ W.cell? ⟨w.heap.size + 1, 1, none⟩ = some (.slice a1 n1 c1)) ⟨hb0 _ _, by go_simp, by go_simp, by go_simp, by go_simp⟩ ?_
  rintro W ⟨hB, k0, k1, j0, j1⟩
  refine (HI.out W hB).mono ?_
  cases hg : grB s xss with
  | false =>
    rintro e w1 ⟨rfl, b1⟩
    rw [hg, if_neg (by simp)] at hP
    have HF := Lib.hid (⟨hB.next b1, hP⟩ : _ ∧ _)
    clear b1 hB hP k0 k1 j0 j1 hg
    go_wp2
    go_ret2
    exact ⟨by rw [HF.out.2]; rfl, HF.out.1⟩
  | true =>
    rintro e w1 ⟨rfl, b1⟩
    replace k0 := b1.keep k0
    replace k1 := b1.keep k1
    replace j0 := b1.keep j0
    replace j1 := b1.keep j1
    replace hB := hB.next b1
    clear b1
    go_wp2_with fail
    refine (HJ.out w1 hB).mono ?_
    cases hg2 : grB t yss with
    | false =>
      rintro e w2 ⟨rfl, b2⟩
      rw [hg2, if_neg (by simp)] at hP
      have HF := Lib.hid (⟨hB.next b2, hP⟩ : _ ∧ _)
      clear b2 hB hP k0 k1 j0 j1 hg hg2
      go_wp2
      go_ret2
      exact ⟨by rw [HF.out.2]; rfl, HF.out.1⟩
    | true =>
      rintro e w2 ⟨rfl, b2⟩
      rw [hg, hg2, if_pos ⟨rfl, rfl⟩] at hP
      replace k0 := b2.keep k0
      replace k1 := b2.keep k1
      replace j0 := b2.keep j0
      replace j1 := b2.keep j1
      replace hB := hB.next b2
      have HPP := Lib.hid hP
      have HL1 := Lib.hid (HLN.out hg)
      have HR2 := Lib.hid (HR.out w2 hB)
      rw [recOf_yes hg] at HR2
      rw [recOf_yes hg2] at HS
      have HB := Lib.hid hB
      clear b2 hP hg hg2 hB HI HJ HR HLN
      go_wp2_with fail
      refine HR2.out.mono ?_
      rintro e w3 ⟨a3, c3, rfl, o3, b3⟩
      replace k0 := b3.keep k0
      replace k1 := b3.keep k1
      replace j0 := b3.keep j0
      replace j1 := b3.keep j1
      have HB3 := Lib.hid (HB.out.next b3)
      have HO3 := Lib.hid o3.rd
      have HS3 := Lib.hid (HS.out w3 HB3.out)
      clear o3 b3 HR2 HS
      go_wp2_with fail
      refine HS3.out.mono ?_
      rintro e w4 ⟨a4, c4, rfl, o4, b4⟩
      have HB4 := Lib.hid (HB3.out.next b4)
      have HEQ := Lib.hid (slEqualAny a3 c3 (recL xss) a4 c4 (recL yss) w4 (HO3.out.below b4) o4.rd HL1.out)
      clear o4 b4 HS3 k0 k1 j0 j1
      go_wp2_with fail
      refine HEQ.out.mono ?_
      rintro e w5 ⟨rfl, q5⟩
      have HF := Lib.hid (HB4.out.qt q5)
      clear q5 HEQ
      go_wp2
      go_ret2
      exact ⟨by rw [HPP.out]; rfl, HF.out⟩


end Go.Proofs.Ytolipjemabmlkaa
