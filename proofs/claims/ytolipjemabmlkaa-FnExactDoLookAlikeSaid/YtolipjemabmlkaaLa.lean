/- DoLookAlike, both sides. -/
import Derived.Test.YtolipjemabmlkaaAez
import Derived.Test.YtolipjemabmlkaaSpc
import Derived.Deep.RegionHeld3
set_option linter.unusedSimpArgs false
set_option linter.unusedVariables false
set_option maxRecDepth 100000
namespace Go.Proofs.Ytolipjemabmlkaa
open Go.RowKit

def laOf (s : Int) (xss : List (List Int)) (t : Int) (yss : List (List Int)) : Bool × Int :=
  if grB s xss = true ∧ grB t yss = true then (decide (s = t) && (decide (spcL xss s.toNat = spcL yss t.toNat) && decide (recL xss = recL yss)), 0) else (false, 1)
theorem laOf_no1 {s : Int} {xss : List (List Int)} {t : Int} {yss : List (List Int)} (h : grB s xss = false) : laOf s xss t yss = (false, 1) := by unfold laOf; rw [h, if_neg (by simp)]
theorem laOf_no2 {s : Int} {xss : List (List Int)} {t : Int} {yss : List (List Int)} (h : grB t yss = false) : laOf s xss t yss = (false, 1) := by unfold laOf; rw [h, if_neg (by simp)]
theorem laOf_yes {s : Int} {xss : List (List Int)} {t : Int} {yss : List (List Int)} (h : grB s xss = true) (h2 : grB t yss = true) : laOf s xss t yss = (decide (s = t) && (decide (spcL xss s.toNat = spcL yss t.toNat) && decide (recL xss = recL yss)), 0) := by unfold laOf; rw [if_pos ⟨h, h2⟩]

set_option maxHeartbeats 3200000 in
theorem implLa {lo hi lo1 hi1 : Nat} (s : Int) (a : Option Addr) (n c : Nat) (xss : List (List Int)) (t : Int) (a1 : Option Addr) (n1 c1 : Nat) (yss : List (List Int)) (w : World) (h : RdR lo hi w (.slice a n c) xss) (hn : xss.length = n) (h1 : RdR lo1 hi1 w (.slice a1 n1 c1) yss) (hn1 : yss.length = n1) :
    Calls Try.prog 39 #[.agg #[.int .i64 s, .slice a n c], .agg #[.int .i64 t, .slice a1 n1 c1]] w fun e w' => e = .returned (.tuple #[.bool (laOf s xss t yss).1, .int .i64 (laOf s xss t yss).2]) ∧ Below w.heap.size w w' := by
  have hb0 : ∀ o o', Below w.heap.size w ((w.alloc o).alloc o') := fun o o' => ((Below.refl _ _).alloc (Nat.le_refl _) o).alloc (by simp) o'
  have HI := Lib.hid (fun W (hB : Below w.heap.size w W) => implIsGraph s a n c xss W (h.below hB) hn)
  have HJ := Lib.hid (fun W (hB : Below w.heap.size w W) => implIsGraph t a1 n1 c1 yss W (h1.below hB) hn1)
  have HR := Lib.hid (fun W (hB : Below w.heap.size w W) => implSpc s a n c xss W (h.below hB) hn)
  have HS := Lib.hid (fun W (hB : Below w.heap.size w W) => implSpc t a1 n1 c1 yss W (h1.below hB) hn1)
  have HZ := Lib.hid (fun W (hB : Below w.heap.size w W) => implAez s a n c xss t a1 n1 c1 yss W (h.below hB) hn (h1.below hB) hn1)
  obtain ⟨P, hP⟩ : ∃ P, P = laOf s xss t yss := ⟨_, rfl⟩
  have HP1 := Lib.hid (fun hg => hP.trans (laOf_no1 (t := t) (yss := yss) hg))
  have HP2 := Lib.hid (fun hg => hP.trans (laOf_no2 (s := s) (xss := xss) hg))
  have HP3 := Lib.hid (fun hg hg2 => hP.trans (laOf_yes hg hg2))
  rw [← hP]
  have HNN := Lib.hid (fun (hg : grB s xss = true) => show ∃ S : Nat, s = (S : Int) ∧ S ≤ 8 from ⟨s.toNat, by have := grB_iff hg; omega, by have := grB_iff hg; omega⟩)
  have HNM := Lib.hid (fun (hg : grB t yss = true) => show ∃ S : Nat, t = (S : Int) ∧ S ≤ 8 from ⟨t.toNat, by have := grB_iff hg; omega, by have := grB_iff hg; omega⟩)
  clear h hn h1 hn1 hP
  go_enter Try.func39, Try.ntmps39
  go_wp2_with fail
  refine calls_gen (fun W => Below w.heap.size w W ∧ W.cell? ⟨w.heap.size, 0, none⟩ = some (.int .i64 s) ∧ W.cell? ⟨w.heap.size, 1, none⟩ = some (.slice a n c) ∧ W.cell? ⟨w.heap.size + 1, 0, none⟩ = some (.int .i64 t) ∧ W.cell? ⟨w.heap.size + 1, 1, none⟩ = some (.slice a1 n1 c1)) ⟨hb0 _ _, by go_simp, by go_simp, by go_simp, by go_simp⟩ ?_
  rintro W ⟨hB, k0, k1, j0, j1⟩
  refine (HI.out W hB).mono ?_
  cases hg : grB s xss with
  | false =>
    rintro e w1 ⟨rfl, b1⟩
    have HF := Lib.hid (⟨hB.next b1, HP1.out hg⟩ : _ ∧ _)
    clear b1 hB k0 k1 j0 j1 hg
    go_wp2
    go_ret2
    exact ⟨by rw [HF.out.2]; rfl, HF.out.1⟩
  | true =>
    rintro e w1 ⟨rfl, b1⟩
    replace k0 := b1.keep k0
    replace k1 := b1.keep k1
    replace j0 := b1.keep j0
    replace j1 := b1.keep j1
    replace hB := hB.next b1
    clear b1
    go_wp2_with fail
    refine (HJ.out w1 hB).mono ?_
    cases hg2 : grB t yss with
    | false =>
      rintro e w2 ⟨rfl, b2⟩
      have HF := Lib.hid (⟨hB.next b2, HP2.out hg2⟩ : _ ∧ _)
      clear b2 hB k0 k1 j0 j1 hg hg2
      go_wp2
      go_ret2
      exact ⟨by rw [HF.out.2]; rfl, HF.out.1⟩
    | true =>
      rintro e w2 ⟨rfl, b2⟩
      replace k0 := b2.keep k0
      replace k1 := b2.keep k1
      replace j0 := b2.keep j0
      replace j1 := b2.keep j1
      replace hB := hB.next b2
      have hp3 := HP3.out hg hg2
      obtain ⟨S, hs, hS8⟩ := HNN.out hg
      obtain ⟨T, ht, hT8⟩ := HNM.out hg2
      subst hs
      subst ht
      rw [Int.toNat_natCast, Int.toNat_natCast] at hp3
      have hz : aezOf (S : Int) xss (T : Int) yss = (decide (recL xss = recL yss), 0) := by unfold aezOf; rw [if_pos ⟨hg, hg2⟩]
      rw [hz] at HZ
      rw [spcOf_yes hg] at HR
      rw [spcOf_yes hg2] at HS
      have hl1 := spcL_len xss S
      have hl2 := spcL_len yss T
      generalize spcL xss S = X1 at *
      generalize spcL yss T = X2 at *
      generalize decide (recL xss = recL yss) = RB at *
      have HPP := Lib.hid hp3
      have HR2 := Lib.hid (HR.out w2 hB)
      have HB := Lib.hid hB
      have HL1 := Lib.hid (show X1.length ≤ 1000 by omega)
      clear b2 hg hg2 hB HI HJ HR HP1 HP2 HP3 HNN HNM hz hp3 hl1 hl2
      go_wp2_with fail
      refine HR2.out.mono ?_
      rintro e w3 ⟨a3, c3, rfl, o3, b3⟩
      replace k0 := b3.keep k0
      replace k1 := b3.keep k1
      replace j0 := b3.keep j0
      replace j1 := b3.keep j1
      have HB3 := Lib.hid (HB.out.next b3)
      have HO3 := Lib.hid o3.rd
      have HS3 := Lib.hid (HS.out w3 HB3.out)
      clear o3 b3 HR2 HS
      go_wp2_with fail
      refine HS3.out.mono ?_
      rintro e w4 ⟨a4, c4, rfl, o4, b4⟩
      replace k0 := b4.keep k0
      replace k1 := b4.keep k1
      replace j0 := b4.keep j0
      replace j1 := b4.keep j1
      have HB4 := Lib.hid (HB3.out.next b4)
      have HEQ := Lib.hid (slEqualAny a3 c3 X1 a4 c4 X2 w4 (HO3.out.below b4) o4.rd HL1.out)
      clear o4 b4 HS3
      by_cases hst : S = T
      · subst hst
        go_wp2_with fail
        refine HEQ.out.mono ?_
        rintro e w5 ⟨rfl, q5⟩
        replace k0 := q5.cell k0
        replace k1 := q5.cell k1
        replace j0 := q5.cell j0
        replace j1 := q5.cell j1
        have HB5 := Lib.hid (HB4.out.qt q5)
        have HZ5 := Lib.hid (HZ.out w5 HB5.out)
        clear q5 HEQ HZ
        by_cases hx : X1 = X2
        · have hb : decide (X1 = X2) = true := decide_eq_true hx
          have HF0 := Lib.hid (show P = (RB, 0) by rw [HPP.out, hb]; simp)
          clear hx
          go_wp2_with fail
          refine HZ5.out.mono ?_
          rintro e w6 ⟨rfl, b6⟩
          have HF := Lib.hid (HB5.out.next b6)
          clear b6 HZ5 k0 k1 j0 j1 hb
          go_wp2
          go_ret2
          exact ⟨by rw [HF0.out]; rfl, HF.out⟩
        · have hb : decide (X1 = X2) = false := decide_eq_false hx
          have HF0 := Lib.hid (show P = (false, 0) by rw [HPP.out, hb]; simp)
          clear hx k0 k1 j0 j1
          go_wp2
          go_ret2
          exact ⟨by rw [HF0.out]; rfl, HB5.out⟩
      · have hb : ((S : Int) != (T : Int)) = true := by simp; omega
        have HF0 := Lib.hid (show P = (false, 0) by
          have : decide ((S : Int) = (T : Int)) = false := decide_eq_false (by omega)
          rw [HPP.out, this]; rfl)
        clear hst k1 j1 HEQ HZ
        go_wp2
        go_ret2
        exact ⟨by rw [HF0.out]; rfl, HB4.out⟩

set_option maxHeartbeats 6400000 in
theorem specLa {lo hi lo1 hi1 : Nat} (s : Int) (a : Option Addr) (n c : Nat) (xss : List (List Int)) (t : Int) (a1 : Option Addr) (n1 c1 : Nat) (yss : List (List Int)) (w : World) (h : RdR lo hi w (.slice a n c) xss) (hn : xss.length = n) (h1 : RdR lo1 hi1 w (.slice a1 n1 c1) yss) (hn1 : yss.length = n1) :
    Calls Try.prog 38 #[.agg #[.int .i64 s, .slice a n c], .agg #[.int .i64 t, .slice a1 n1 c1]] w fun e w' => e = .returned (.tuple #[.bool (laOf s xss t yss).1, .int .i64 (laOf s xss t yss).2]) ∧ Below w.heap.size w w' := by
  have hb0 : ∀ o o', Below w.heap.size w ((w.alloc o).alloc o') := fun o o' => ((Below.refl _ _).alloc (Nat.le_refl _) o).alloc (by simp) o'
  have HI := Lib.hid (fun W (hB : Below w.heap.size w W) => l01Is s a n c xss W (h.below hB) hn)
  have HJ := Lib.hid (fun W (hB : Below w.heap.size w W) => l01Is t a1 n1 c1 yss W (h1.below hB) hn1)
  have HR0 := Lib.hid (fun (hg : grB s xss = true) W (hB : Below w.heap.size w W) => l02Recip s a n c xss W (h.below hB) hn hg)
  have HS0 := Lib.hid (fun (hg : grB t yss = true) W (hB : Below w.heap.size w W) => l02Recip t a1 n1 c1 yss W (h1.below hB) hn1 hg)
  have HT0 := Lib.hid (fun (S : Nat) (e : s = (S : Int)) (hg : grB s xss = true) W (hB : Below w.heap.size w W) => l08Spectrum S a n c xss W (h.below hB) hn (by rw [← e]; exact hg))
  have HU0 := Lib.hid (fun (S : Nat) (e : t = (S : Int)) (hg : grB t yss = true) W (hB : Below w.heap.size w W) => l08Spectrum S a1 n1 c1 yss W (h1.below hB) hn1 (by rw [← e]; exact hg))
  obtain ⟨P, hP⟩ : ∃ P, P = laOf s xss t yss := ⟨_, rfl⟩
  have HP1 := Lib.hid (fun hg => hP.trans (laOf_no1 (t := t) (yss := yss) hg))
  have HP2 := Lib.hid (fun hg => hP.trans (laOf_no2 (s := s) (xss := xss) hg))
  have HP3 := Lib.hid (fun hg hg2 => hP.trans (laOf_yes hg hg2))
  rw [← hP]
  have HNN := Lib.hid (fun (hg : grB s xss = true) => show ∃ S : Nat, s = (S : Int) ∧ S ≤ 8 ∧ (recL xss).length ≤ 1000 from ⟨s.toNat, by have := grB_iff hg; omega, by have := grB_iff hg; omega, by have := recL_len xss; have := grB_iff hg; omega⟩)
  have HNM := Lib.hid (fun (hg : grB t yss = true) => show ∃ S : Nat, t = (S : Int) ∧ S ≤ 8 from ⟨t.toNat, by have := grB_iff hg; omega, by have := grB_iff hg; omega⟩)
  clear h hn h1 hn1 hP
  go_enter Try.func38, Try.ntmps38
  go_wp2_with fail
  refine calls_gen (fun W => Below w.heap.size w W ∧ W.cell? ⟨w.heap.size, 0, none⟩ = some (.int .i64 s) ∧ W.cell? ⟨w.heap.size, 1, none⟩ = some (.slice a n c) ∧ W.cell? ⟨w.heap.size + 1, 0, none⟩ = some (.int .i64 t) ∧ W.cell? ⟨w.heap.size + 1, 1, none⟩ = some (.slice a1 n1 c1)) ⟨hb0 _ _, by go_simp, by go_simp, by go_simp, by go_simp⟩ ?_
  rintro W ⟨hB, k0, k1, j0, j1⟩
  refine (HI.out W hB).mono ?_
  cases hg : grB s xss with
  | false =>
    rintro e w1 ⟨rfl, b1⟩
    have HF := Lib.hid (⟨hB.next b1, HP1.out hg⟩ : _ ∧ _)
    clear b1 hB k0 k1 j0 j1 hg
    go_wp2
    go_ret2
    exact ⟨by rw [HF.out.2]; rfl, HF.out.1⟩
  | true =>
    rintro e w1 ⟨rfl, b1⟩
    replace k0 := b1.keep k0
    replace k1 := b1.keep k1
    replace j0 := b1.keep j0
    replace j1 := b1.keep j1
    replace hB := hB.next b1
    clear b1
    go_wp2_with fail
    refine (HJ.out w1 hB).mono ?_
    cases hg2 : grB t yss with
    | false =>
      rintro e w2 ⟨rfl, b2⟩
      have HF := Lib.hid (⟨hB.next b2, HP2.out hg2⟩ : _ ∧ _)
      clear b2 hB k0 k1 j0 j1 hg hg2
      go_wp2
      go_ret2
      exact ⟨by rw [HF.out.2]; rfl, HF.out.1⟩
    | true =>
      rintro e w2 ⟨rfl, b2⟩
      replace k0 := b2.keep k0
      replace k1 := b2.keep k1
      replace j0 := b2.keep j0
      replace j1 := b2.keep j1
      replace hB := hB.next b2
      have hp3 := HP3.out hg hg2
      obtain ⟨S, hs, hS8, hl9⟩ := HNN.out hg
      obtain ⟨T, ht, hT8⟩ := HNM.out hg2
      have HT := Lib.hid (HT0.out S hs hg w2.drew hB.drew)
      have HU := Lib.hid (HU0.out T ht hg2)
      have HR := Lib.hid (HR0.out hg)
      have HS := Lib.hid (HS0.out hg2)
      subst hs
      subst ht
      rw [Int.toNat_natCast, Int.toNat_natCast] at hp3
      have hl1 := spcL_len xss S
      have hl2 := spcL_len yss T
      generalize spcL xss S = X1 at *
      generalize spcL yss T = X2 at *
      generalize recL xss = Y1 at *
      generalize recL yss = Y2 at *
      have HPP := Lib.hid hp3
      have HB := Lib.hid hB
      have HL1 := Lib.hid (show X1.length ≤ 1000 by omega)
      have HL2 := Lib.hid hl9
      obtain ⟨B, hBB⟩ : ∃ B, B = w.heap.size + 1 := ⟨_, rfl⟩
      rw [← hBB] at j0 j1 ⊢
      have HBd := Lib.hid hB.drew
      have k0d : w2.drew.cell? ⟨w.heap.size, 0, none⟩ = some (.int .i64 (S : Int)) := k0
      have k1d : w2.drew.cell? ⟨w.heap.size, 1, none⟩ = some (.slice a n c) := k1
      have j0d : w2.drew.cell? ⟨B, 0, none⟩ = some (.int .i64 (T : Int)) := j0
      have j1d : w2.drew.cell? ⟨B, 1, none⟩ = some (.slice a1 n1 c1) := j1
      clear b2 hg hg2 hB HI HJ HR0 HS0 HT0 HU0 HP1 HP2 HP3 HNN HNM hp3 hl1 hl2 hl9 hBB
      by_cases hst : S = T
      · subst hst
        by_cases hx : X1 = X2
        · have hb : decide (X1 = X2) = true := decide_eq_true hx
          have HF0 := Lib.hid (show P = (decide (Y1 = Y2), 0) by rw [HPP.out, hb]; simp)
          have HB1 := Lib.hid hb
          clear hx hb HPP
          go_wp2
          go_region_held3 (fun W' => W'.cell? ⟨w.heap.size, 0, none⟩ = some (.int .i64 (S : Int)) ∧ W'.cell? ⟨w.heap.size, 1, none⟩ = some (.slice a n c) ∧ W'.cell? ⟨B, 0, none⟩ = some (.int .i64 (S : Int)) ∧ W'.cell? ⟨B, 1, none⟩ = some (.slice a1 n1 c1))
            (first | (with_reducible exact ⟨k0, k1, j0, j1⟩) | (with_reducible exact ⟨k0d, k1d, j0d, j1d⟩) | (with_reducible exact ⟨k03, k13, j03, j13⟩) | (with_reducible exact ⟨k04, k14, j04, j14⟩) | (with_reducible exact ⟨k05, k15, j05, j15⟩) | (with_reducible exact ⟨k06, k16, j06, j16⟩) | (with_reducible exact ⟨k07, k17, j07, j17⟩) | (with_reducible exact ⟨k08, k18, j08, j18⟩) | (trace_state; fail))
            (first
              | (go_at_call 81; with_reducible refine HT.out.mono ?_; rintro e w3 ⟨a3, c3, rfl, o3, b3⟩; have k03 := b3.keep k0d; have k13 := b3.keep k1d; have j03 := b3.keep j0d; have j13 := b3.keep j1d; have HB3 := Lib.hid (HBd.out.next b3); have HU3 := Lib.hid (HU.out w3 HB3.out))
              | (go_at_call 81; with_reducible refine HU3.out.mono ?_; rintro e w4 ⟨a4, c4, rfl, o4, b4⟩; have k04 := b4.keep k03; have k14 := b4.keep k13; have j04 := b4.keep j03; have j14 := b4.keep j13; have HB4 := Lib.hid (HB3.out.next b4); have HEQ := Lib.hid (l02Same a3 _ c3 X1 a4 _ c4 X2 w4 (o3.rd.below b4) o4.rd rfl rfl HL1.out))
              | (go_at_call 82; with_reducible refine HEQ.out.mono ?_; rw [HB1.out]; rintro e w5 ⟨rfl, q5⟩; have k05 := q5.cell k04; have k15 := q5.cell k14; have j05 := q5.cell j04; have j15 := q5.cell j14; have HB5 := Lib.hid (HB4.out.qt q5); have HR5 := Lib.hid (HR.out w5 HB5.out))
              | (go_at_call 83; with_reducible refine HR5.out.mono ?_; rintro e w6 ⟨a6, c6, rfl, o6, b6⟩; have k06 := b6.keep k05; have k16 := b6.keep k15; have j06 := b6.keep j05; have j16 := b6.keep j15; have HB6 := Lib.hid (HB5.out.next b6); have HS6 := Lib.hid (HS.out w6 HB6.out))
              | (go_at_call 83; with_reducible refine HS6.out.mono ?_; rintro e w7 ⟨a7, c7, rfl, o7, b7⟩; have k07 := b7.keep k06; have k17 := b7.keep k16; have j07 := b7.keep j06; have j17 := b7.keep j16; have HB7 := Lib.hid (HB6.out.next b7); have HEQ7 := Lib.hid (l02Same a6 _ c6 Y1 a7 _ c7 Y2 w7 (o6.rd.below b7) o7.rd rfl rfl HL2.out))
              | (go_at_call 82; with_reducible refine HEQ7.out.mono ?_; rintro e w8 ⟨rfl, q8⟩; have k08 := q8.cell k07; have k18 := q8.cell k17; have j08 := q8.cell j07; have j18 := q8.cell j17; have HB8 := Lib.hid (HB7.out.qt q8))
              | fail)
          all_goals
            clear o3 b3 o4 b4 q5 o6 b6 o7 b7 q8 HEQ HEQ7 HU3 HR5 HS6
            go_wp2
            go_ret2
            exact ⟨by rw [HF0.out]; rfl, HB8.out⟩
        · have hb : decide (X1 = X2) = false := decide_eq_false hx
          have HF0 := Lib.hid (show P = (false, 0) by rw [HPP.out, hb]; simp)
          have HB1 := Lib.hid hb
          clear hx hb HPP HR HS
          go_wp2
          go_region_law (first
            | (go_simp; go_at_call 81; with_reducible refine HT.out.mono ?_; rintro e w3 ⟨a3, c3, rfl, o3, b3⟩; have k03 := b3.keep k0d; have k13 := b3.keep k1d; have j03 := b3.keep j0d; have j13 := b3.keep j1d; have HB3 := Lib.hid (HBd.out.next b3); have HU3 := Lib.hid (HU.out w3 HB3.out))
            | (go_simp; go_at_call 81; with_reducible refine HU3.out.mono ?_; rintro e w4 ⟨a4, c4, rfl, o4, b4⟩; have k04 := b4.keep k03; have k14 := b4.keep k13; have j04 := b4.keep j03; have j14 := b4.keep j13; have HB4 := Lib.hid (HB3.out.next b4); have HEQ := Lib.hid (l02Same a3 _ c3 X1 a4 _ c4 X2 w4 (o3.rd.below b4) o4.rd rfl rfl HL1.out))
            | (go_simp; go_at_call 82; with_reducible refine HEQ.out.mono ?_; rw [HB1.out]; rintro e w5 ⟨rfl, q5⟩; have k05 := q5.cell k04; have k15 := q5.cell k14; have j05 := q5.cell j04; have j15 := q5.cell j14; have HB5 := Lib.hid (HB4.out.qt q5)))
          all_goals
            clear o3 b3 o4 b4 q5 HEQ HU3
            go_wp2
            go_ret2
            exact ⟨by rw [HF0.out]; rfl, HB5.out⟩
      · have hb : ((S : Int) == (T : Int)) = false := by simp; omega
        have HF0 := Lib.hid (show P = (false, 0) by
          have : decide ((S : Int) = (T : Int)) = false := decide_eq_false (by omega)
          rw [HPP.out, this]; rfl)
        clear hst HT HU HR HS
        go_wp2
        go_quiet (fail)
        go_wp2
        go_ret2
        exact ⟨by rw [HF0.out]; rfl, HB.out.drewN _⟩

end Go.Proofs.Ytolipjemabmlkaa
