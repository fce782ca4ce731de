/- IsIsomorphism, by the program. -/
import Derived.Test.YtolipjemabmlkaaIsP
import Derived.Deep.RegionHeld3
set_option linter.unusedSimpArgs false
set_option linter.unusedVariables false
set_option maxRecDepth 100000
namespace Go.Proofs.Ytolipjemabmlkaa
open Go.RowKit

def isoOf (s : Int) (xss : List (List Int)) (t : Int) (yss : List (List Int)) (xs : List Int) : Bool × Int :=
  if grB s xss = true ∧ grB t yss = true then (if s = t ∧ permB s xs = true then (isoM (adF xss) (adF yss) (fun j => (xs.getD j 0).toNat) s.toNat, 0) else (false, 2)) else (false, 1)
theorem isoOf_no1 {s : Int} {xss : List (List Int)} {t : Int} {yss : List (List Int)} {xs : List Int} (h : grB s xss = false) : isoOf s xss t yss xs = (false, 1) := by unfold isoOf; rw [h, if_neg (by simp)]
theorem isoOf_no2 {s : Int} {xss : List (List Int)} {t : Int} {yss : List (List Int)} {xs : List Int} (h : grB t yss = false) : isoOf s xss t yss xs = (false, 1) := by unfold isoOf; rw [h, if_neg (by simp)]
theorem isoOf_no3 {s : Int} {xss : List (List Int)} {t : Int} {yss : List (List Int)} {xs : List Int} (h : grB s xss = true) (h2 : grB t yss = true) (h3 : ¬ (s = t ∧ permB s xs = true)) : isoOf s xss t yss xs = (false, 2) := by unfold isoOf; rw [if_pos ⟨h, h2⟩, if_neg h3]
theorem isoOf_yes {S : Nat} {xss : List (List Int)} {yss : List (List Int)} {xs : List Int} (h : grB (S : Int) xss = true) (h2 : grB (S : Int) yss = true) (h3 : permB (S : Int) xs = true) : isoOf (S : Int) xss (S : Int) yss xs = (isoM (adF xss) (adF yss) (fun j => (xs.getD j 0).toNat) S, 0) := by unfold isoOf; rw [if_pos ⟨h, h2⟩, if_pos ⟨rfl, h3⟩, Int.toNat_natCast]

set_option maxHeartbeats 6400000 in
theorem implIso {lo hi lo1 hi1 lo2 hi2 : Nat} (s : Int) (a : Option Addr) (n c : Nat) (xss : List (List Int)) (t : Int) (a1 : Option Addr) (n1 c1 : Nat) (yss : List (List Int)) (a2 : Option Addr) (n2 c2 : Nat) (xs : List Int) (w : World) (h : RdR lo hi w (.slice a n c) xss) (hn : xss.length = n) (h1 : RdR lo1 hi1 w (.slice a1 n1 c1) yss) (hn1 : yss.length = n1) (h2 : RdI lo2 hi2 w (.slice a2 n2 c2) xs) (hl : xs.length = n2) (hcap : n2 ≤ c2) :
    Calls Try.prog 30 #[.agg #[.int .i64 s, .slice a n c], .agg #[.int .i64 t, .slice a1 n1 c1], .slice a2 n2 c2] w fun e w' => e = .returned (.tuple #[.bool (isoOf s xss t yss xs).1, .int .i64 (isoOf s xss t yss xs).2]) ∧ Below w.heap.size w w' := by
  have hb0 : ∀ o o', Below w.heap.size w ((w.alloc o).alloc o') := fun o o' => ((Below.refl _ _).alloc (Nat.le_refl _) o).alloc (by simp) o'
  have HI := Lib.hid (fun W (hB : Below w.heap.size w W) => implIsGraph s a n c xss W (h.below hB) hn)
  have HJ := Lib.hid (fun W (hB : Below w.heap.size w W) => implIsGraph t a1 n1 c1 yss W (h1.below hB) hn1)
  have HM := Lib.hid (fun (g1 : 1 ≤ s) (g2 : s ≤ 8) W (hB : Below w.heap.size w W) => isMap a2 n2 c2 xs s W (h2.below hB) hl g1 g2)
  have HA := Lib.hid (fun (S : Nat) (hs : s = (S : Int)) (hg : grB (S : Int) xss = true) W (hB : Below w.heap.size w W) => show Calls Try.prog 62 #[.agg #[.int .i64 (S : Int), .slice a n c]] W fun e w' => ∃ a' c', e = .returned (.tuple #[.slice a' S c', .int .i64 0]) ∧ OwR W.heap.size w'.heap.size w' (.slice a' S c') (tab S (adF xss)) ∧ Below W.heap.size W w' by
    have := implAdj_yes S a n c xss W (h.below hB) hn hg
    rw [← hn] at this ⊢
    exact this)
  have HA1 := Lib.hid (fun (S : Nat) (hs : t = (S : Int)) (hg : grB (S : Int) yss = true) W (hB : Below w.heap.size w W) => show Calls Try.prog 62 #[.agg #[.int .i64 (S : Int), .slice a1 n1 c1]] W fun e w' => ∃ a' c', e = .returned (.tuple #[.slice a' S c', .int .i64 0]) ∧ OwR W.heap.size w'.heap.size w' (.slice a' S c') (tab S (adF yss)) ∧ Below W.heap.size W w' by
    have := implAdj_yes S a1 n1 c1 yss W (h1.below hB) hn1 hg
    rw [← hn1] at this ⊢
    exact this)
  have HL := Lib.hid (fun W (hB : Below w.heap.size w W) => (h2.below hB).at hl)
  have HXN := Lib.hid (fun (S : Nat) (hp : permB (S : Int) xs = true) => show n2 = S ∧ ∀ j, j < n2 → ∃ m : Nat, xs.getD j 0 = (m : Int) ∧ m < S from ⟨by have := permB_len hp; omega, fun j hj => by
    have := permB_in hp j (by omega)
    unfold inR at this
    simp only [Bool.and_eq_true, decide_eq_true_eq] at this
    exact ⟨(xs.getD j 0).toNat, by omega, by omega⟩⟩)
  have HSF := Lib.hid (adF_sym xss)
  have HSG := Lib.hid (adF_sym yss)
  obtain ⟨P, hP⟩ : ∃ P, P = isoOf s xss t yss xs := ⟨_, rfl⟩
  have HP1 := Lib.hid (fun hg => hP.trans (isoOf_no1 (t := t) (yss := yss) (xs := xs) hg))
  have HP2 := Lib.hid (fun hg => hP.trans (isoOf_no2 (s := s) (xss := xss) (xs := xs) hg))
  have HP3 := Lib.hid (fun hg hg2 h3 => hP.trans (isoOf_no3 hg hg2 h3))
  have HP4 := Lib.hid (fun (S : Nat) (e1 : s = (S : Int)) (e2 : t = (S : Int)) (hg : grB (S : Int) xss = true) (hg2 : grB (S : Int) yss = true) (h3 : permB (S : Int) xs = true) => show P = (isoM (adF xss) (adF yss) (fun j => (xs.getD j 0).toNat) S, 0) by rw [hP, e1, e2]; exact isoOf_yes hg hg2 h3)
  rw [← hP]
  have HNN := Lib.hid (fun (hg : grB s xss = true) => show ∃ S : Nat, s = (S : Int) ∧ 1 ≤ S ∧ S ≤ 8 from ⟨s.toNat, by have := grB_iff hg; omega, by have := grB_iff hg; omega, by have := grB_iff hg; omega⟩)
  clear h hn h1 hn1 h2 hl hP
  go_enter Try.func30, Try.ntmps30
  go_wp2_with fail
  refine calls_gen (fun W => Below w.heap.size w W ∧ W.cell? ⟨w.heap.size, 0, none⟩ = some (.int .i64 s) ∧ W.cell? ⟨w.heap.size, 1, none⟩ = some (.slice a n c) ∧ W.cell? ⟨w.heap.size + 1, 0, none⟩ = some (.int .i64 t) ∧ W.cell? ⟨w.heap.size + 1, 1, none⟩ = some (.slice a1 n1 c1)) ⟨hb0 _ _, by go_simp, by go_simp, by go_simp, by go_simp⟩ ?_
  rintro W ⟨hB, k0, k1, j0, j1⟩
  refine (HI.out W hB).mono ?_
  cases hg : grB s xss with
  | false =>
    rintro e w1 ⟨rfl, b1⟩
    have HF := Lib.hid (⟨hB.next b1, HP1.out hg⟩ : _ ∧ _)
    clear b1 hB k0 k1 j0 j1 hg
    go_wp2
    go_ret2
    exact ⟨by rw [HF.out.2]; rfl, HF.out.1⟩
  | true =>
    rintro e w1 ⟨rfl, b1⟩
    replace k0 := b1.keep k0
    replace k1 := b1.keep k1
    replace j0 := b1.keep j0
    replace j1 := b1.keep j1
    replace hB := hB.next b1
    clear b1
    go_wp2_with fail
    refine (HJ.out w1 hB).mono ?_
    cases hg2 : grB t yss with
    | false =>
      rintro e w2 ⟨rfl, b2⟩
      have HF := Lib.hid (⟨hB.next b2, HP2.out hg2⟩ : _ ∧ _)
      clear b2 hB k0 k1 j0 j1 hg hg2
      go_wp2
      go_ret2
      exact ⟨by rw [HF.out.2]; rfl, HF.out.1⟩
    | true =>
      rintro e w2 ⟨rfl, b2⟩
      replace k0 := b2.keep k0
      replace k1 := b2.keep k1
      replace j0 := b2.keep j0
      replace j1 := b2.keep j1
      have HB := Lib.hid (hB.next b2)
      have hp3 := HP3.out hg hg2
      obtain ⟨S, hs, hS1, hS8⟩ := HNN.out hg
      clear b2 hB HI HJ HP1 HP2 HP3 HNN
      by_cases hst : s = t
      · subst hs
        subst hst
        have HM2 := Lib.hid (HM.out (by omega) (by omega) w2 HB.out)
        have hb : ((S : Int) != (S : Int)) = false := by simp
        clear HM
        go_wp2_with fail
        refine HM2.out.mono ?_
        cases hp : permB (S : Int) xs with
        | false =>
          rintro e w3 ⟨rfl, b3⟩
          have HF0 := Lib.hid (⟨hp3 (fun x => by rw [hp] at x; exact absurd x.2 (by simp)), HB.out.next b3⟩ : P = (false, 2) ∧ _)
          clear b3 hp3 k0 k1 j0 j1 hg hg2 hp HM2
          go_wp2
          go_ret2
          exact ⟨by rw [HF0.out.1]; rfl, HF0.out.2⟩
        | true =>
          rintro e w3 ⟨rfl, b3⟩
          replace k0 := b3.keep k0
          replace k1 := b3.keep k1
          replace j0 := b3.keep j0
          replace j1 := b3.keep j1
          have HB3 := Lib.hid (HB.out.next b3)
          have HA3 := Lib.hid (HA.out S rfl hg w3 HB3.out)
          have HA4 := Lib.hid (fun W hB => HA1.out S rfl hg2 W hB)
          have HPY := Lib.hid (HP4.out S rfl rfl hg hg2 hp)
          obtain ⟨hnS, hxn⟩ := HXN.out S hp
          have HXM := Lib.hid hxn
          clear b3 hp3 hg hg2 hp HM2 HB HA HA1 HP4 HXN hxn
          generalize adF xss = f at HA3 HSF HPY
          generalize adF yss = g at HA4 HSG HPY
          go_wp2_with fail
          refine HA3.out.mono ?_
          rintro e w4 ⟨a4, c4, rfl, o4, b4⟩
          replace k0 := b4.keep k0
          replace k1 := b4.keep k1
          replace j0 := b4.keep j0
          replace j1 := b4.keep j1
          have HB4 := Lib.hid (HB3.out.next b4)
          have HO4 := Lib.hid o4.rd
          have HA5 := Lib.hid (HA4.out w4 HB4.out)
          clear o4 b4 HA3 HA4
          go_wp2_with fail
          refine HA5.out.mono ?_
          rintro e w5 ⟨a5, c5, rfl, o5, b5⟩
          have HB5 := Lib.hid (HB4.out.next b5)
          have HO5 := Lib.hid o5.rd
          have HO45 := Lib.hid (HO4.out.below b5)
          clear o5 b5 HA5 k0 k1 j0 j1
          subst hnS
          have HKL := Lib.hid (fun (k : Nat) (hk : k < n2) (lb loff : Nat) (he : a2 = some ⟨lb, loff, none⟩) W (hq : Qt w5 W) => keepsLast n2 k hk hS8 f g a4 c4 a5 c5 lb loff c2 (fun j => (xs.getD j 0).toNat) (fun j hj => by
              obtain ⟨m, e1, e2⟩ := HXM.out j (by omega)
              show (xs.getD j 0).toNat < n2
              rw [e1, Int.toNat_natCast]; exact e2) W (HO45.out.qt hq) (HO5.out.qt hq) (fun j hj => by
              obtain ⟨b, o, e1, e2⟩ := HL.out W (HB5.out.qt hq) j (by omega)
              rw [he] at e1
              simp only [Option.some.injEq, Addr.mk.injEq, and_true] at e1
              obtain ⟨rfl, rfl⟩ := e1
              obtain ⟨m, e3, e4⟩ := HXM.out j (by omega)
              rw [e2, e3, Int.toNat_natCast]))
          have HNO := Lib.hid (fun k (hk : k < n2) (e : klB f g (fun j => (xs.getD j 0).toNat) k = false) => isoM_kl_no (S := n2) hk e)
          have HYES := Lib.hid (fun (e : ∀ k, k < n2 → klB f g (fun j => (xs.getD j 0).toNat) k = true) => isoM_kl_yes HSF.out HSG.out e)
          generalize isoM f g (fun j => (xs.getD j 0).toNat) n2 = RB at HPY HNO HYES
          obtain ⟨lb, loff, hle, _⟩ := HL.out w5 HB5.out 0 (by omega)
          subst hle
          clear HO4 HO5 HO45
          generalize (fun j => (xs.getD j 0).toNat) = mm at HKL HNO HYES
          go_wp2
          go_loopw [45] (fun v wr => ∃ k : Nat, k ≤ n2 ∧ v = .int .i64 k ∧ Qt w5 wr ∧ Hid (∀ i, i < k → klB f g mm i = true)) (fun v _ => n2 - (intOf v).toNat)
          case atStart => exact ⟨0, Nat.zero_le _, rfl, Qt.refl _, Lib.hid (fun i hi => by omega)⟩
          case round =>
            obtain ⟨k, hk, rfl, hq, HA⟩ := hrel
            by_cases hlt : k < n2
            · have HK1 := Lib.hid (HKL.out k hlt lb loff rfl wr hq)
              have HQ := Lib.hid hq
              have hno := HNO.out k hlt
              have hkn : (k : Int) < (n2 : Int) := by omega
              obtain ⟨K, hK⟩ : ∃ K, K = k + 1 := ⟨_, rfl⟩
              have t1 : IntKind.i64.wrap ((k : Int) + 1) = (K : Int) := by rw [show (k : Int) + 1 = (K : Int) by omega]; exact IntWalk.i64_in _ (by omega)
              have t2 : wrap64 ((k : Int) + 1) = (K : Int) := by rw [show (k : Int) + 1 = (K : Int) by clear t1; omega]; exact IntWalk.wrap64_in _ (by clear t1; omega)
              have hK0 : (0 : Int) ≤ (K : Int) := by clear t1 t2; omega
              have hKc : (K : Int) ≤ (c2 : Int) := by clear t1 t2; omega
              have hKn : K ≤ c2 := by clear t1 t2; omega
              rw [← hK] at HK1
              have HKE := Lib.hid hK
              clear hq hK
              go_wp2_with fail
              refine HK1.out.mono ?_
              cases hkl : klB f g mm k with
              | false =>
                rintro e w6 ⟨rfl, q6⟩
                have HF := Lib.hid (hno hkl)
                have HB6 := Lib.hid (HB5.out.qt (HQ.out.trans q6))
                clear hno hkl q6 t1 t2 HK1
                go_wp2
                go_ret2
                exact ⟨by rw [HPY.out, HF.out]; rfl, HB6.out⟩
              | true =>
                rintro e w6 ⟨rfl, q6⟩
                have HA2 := Lib.hid (fun i (hi : i < k + 1) => show klB f g mm i = true by
                  by_cases e : i = k
                  · subst e; exact hkl
                  · exact HA.out i (by omega))
                have HQ6 := Lib.hid (HQ.out.trans q6)
                clear hno hkl q6 t1 t2 HK1
                go_wp2
                go_roundw
                case rel => exact ⟨k+1, by omega, by go_num, HQ6.out, HA2⟩
                case measure => simp [intOf]; omega
            · obtain rfl : k = n2 := by omega
              have HF := Lib.hid (HYES.out HA.out)
              have HB6 := Lib.hid (HB5.out.qt hq)
              clear hq
              go_wp2
              go_ret2
              exact ⟨by rw [HPY.out, HF.out]; rfl, HB6.out⟩
      · have hb : (s != t) = true := by simpa using hst
        have HF0 := Lib.hid (hp3 (fun x => hst x.1))
        clear hp3 hst k1 j1 hg hg2 hs hS1 hS8
        go_wp2
        go_ret2
        exact ⟨by rw [HF0.out]; rfl, HB.out⟩

end Go.Proofs.Ytolipjemabmlkaa
