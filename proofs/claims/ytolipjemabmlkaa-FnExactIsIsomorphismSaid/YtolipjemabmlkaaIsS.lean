/- IsIsomorphism, by the model. -/
import Derived.Test.YtolipjemabmlkaaIsI
import Derived.Deep.RegionHeld3
set_option linter.unusedSimpArgs false
set_option linter.unusedVariables false
set_option maxRecDepth 100000
namespace Go.Proofs.Ytolipjemabmlkaa
open Go.RowKit

set_option maxHeartbeats 6400000 in
theorem specIso {lo hi lo1 hi1 lo2 hi2 : Nat} (s : Int) (a : Option Addr) (n c : Nat) (xss : List (List Int)) (t : Int) (a1 : Option Addr) (n1 c1 : Nat) (yss : List (List Int)) (a2 : Option Addr) (n2 c2 : Nat) (xs : List Int) (w : World) (h : RdR lo hi w (.slice a n c) xss) (hn : xss.length = n) (h1 : RdR lo1 hi1 w (.slice a1 n1 c1) yss) (hn1 : yss.length = n1) (h2 : RdI lo2 hi2 w (.slice a2 n2 c2) xs) (hl : xs.length = n2) :
    Calls Try.prog 28 #[.agg #[.int .i64 s, .slice a n c], .agg #[.int .i64 t, .slice a1 n1 c1], .slice a2 n2 c2] w fun e w' => e = .returned (.tuple #[.bool (isoOf s xss t yss xs).1, .int .i64 (isoOf s xss t yss xs).2]) ∧ Below w.heap.size w w' := by
  have hb0 : ∀ o o', Below w.heap.size w ((w.alloc o).alloc o') := fun o o' => ((Below.refl _ _).alloc (Nat.le_refl _) o).alloc (by simp) o'
  have HI := Lib.hid (fun W (hB : Below w.heap.size w W) => l01Is s a n c xss W (h.below hB) hn)
  have HJ := Lib.hid (fun W (hB : Below w.heap.size w W) => l01Is t a1 n1 c1 yss W (h1.below hB) hn1)
  have HM := Lib.hid (fun (g1 : 1 ≤ s) (g2 : s ≤ 8) W (hB : Below w.heap.size w W) => l08Map a2 n2 c2 xs s W (h2.below hB) hl g1 g2)
  have HA := Lib.hid (fun (S : Nat) (hs : s = (S : Int)) (hg : grB (S : Int) xss = true) W (hB : Below w.heap.size w W) => show Calls Try.prog 56 #[.agg #[.int .i64 (S : Int), .slice a n c]] W fun e w' => ∃ a' c', e = .returned (.slice a' S c') ∧ OwR W.heap.size w'.heap.size w' (.slice a' S c') (tab S (adF xss)) ∧ Below W.heap.size W w' from
    (l01Adjacency S a n c xss W (h.below hB) hn hg).mono fun e w' ⟨a', c', he, ho, hb⟩ => ⟨a', c', he, by rw [← hn, adZ_tab hg S] at ho; exact ho, hb⟩)
  have HA1 := Lib.hid (fun (S : Nat) (hs : t = (S : Int)) (hg : grB (S : Int) yss = true) W (hB : Below w.heap.size w W) => show Calls Try.prog 56 #[.agg #[.int .i64 (S : Int), .slice a1 n1 c1]] W fun e w' => ∃ a' c', e = .returned (.slice a' S c') ∧ OwR W.heap.size w'.heap.size w' (.slice a' S c') (tab S (adF yss)) ∧ Below W.heap.size W w' from
    (l01Adjacency S a1 n1 c1 yss W (h1.below hB) hn1 hg).mono fun e w' ⟨a', c', he, ho, hb⟩ => ⟨a', c', he, by rw [← hn1, adZ_tab hg S] at ho; exact ho, hb⟩)
  have HL := Lib.hid (fun W (hB : Below w.heap.size w W) => (h2.below hB).at hl)
  have HXN := Lib.hid (fun (S : Nat) (hp : permB (S : Int) xs = true) => show n2 = S ∧ ∀ j, j < n2 → ∃ m : Nat, xs.getD j 0 = (m : Int) ∧ m < S from ⟨by have := permB_len hp; omega, fun j hj => by
    have := permB_in hp j (by omega)
    unfold inR at this
    simp only [Bool.and_eq_true, decide_eq_true_eq] at this
    exact ⟨(xs.getD j 0).toNat, by omega, by omega⟩⟩)
  have HSF := Lib.hid (adF_sym xss)
  have HSG := Lib.hid (adF_sym yss)
  obtain ⟨P, hP⟩ : ∃ P, P = isoOf s xss t yss xs := ⟨_, rfl⟩
  have HP1 := Lib.hid (fun hg => hP.trans (isoOf_no1 (t := t) (yss := yss) (xs := xs) hg))
  have HP2 := Lib.hid (fun hg => hP.trans (isoOf_no2 (s := s) (xss := xss) (xs := xs) hg))
  have HP3 := Lib.hid (fun hg hg2 h3 => hP.trans (isoOf_no3 hg hg2 h3))
  have HP4 := Lib.hid (fun (S : Nat) (e1 : s = (S : Int)) (e2 : t = (S : Int)) (hg : grB (S : Int) xss = true) (hg2 : grB (S : Int) yss = true) (h3 : permB (S : Int) xs = true) => show P = (isoM (adF xss) (adF yss) (fun j => (xs.getD j 0).toNat) S, 0) by rw [hP, e1, e2]; exact isoOf_yes hg hg2 h3)
  rw [← hP]
  have HNN := Lib.hid (fun (hg : grB s xss = true) => show ∃ S : Nat, s = (S : Int) ∧ 1 ≤ S ∧ S ≤ 8 from ⟨s.toNat, by have := grB_iff hg; omega, by have := grB_iff hg; omega, by have := grB_iff hg; omega⟩)
  clear h hn h1 hn1 h2 hl hP
  go_enter Try.func28, Try.ntmps28
  go_wp2_with fail
  refine calls_gen (fun W => Below w.heap.size w W ∧ W.cell? ⟨w.heap.size, 0, none⟩ = some (.int .i64 s) ∧ W.cell? ⟨w.heap.size, 1, none⟩ = some (.slice a n c) ∧ W.cell? ⟨w.heap.size + 1, 0, none⟩ = some (.int .i64 t) ∧ W.cell? ⟨w.heap.size + 1, 1, none⟩ = some (.slice a1 n1 c1)) ⟨hb0 _ _, by go_simp, by go_simp, by go_simp, by go_simp⟩ ?_
  rintro W ⟨hB, k0, k1, j0, j1⟩
  refine (HI.out W hB).mono ?_
  cases hg : grB s xss with
  | false =>
    rintro e w1 ⟨rfl, b1⟩
    have HF := Lib.hid (⟨hB.next b1, HP1.out hg⟩ : _ ∧ _)
    clear b1 hB k0 k1 j0 j1 hg
    go_wp2
    go_ret2
    exact ⟨by rw [HF.out.2]; rfl, HF.out.1⟩
  | true =>
    rintro e w1 ⟨rfl, b1⟩
    replace k0 := b1.keep k0
    replace k1 := b1.keep k1
    replace j0 := b1.keep j0
    replace j1 := b1.keep j1
    replace hB := hB.next b1
    clear b1
    go_wp2_with fail
    refine (HJ.out w1 hB).mono ?_
    cases hg2 : grB t yss with
    | false =>
      rintro e w2 ⟨rfl, b2⟩
      have HF := Lib.hid (⟨hB.next b2, HP2.out hg2⟩ : _ ∧ _)
      clear b2 hB k0 k1 j0 j1 hg hg2
      go_wp2
      go_ret2
      exact ⟨by rw [HF.out.2]; rfl, HF.out.1⟩
    | true =>
      rintro e w2 ⟨rfl, b2⟩
      replace k0 := b2.keep k0
      replace k1 := b2.keep k1
      replace j0 := b2.keep j0
      replace j1 := b2.keep j1
      have HB := Lib.hid (hB.next b2)
      have hp3 := HP3.out hg hg2
      obtain ⟨S, hs, hS1, hS8⟩ := HNN.out hg
      clear b2 hB HI HJ HP1 HP2 HP3 HNN
      by_cases hst : s = t
      · subst hs
        subst hst
        have HM2 := Lib.hid (HM.out (by omega) (by omega) w2 HB.out)
        have hb : ((S : Int) != (S : Int)) = false := by simp
        clear HM
        go_wp2_with fail
        refine HM2.out.mono ?_
        cases hp : permB (S : Int) xs with
        | false =>
          rintro e w3 ⟨rfl, b3⟩
          have HF0 := Lib.hid (⟨hp3 (fun x => by rw [hp] at x; exact absurd x.2 (by simp)), HB.out.next b3⟩ : P = (false, 2) ∧ _)
          clear b3 hp3 k0 k1 j0 j1 hg hg2 hp HM2
          go_wp2
          go_ret2
          exact ⟨by rw [HF0.out.1]; rfl, HF0.out.2⟩
        | true =>
          rintro e w3 ⟨rfl, b3⟩
          replace k0 := b3.keep k0
          replace k1 := b3.keep k1
          replace j0 := b3.keep j0
          replace j1 := b3.keep j1
          have HB3 := Lib.hid (HB.out.next b3)
          have HA3 := Lib.hid (HA.out S rfl hg w3.drew HB3.out.drew)
          have HA4 := Lib.hid (fun W hB => HA1.out S rfl hg2 W hB)
          have HPY := Lib.hid (HP4.out S rfl rfl hg hg2 hp)
          obtain ⟨hnS, hxn⟩ := HXN.out S hp
          have HXM := Lib.hid hxn
          have k0d : w3.drew.cell? ⟨w.heap.size, 0, none⟩ = some (.int .i64 (S : Int)) := k0
          have k1d : w3.drew.cell? ⟨w.heap.size, 1, none⟩ = some (.slice a n c) := k1
          have j0d : w3.drew.cell? ⟨w.heap.size + 1, 0, none⟩ = some (.int .i64 (S : Int)) := j0
          have j1d : w3.drew.cell? ⟨w.heap.size + 1, 1, none⟩ = some (.slice a1 n1 c1) := j1
          clear b3 hp3 hg hg2 hp HM2 HB HA HA1 HP4 HXN hxn
          generalize adF xss = f at HA3 HSF HPY
          generalize adF yss = g at HA4 HSG HPY
          go_wp2
          go_region_held3 (fun W' => W'.cell? ⟨w.heap.size, 0, none⟩ = some (.int .i64 (S : Int)) ∧ W'.cell? ⟨w.heap.size, 1, none⟩ = some (.slice a n c) ∧ W'.cell? ⟨w.heap.size + 1, 0, none⟩ = some (.int .i64 (S : Int)) ∧ W'.cell? ⟨w.heap.size + 1, 1, none⟩ = some (.slice a1 n1 c1))
            (first | (with_reducible exact ⟨k0, k1, j0, j1⟩) | (with_reducible exact ⟨k0d, k1d, j0d, j1d⟩) | (with_reducible exact ⟨k04, k14, j04, j14⟩) | (with_reducible exact ⟨k05, k15, j05, j15⟩))
            (first
              | (go_at_call 56; (with_reducible refine HA3.out.mono ?_); rintro e w4 ⟨a4, c4, rfl, o4, b4⟩; have k04 := b4.keep k0d; have k14 := b4.keep k1d; have j04 := b4.keep j0d; have j14 := b4.keep j1d; have HB4 := Lib.hid (HB3.out.drew.next b4); have HA5 := Lib.hid (HA4.out w4 HB4.out))
              | (go_at_call 56; (with_reducible refine HA5.out.mono ?_); rintro e w5 ⟨a5, c5, rfl, o5, b5⟩; have k05 := b5.keep k04; have k15 := b5.keep k14; have j05 := b5.keep j04; have j15 := b5.keep j14))
          have HB5 := Lib.hid (HB4.out.next b5)
          have HO5 := Lib.hid o5.rd
          have HO45 := Lib.hid (o4.rd.below b5)
          clear o5 b5 HA5 k0 k1 j0 j1 k0d k1d j0d j1d k04 k14 j04 j14 k05 k15 j05 j15 o4 b4 HA3 HA4
          subst hnS
          have HF := Lib.hid (fun W (hq : Qt w5 W) i j (hi : i < n2) (hj : j < n2) => (HO45.out.qt hq).ent hi hj)
          have HG := Lib.hid (fun W (hq : Qt w5 W) i j (hi : i < n2) (hj : j < n2) => (HO5.out.qt hq).ent hi hj)
          obtain ⟨lb, loff, hle, _⟩ := HL.out w5 HB5.out 0 (by omega)
          subst hle
          have HLL := Lib.hid (fun W (hq : Qt w5 W) j (hj : j < n2) => show W.cell? ⟨lb, loff + j, none⟩ = some (.int .i64 (((xs.getD j 0).toNat : Nat) : Int)) by
              obtain ⟨b, o, e1, e2⟩ := HL.out W (HB5.out.qt hq) j hj
              simp only [Option.some.injEq, Addr.mk.injEq, and_true] at e1
              obtain ⟨rfl, rfl⟩ := e1
              obtain ⟨m, e3, e4⟩ := HXM.out j hj
              rw [e2, e3, Int.toNat_natCast])
          have HMS := Lib.hid (fun j (hj : j < n2) => show (xs.getD j 0).toNat < n2 by
              obtain ⟨m, e3, e4⟩ := HXM.out j hj
              rw [e3, Int.toNat_natCast]; exact e4)
          have HNO := Lib.hid (fun i j (hi : i < n2) (hj : j < n2) (e : f i j ≠ g ((fun j => (xs.getD j 0).toNat) i) ((fun j => (xs.getD j 0).toNat) j)) => isoM_no (f := f) (h := g) (m := fun j => (xs.getD j 0).toNat) (S := n2) hi hj e)
          have HYES := Lib.hid (fun (e : ∀ i, i < n2 → ∀ j, j < n2 → f i j = g ((fun j => (xs.getD j 0).toNat) i) ((fun j => (xs.getD j 0).toNat) j)) => isoM_yes (f := f) (h := g) (m := fun j => (xs.getD j 0).toNat) e)
          generalize isoM f g (fun j => (xs.getD j 0).toNat) n2 = RB at HPY HNO HYES
          dsimp only at HNO HYES
          obtain ⟨mm, hmm⟩ : ∃ mm : Nat → Nat, ∀ j, mm j = (xs.getD j 0).toNat := ⟨_, fun _ => rfl⟩
          simp only [← hmm] at HLL HMS HNO HYES
          clear HO5 HO45 HL hmm
          go_wp2
          go_loopw [10] (fun v wr => ∃ i : Nat, i ≤ n2 ∧ v = .int .i64 i ∧ Qt w5 wr ∧ Hid (∀ p, p < i → ∀ j, j < n2 → f p j = g (mm p) (mm j))) (fun v _ => n2 - (intOf v).toNat)
          case atStart => exact ⟨0, Nat.zero_le _, rfl, Qt.refl _, Lib.hid (fun i hi => by omega)⟩
          case round =>
            obtain ⟨i, hi, rfl, hq, HAI⟩ := hrel
            by_cases hlt : i < n2
            · have HQ := Lib.hid hq
              have hin : (i : Int) < (n2 : Int) := by omega
              clear hq
              go_wp2
              go_loopw [11] (fun v wr => ∃ j : Nat, j ≤ n2 ∧ v = .int .i64 j ∧ Qt w5 wr ∧ Hid (∀ q, q < j → f i q = g (mm i) (mm q))) (fun v _ => n2 - (intOf v).toNat)
              case atStart => exact ⟨0, Nat.zero_le _, rfl, HQ.out, Lib.hid (fun i hi => by omega)⟩
              case round =>
                rename_i hrel
                clear HQ
                obtain ⟨j, hj, rfl, hq, HAJ⟩ := hrel
                by_cases hltj : j < n2
                · have hmi := HMS.out i hlt
                  have hmj := HMS.out j hltj
                  have gi := HLL.out wr hq i hlt
                  have gj := HLL.out wr hq j hltj
                  obtain ⟨b, off, b', off', c', rfl, e2, e3⟩ := HF.out wr hq i j hlt hltj
                  obtain ⟨d, doff, d', doff', dc, rfl, u2, u3⟩ := HG.out wr hq (mm i) (mm j) hmi hmj
                  have hno := HNO.out i j hlt hltj
                  have HST := Lib.hid (fun (he : f i j = g (mm i) (mm j)) q (hq : q < j + 1) => show f i q = g (mm i) (mm q) by
                    by_cases e : q = j
                    · subst e; exact he
                    · exact HAJ.out q (by omega))
                  generalize hx : f i j = x at e3 hno
                  generalize hy : g (mm i) (mm j) = y at u3 hno
                  have HXY := Lib.hid (⟨hx, hy⟩ : _ ∧ _)
                  clear hx hy
                  obtain ⟨mi, hmi2⟩ : ∃ mi, mi = mm i := ⟨_, rfl⟩
                  obtain ⟨mj, hmj2⟩ : ∃ mj, mj = mm j := ⟨_, rfl⟩
                  rw [← hmi2] at hmi gi u2
                  rw [← hmj2] at hmj gj u3
                  clear hmi2 hmj2
                  have hjn : (j : Int) < (n2 : Int) := by omega
                  have hmiS : (mi : Int) < (n2 : Int) := by omega
                  have hmjS : (mj : Int) < (n2 : Int) := by omega
                  have hmi0 : (0 : Int) ≤ (mi : Int) := by omega
                  have hmj0 : (0 : Int) ≤ (mj : Int) := by omega
                  have HQ := Lib.hid hq
                  by_cases he : x = y
                  · have hbb : (x != y) = false := by simp [he]
                    have HN2 := Lib.hid (HST.out (by rw [HXY.out.1, HXY.out.2]; exact he))
                    clear hno he hq
                    go_wp2
                    go_quiet (fail)
                    go_wp2
                    go_roundw
                    case rel => exact ⟨j+1, by omega, by go_num, HQ.out.drewN _, HN2⟩
                    case measure => simp [intOf]; omega
                  · have hbb : (x != y) = true := by simpa using he
                    have HF0 := Lib.hid (hno he)
                    have HBQ := Lib.hid (HB5.out.qt HQ.out)
                    clear hno he hq
                    go_wp2
                    go_quiet (fail)
                    go_wp2
                    go_ret2
                    exact ⟨by rw [HPY.out, HF0.out]; rfl, HBQ.out.drewN _⟩
                · obtain rfl : j = n2 := by omega
                  have HA2 := Lib.hid (fun p (hp : p < i + 1) => show ∀ q, q < j → f p q = g (mm p) (mm q) by
                    by_cases e : p = i
                    · subst e; exact HAJ.out
                    · exact HAI.out p (by omega))
                  have HQ := Lib.hid hq
                  clear hq
                  go_wp2
                  go_roundw
                  case rel => exact ⟨i+1, by omega, by go_num, HQ.out, HA2⟩
                  case measure => simp [intOf]; omega
            · obtain rfl : i = n2 := by omega
              have HF0 := Lib.hid (HYES.out HAI.out)
              have HB6 := Lib.hid (HB5.out.qt hq)
              clear hq
              go_wp2
              go_ret2
              exact ⟨by rw [HPY.out, HF0.out]; rfl, HB6.out⟩
      · have hb : (s != t) = true := by simpa using hst
        have HF0 := Lib.hid (hp3 (fun x => hst x.1))
        clear hp3 hst k1 j1 hg hg2 hs hS1 hS8
        go_wp2
        go_ret2
        exact ⟨by rw [HF0.out]; rfl, HB.out⟩

end Go.Proofs.Ytolipjemabmlkaa
