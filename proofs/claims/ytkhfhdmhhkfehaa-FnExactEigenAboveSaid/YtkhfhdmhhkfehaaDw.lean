/- DeterminantWhole, both sides. -/
import Derived.Test.YtkhfhdmhhkfehaaChI
set_option linter.unusedSimpArgs false
set_option linter.unusedVariables false
set_option maxRecDepth 100000
namespace Go.Proofs.Ytkhfhdmhhkfehaa
open Go.RowKit

theorem isWithinL (x l : Int) (hl : 0 ≤ l) (hl' : l ≤ 1000000000000000) (w : World) :
    Calls Try.prog 54 #[.int .i64 x, .int .i64 l] w fun e w' => e = .returned (.bool (decide (-l ≤ x) && decide (x ≤ l))) ∧ Qt w w' := by
  by_cases h1 : -l ≤ x
  · go_enter Try.func54, Try.ntmps54
    go_wp2
    go_ret
    exact ⟨by first | (simp [*]; done) | (simp [*]; intros; omega), Qt.refl _⟩
  · go_enter Try.func54, Try.ntmps54
    go_wp2
    go_ret
    exact ⟨by first | (simp [*]; done) | (simp [*]; intros; omega), Qt.refl _⟩

def ent (xss : List (List Int)) : Nat → Nat → Int := fun i j => (xss.getD i []).getD j 0
/-- the rows are square and small -/
def dwP (xss : List (List Int)) : Prop := xss.length ≤ 8 ∧ ∀ i, i < xss.length → (xss.getD i []).length = xss.length ∧ ∀ k, k < xss.length → -20 ≤ ent xss i k ∧ ent xss i k ≤ 20
instance (xss : List (List Int)) : Decidable (dwP xss) := by unfold dwP; infer_instance
def dwOf (xss : List (List Int)) : List Int × Int := if dwP xss then (trim (dkL (ent xss) xss.length), 0) else ([], 2)
theorem dw_tab {xss : List (List Int)} (h : dwP xss) : xss = tab xss.length (ent xss) := by
  apply List.ext_getElem
  · rw [tab_len]
  · intro i h1 h2
    have e1 : xss.getD i [] = xss[i] := by simp [List.getD, List.getElem?_eq_getElem h1]
    have hl := (h.2 i h1).1
    rw [e1] at hl
    simp only [tab, List.getElem_map, List.getElem_range]
    apply List.ext_getElem
    · simp [hl]
    · intro j h3 h4
      simp [ent, List.getD, List.getElem?_eq_getElem h1, List.getElem?_eq_getElem h3]
theorem dw_fits {xss : List (List Int)} (h : dwP xss) : fits (ent xss) xss.length := fits_small _ _ h.1 fun i j hi hj => (h.2 i hi).2 j hj

set_option maxHeartbeats 3200000 in
theorem implDw {lo hi : Nat} (a : Option Addr) (n c : Nat) (xss : List (List Int)) (w : World) (h : RdR lo hi w (.slice a n c) xss) (hn : xss.length = n) :
    Calls Try.prog 18 #[.slice a n c] w fun e w' => ∃ a' c', e = .returned (.tuple #[.slice a' (dwOf xss).1.length c', .int .i64 (dwOf xss).2]) ∧ OwI w.heap.size w'.heap.size w' (.slice a' (dwOf xss).1.length c') (dwOf xss).1 ∧ Below w.heap.size w w' := by
  have HD := Lib.hid (fun (hp : dwP xss) W (hB : Below w.heap.size w W) => detPoly n (ent xss) a c W (by have := h.below hB; rw [dw_tab hp, hn] at this; exact this) (by have := hp.1; omega) (by have := dw_fits hp; rw [hn] at this; exact this))
  have HR := Lib.hid (fun W (hB : Qt w W) => (h.qt hB).at hn)
  have HN := Lib.hid hn
  obtain ⟨P, hP⟩ : ∃ P, P = dwOf xss := ⟨_, rfl⟩
  have HNO := Lib.hid (fun (h : ¬ dwP xss) => (show P = ([], 2) by rw [hP]; unfold dwOf; rw [if_neg h]))
  have HYES := Lib.hid (fun (h : dwP xss) => (show P = (trim (dkL (ent xss) n), 0) by rw [hP]; unfold dwOf; rw [if_pos h, hn]))
  rw [← hP]
  clear hP
  clear h hn
  by_cases h8 : n ≤ 8
  · have g8 : decide ((8 : Int) < (n : Int)) = false := decide_eq_false (by omega)
    go_enter Try.func18, Try.ntmps18
    go_wp2
    go_loopw [13] (fun v wr => ∃ q : Nat, q ≤ n ∧ v = .int .i64 q ∧ Qt w wr ∧ Hid (∀ i, i < q → (xss.getD i []).length = n ∧ ∀ k, k < n → -20 ≤ ent xss i k ∧ ent xss i k ≤ 20)) (fun v _ => n - (intOf v).toNat)
    case atStart => exact ⟨0, Nat.zero_le _, rfl, Qt.refl _, Lib.hid (fun i hi => by omega)⟩
    case round =>
      obtain ⟨q, hq, rfl, hqt, HOK⟩ := hrel
      obtain ⟨U, rfl⟩ : ∃ U, U = wr := ⟨_, rfl⟩
      by_cases hlq : q < n
      · obtain ⟨b, off, rv, rfl, e2, e3⟩ := HR.out U hqt q hlq
        obtain ⟨a', c', rfl⟩ := e3.shape
        have HE3 := Lib.hid e3
        have HC := Lib.hid (fun W (hB : Qt U W) => (e3.qt hB).at rfl)
        obtain ⟨L, hL⟩ : ∃ L, L = (xss.getD q []).length := ⟨_, rfl⟩
        rw [← hL] at e2 HC
        have HL := Lib.hid hL
        clear e3 HE3 hL
        by_cases hLn : L = n
        · subst hLn
          have gL : (((L : Int)) != (L : Int)) = false := by simp
          go_wp2
          go_loopw [24] (fun v wr' => ∃ k : Nat, k ≤ L ∧ v = .int .i64 k ∧ Qt U wr' ∧ Hid (∀ j, j < k → -20 ≤ ent xss q j ∧ ent xss q j ≤ 20)) (fun v _ => L - (intOf v).toNat)
          case atStart => exact ⟨0, Nat.zero_le _, rfl, Qt.refl _, Lib.hid (fun i hi => by omega)⟩
          case round =>
            rename_i hrel
            obtain ⟨k, hk, rfl, hqt2, HOK2⟩ := hrel
            by_cases hlk : k < L
            · obtain ⟨b2, off2, rfl, f2⟩ := HC.out _ hqt2 k hlk
              have hent : (xss.getD q []).getD k 0 = ent xss q k := rfl
              rw [hent] at f2
              obtain ⟨x, hx⟩ : ∃ x, x = ent xss q k := ⟨_, rfl⟩
              rw [← hx] at f2
              have HX := Lib.hid hx
              clear hx hent
              go_wp2_with fail
              refine (isWithinL x 20 (by omega) (by omega) _).mono ?_
              by_cases hin : -20 ≤ x ∧ x ≤ 20
              · have hb : (decide (-20 ≤ x) && decide (x ≤ 20)) = true := by simp [hin]
                rw [hb]
                rintro e w5 ⟨rfl, q5⟩
                have HNX := Lib.hid (⟨hqt2.trans q5, fun j hj => by
                  by_cases e : j = k
                  · subst e; rw [← HX.out]; exact hin
                  · exact HOK2.out j (by omega)⟩ : Qt U w5 ∧ (∀ j, j < k + 1 → -20 ≤ ent xss q j ∧ ent xss q j ≤ 20))
                clear hqt2 HOK2 f2 q5 hin hb
                go_wp2
                go_roundw
                case rel => exact ⟨k+1, by omega, by go_num, HNX.out.1, Lib.hid HNX.out.2⟩
                case measure => simp [intOf]; omega
              · have hb : (decide (-20 ≤ x) && decide (x ≤ 20)) = false := by
                  cases hh : (decide (-20 ≤ x) && decide (x ≤ 20)) with
                  | false => rfl
                  | true => simp at hh; exact absurd hh hin
                rw [hb]
                rintro e w5 ⟨rfl, q5⟩
                have hno := HNO.out (fun hp => hin (by rw [HX.out]; exact (hp.2 q (by rw [HN.out]; exact hlq)).2 k (by rw [HN.out]; exact hlk)))
                have HB := Lib.hid (⟨(hqt.trans hqt2).trans q5, hno⟩ : _ ∧ _)
                clear hqt2 HOK2 f2 q5 hin hb hno
                go_wp2
                go_ret2
                exact ⟨none, 0, by rw [HB.out.2]; rfl, by rw [HB.out.2]; exact OwI.nil' _ _ _, HB.out.1.below⟩
            · obtain rfl : k = L := by omega
              have HNX := Lib.hid (⟨hqt.trans hqt2, fun i hi => by
                  by_cases e : i = q
                  · subst e; exact ⟨HL.out.symm, HOK2.out⟩
                  · exact HOK.out i (by omega)⟩ : Qt w _ ∧ (∀ i, i < q + 1 → (xss.getD i []).length = k ∧ ∀ j, j < k → -20 ≤ ent xss i j ∧ ent xss i j ≤ 20))
              clear hqt hqt2 HOK HOK2 e2
              go_wp2
              go_roundw
              case rel => exact ⟨q+1, by omega, by go_num, HNX.out.1, Lib.hid HNX.out.2⟩
              case measure => simp [intOf]; omega
        · have gL : (((L : Int)) != (n : Int)) = true := by simp; omega
          have hno := HNO.out (fun hp => hLn (by rw [HL.out, (hp.2 q (by rw [HN.out]; exact hlq)).1, HN.out]))
          have HB := Lib.hid hno
          clear hLn HOK hno
          go_wp2
          go_ret2
          exact ⟨none, 0, by rw [HB.out]; rfl, by rw [HB.out]; exact OwI.nil' _ _ _, hqt.below⟩
      · obtain rfl : q = n := by omega
        have hp : dwP xss := ⟨by rw [HN.out]; exact h8, fun i hi => by rw [HN.out] at hi ⊢; exact HOK.out i hi⟩
        have hD := HD.out hp U hqt.below
        have HDD := Lib.hid hD
        have HB := Lib.hid (⟨hqt.below, HYES.out hp⟩ : _ ∧ _)
        clear hqt HOK hp hD
        go_wp2_with fail
        refine HDD.out.mono ?_
        rintro e w2 ⟨a2, c2, rfl, o2, b2⟩
        have HF := Lib.hid (⟨OwI.mono o2 HB.out.1.size (Nat.le_refl _), HB.out.1.next b2⟩ : _ ∧ _)
        clear o2 b2 HDD
        go_wp2
        go_ret2
        exact ⟨a2, c2, by rw [HB.out.2]; rfl, by rw [HB.out.2]; exact HF.out.1, HF.out.2⟩
  · have g8 : decide ((8 : Int) < (n : Int)) = true := decide_eq_true (by omega)
    have hno := HNO.out (fun hp => h8 (by have := hp.1; rw [HN.out] at this; exact this))
    have HB := Lib.hid hno
    clear hno
    go_enter Try.func18, Try.ntmps18
    go_wp2
    go_ret2
    exact ⟨none, 0, by rw [HB.out]; rfl, by rw [HB.out]; exact OwI.nil' _ _ _, Below.refl _ _⟩

theorem specBkD {lo hi : Nat} (n : Nat) (A : Nat → Nat → Int) (a : Option Addr) (c : Nat) (w : World) (h : RdR lo hi w (.slice a n c) (tab n A)) (hn : n ≤ 20) (hf : fits A n) :
    Calls Try.prog 52 #[.slice a n c] w fun e w' => ∃ a' c', e = .returned (.slice a' (trim (dkL A n)).length c') ∧ OwI w.heap.size w'.heap.size w' (.slice a' (trim (dkL A n)).length c') (trim (dkL A n)) ∧ Below w.heap.size w w' := by
  have HD := specBk n A a c w h hn
  rw [nowB_dk n A hf] at HD
  exact HD

set_option maxHeartbeats 3200000 in
theorem specDw {lo hi : Nat} (a : Option Addr) (n c : Nat) (xss : List (List Int)) (w : World) (h : RdR lo hi w (.slice a n c) xss) (hn : xss.length = n) :
    Calls Try.prog 16 #[.slice a n c] w fun e w' => ∃ a' c', e = .returned (.tuple #[.slice a' (dwOf xss).1.length c', .int .i64 (dwOf xss).2]) ∧ OwI w.heap.size w'.heap.size w' (.slice a' (dwOf xss).1.length c') (dwOf xss).1 ∧ Below w.heap.size w w' := by
  have HD := Lib.hid (fun (hp : dwP xss) W (hB : Below w.heap.size w W) => specBkD n (ent xss) a c W (by have := h.below hB; rw [dw_tab hp, hn] at this; exact this) (by have := hp.1; omega) (by have := dw_fits hp; rw [hn] at this; exact this))
  have HR := Lib.hid (fun W (hB : Qt w W) => (h.qt hB).at hn)
  have HN := Lib.hid hn
  obtain ⟨P, hP⟩ : ∃ P, P = dwOf xss := ⟨_, rfl⟩
  have HNO := Lib.hid (fun (h : ¬ dwP xss) => (show P = ([], 2) by rw [hP]; unfold dwOf; rw [if_neg h]))
  have HYES := Lib.hid (fun (h : dwP xss) => (show P = (trim (dkL (ent xss) n), 0) by rw [hP]; unfold dwOf; rw [if_pos h, hn]))
  rw [← hP]
  clear hP
  clear h hn
  by_cases h8 : n ≤ 8
  · have g8 : decide ((8 : Int) < (n : Int)) = false := decide_eq_false (by omega)
    go_enter Try.func16, Try.ntmps16
    go_wp2
    go_loopw [4] (fun v wr => ∃ q : Nat, q ≤ n ∧ v = .int .i64 q ∧ Qt w wr ∧ Hid (∀ i, i < q → (xss.getD i []).length = n ∧ ∀ k, k < n → -20 ≤ ent xss i k ∧ ent xss i k ≤ 20)) (fun v _ => n - (intOf v).toNat)
    case atStart => exact ⟨0, Nat.zero_le _, rfl, Qt.refl _, Lib.hid (fun i hi => by omega)⟩
    case round =>
      obtain ⟨q, hq, rfl, hqt, HOK⟩ := hrel
      obtain ⟨U, rfl⟩ : ∃ U, U = wr := ⟨_, rfl⟩
      by_cases hlq : q < n
      · obtain ⟨b, off, rv, rfl, e2, e3⟩ := HR.out U hqt q hlq
        obtain ⟨a', c', rfl⟩ := e3.shape
        have HE3 := Lib.hid e3
        have HC := Lib.hid (fun W (hB : Qt U W) => (e3.qt hB).at rfl)
        obtain ⟨L, hL⟩ : ∃ L, L = (xss.getD q []).length := ⟨_, rfl⟩
        rw [← hL] at e2 HC
        have HL := Lib.hid hL
        clear e3 HE3 hL
        by_cases hLn : L = n
        · subst hLn
          have gL : (((L : Int)) != (L : Int)) = false := by simp
          go_wp2
          go_loopw [5] (fun v wr' => ∃ k : Nat, k ≤ L ∧ v = .int .i64 k ∧ Qt U wr' ∧ Hid (∀ j, j < k → -20 ≤ ent xss q j ∧ ent xss q j ≤ 20)) (fun v _ => L - (intOf v).toNat)
          case atStart => exact ⟨0, Nat.zero_le _, rfl, Qt.refl _, Lib.hid (fun i hi => by omega)⟩
          case round =>
            rename_i hrel
            obtain ⟨k, hk, rfl, hqt2, HOK2⟩ := hrel
            by_cases hlk : k < L
            · obtain ⟨b2, off2, rfl, f2⟩ := HC.out _ hqt2 k hlk
              have f1 := hqt2.cell e2
              have hkn : (k : Int) < (L : Int) := by omega
              have hent : (xss.getD q []).getD k 0 = ent xss q k := rfl
              rw [hent] at f2
              obtain ⟨x, hx⟩ : ∃ x, x = ent xss q k := ⟨_, rfl⟩
              rw [← hx] at f2
              have HX := Lib.hid hx
              clear hx hent
              go_wp2_with fail
              refine (l01In x (-20) 20 _).mono ?_
              by_cases hin : -20 ≤ x ∧ x ≤ 20
              · have hb : (decide (-20 ≤ x) && decide (x ≤ 20)) = true := by simp [hin]
                rw [hb]
                rintro e w5 ⟨rfl, q5⟩
                have HNX := Lib.hid (⟨hqt2.trans q5, fun j hj => by
                  by_cases e : j = k
                  · subst e; rw [← HX.out]; exact hin
                  · exact HOK2.out j (by omega)⟩ : Qt U w5 ∧ (∀ j, j < k + 1 → -20 ≤ ent xss q j ∧ ent xss q j ≤ 20))
                clear hqt2 HOK2 f1 f2 q5 hin hb
                go_wp2
                go_roundw
                case rel => exact ⟨k+1, by omega, by go_num, HNX.out.1, Lib.hid HNX.out.2⟩
                case measure => simp [intOf]; omega
              · have hb : (decide (-20 ≤ x) && decide (x ≤ 20)) = false := by
                  cases hh : (decide (-20 ≤ x) && decide (x ≤ 20)) with
                  | false => rfl
                  | true => simp at hh; exact absurd hh hin
                rw [hb]
                rintro e w5 ⟨rfl, q5⟩
                have hno := HNO.out (fun hp => hin (by rw [HX.out]; exact (hp.2 q (by rw [HN.out]; exact hlq)).2 k (by rw [HN.out]; exact hlk)))
                have HB := Lib.hid (⟨(hqt.trans hqt2).trans q5, hno⟩ : _ ∧ _)
                clear hqt2 HOK2 f1 f2 q5 hin hb hno
                go_wp2
                go_ret2
                exact ⟨none, 0, by rw [HB.out.2]; rfl, by rw [HB.out.2]; exact OwI.nil' _ _ _, HB.out.1.below⟩
            · obtain rfl : k = L := by omega
              have HNX := Lib.hid (⟨hqt.trans hqt2, fun i hi => by
                  by_cases e : i = q
                  · subst e; exact ⟨HL.out.symm, HOK2.out⟩
                  · exact HOK.out i (by omega)⟩ : Qt w _ ∧ (∀ i, i < q + 1 → (xss.getD i []).length = k ∧ ∀ j, j < k → -20 ≤ ent xss i j ∧ ent xss i j ≤ 20))
              clear hqt hqt2 HOK HOK2 e2
              go_wp2
              go_roundw
              case rel => exact ⟨q+1, by omega, by go_num, HNX.out.1, Lib.hid HNX.out.2⟩
              case measure => simp [intOf]; omega
        · have gL : (((L : Int)) != (n : Int)) = true := by simp; omega
          have hno := HNO.out (fun hp => hLn (by rw [HL.out, (hp.2 q (by rw [HN.out]; exact hlq)).1, HN.out]))
          have HB := Lib.hid hno
          clear hLn HOK hno
          go_wp2
          go_ret2
          exact ⟨none, 0, by rw [HB.out]; rfl, by rw [HB.out]; exact OwI.nil' _ _ _, hqt.below⟩
      · obtain rfl : q = n := by omega
        have hp : dwP xss := ⟨by rw [HN.out]; exact h8, fun i hi => by rw [HN.out] at hi ⊢; exact HOK.out i hi⟩
        have hD := HD.out hp U hqt.below
        have HDD := Lib.hid hD
        have HB := Lib.hid (⟨hqt.below, HYES.out hp⟩ : _ ∧ _)
        clear hqt HOK hp hD
        go_wp2_with fail
        refine HDD.out.mono ?_
        rintro e w2 ⟨a2, c2, rfl, o2, b2⟩
        have HF := Lib.hid (⟨OwI.mono o2 HB.out.1.size (Nat.le_refl _), HB.out.1.next b2⟩ : _ ∧ _)
        clear o2 b2 HDD
        go_wp2
        go_ret2
        exact ⟨a2, c2, by rw [HB.out.2]; rfl, by rw [HB.out.2]; exact HF.out.1, HF.out.2⟩
  · have g8 : decide ((8 : Int) < (n : Int)) = true := decide_eq_true (by omega)
    have hno := HNO.out (fun hp => h8 (by have := hp.1; rw [HN.out] at this; exact this))
    have HB := Lib.hid hno
    clear hno
    go_enter Try.func16, Try.ntmps16
    go_wp2
    go_ret2
    exact ⟨none, 0, by rw [HB.out]; rfl, by rw [HB.out]; exact OwI.nil' _ _ _, Below.refl _ _⟩

end Go.Proofs.Ytkhfhdmhhkfehaa
