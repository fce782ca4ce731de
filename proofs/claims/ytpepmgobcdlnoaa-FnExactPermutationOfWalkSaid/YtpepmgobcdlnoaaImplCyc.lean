/- CyclicCover of the program. -/
import Derived.Test.YtpepmgobcdlnoaaCyc
import Derived.Deep.RegionHeld3
import Derived.Deep.RegionLaw
set_option linter.unusedSimpArgs false
set_option linter.unusedVariables false
set_option maxRecDepth 100000
namespace Go.Proofs.Ytpepmgobcdlnoaa
open Go.RowKit

theorem RdI.cellsC {lo hi : Nat} {w : World} {a : Option Addr} {n c : Nat} {xs : List Int} (h : RdI lo hi w (.slice a n c) xs) (hn : xs.length = n) : ∀ j, j < n → ∃ b off, a = some ⟨b, off, none⟩ ∧ w.cell? ⟨b, off + j, none⟩ = some (.int .i64 (xs.getD j 0)) := by
  intro j hj
  obtain ⟨_, _, ⟨a', c', rfl, _⟩ | ⟨b, off, c', hv, _, _, _, hc⟩⟩ := h
  · simp at hn; omega
  · simp only [Value.slice.injEq] at hv
    obtain ⟨rfl, _, _⟩ := hv
    exact ⟨b, off, rfl, hc j (by omega)⟩


/-- a block of four cells -/
structure Box4 (w : World) (b : Nat) (v0 v1 v2 v3 : Value) : Prop where
  lt : b < w.heap.size
  c0 : w.cell? ⟨b, 0, none⟩ = some v0
  c1 : w.cell? ⟨b, 1, none⟩ = some v1
  c2 : w.cell? ⟨b, 2, none⟩ = some v2
  c3 : w.cell? ⟨b, 3, none⟩ = some v3
  f0 : w.frozen? ⟨b, 0, none⟩ = false
  f1 : w.frozen? ⟨b, 1, none⟩ = false
  f2 : w.frozen? ⟨b, 2, none⟩ = false
  f3 : w.frozen? ⟨b, 3, none⟩ = false
theorem Box4.chg {w w' : World} {b lo hi : Nat} {v0 v1 v2 v3 : Value} (h : Box4 w b v0 v1 v2 v3) (hc : Chg lo hi w w') (hb : b < lo ∨ hi ≤ b) : Box4 w' b v0 v1 v2 v3 :=
  ⟨Nat.lt_of_lt_of_le h.lt hc.size, hc.cell h.c0 hb, hc.cell h.c1 hb, hc.cell h.c2 hb, hc.cell h.c3 hb, hc.frozen h.lt hb h.f0, hc.frozen h.lt hb h.f1, hc.frozen h.lt hb h.f2, hc.frozen h.lt hb h.f3⟩
theorem Box4.below {w w' : World} {b : Nat} {v0 v1 v2 v3 : Value} (h : Box4 w b v0 v1 v2 v3) (hc : Below w.heap.size w w') : Box4 w' b v0 v1 v2 v3 := h.chg (hc.chg 0 0) (.inr (Nat.zero_le _))
theorem Box4.qt {w w' : World} {b : Nat} {v0 v1 v2 v3 : Value} (h : Box4 w b v0 v1 v2 v3) (hc : Qt w w') : Box4 w' b v0 v1 v2 v3 := h.below hc.below

def shB (sh : Int) : Bool := decide (1 ≤ sh) && decide (sh ≤ 4)
theorem isSheets (sh : Int) (w : World) : Calls Try.prog 66 #[.int .i64 sh] w fun e w' => e = .returned (.bool (shB sh)) ∧ Qt w w' := by
  by_cases h1 : 1 ≤ sh
  · go_enter Try.func66, Try.ntmps66
    go_wp2
    go_ret
    exact ⟨by first | (simp [shB, *]; done) | (simp [shB, *]; intros; omega), Qt.refl _⟩
  · go_enter Try.func66, Try.ntmps66
    go_wp2
    go_ret
    exact ⟨by first | (simp [shB, *]; done) | (simp [shB, *]; intros; omega), Qt.refl _⟩

def w1k (y : Int) : Bool := decide (-1000 ≤ y) && decide (y ≤ 1000)
theorem isWithin1k (y : Int) (w : World) : Calls Try.prog 74 #[.int .i64 y, .int .i64 1000] w fun e w' => e = .returned (.bool (w1k y)) ∧ Qt w w' := by
  by_cases h1 : -1000 ≤ y
  · go_enter Try.func74, Try.ntmps74
    go_wp2
    go_ret
    exact ⟨by first | (simp [w1k, *]; done) | (simp [w1k, *]; intros; omega), Qt.refl _⟩
  · go_enter Try.func74, Try.ntmps74
    go_wp2
    go_ret
    exact ⟨by first | (simp [w1k, *]; done) | (simp [w1k, *]; intros; omega), Qt.refl _⟩

def cycB (sh : Int) (n : Nat) (ys : List Int) : Bool := shB sh && (decide (ys.length = n) && ys.all w1k)
def cycCode (s : Int) (xss : List (List Int)) (sh : Int) (ys : List Int) : Int := if grB s xss then (if cycB sh xss.length ys then 0 else 2) else 1
theorem all_takeI {ys : List Int} {f : Int → Bool} {k : Nat} (hk : k < ys.length) (h : (ys.take k).all f = true) (e : f (ys.getD k 0) = true) : (ys.take (k+1)).all f = true := by
  rw [List.take_add_one, List.all_append, h, List.getElem?_eq_getElem hk]
  simp [List.getD, List.getElem?_eq_getElem hk] at e
  simp [e]
theorem all_notI {ys : List Int} {f : Int → Bool} {k : Nat} (hk : k < ys.length) (e : f (ys.getD k 0) = false) : ys.all f = false := by
  simp [List.getD, List.getElem?_eq_getElem hk] at e
  rw [List.all_eq_false]
  exact ⟨_, List.getElem_mem hk, by simp [e]⟩

set_option maxHeartbeats 1600000 in
theorem implCyc_no {lo hi lo' hi' : Nat} (s : Int) (a : Option Addr) (n c : Nat) (xss : List (List Int)) (sh : Int) (a2 : Option Addr) (n2 c2 : Nat) (ys : List Int) (w : World) (h : RdR lo hi w (.slice a n c) xss) (hn : xss.length = n)
    (h2 : RdI lo' hi' w (.slice a2 n2 c2) ys) (hn2 : ys.length = n2) (hc : cycCode s xss sh ys ≠ 0) :
    Calls Try.prog 35 #[.agg #[.int .i64 s, .slice a n c], .int .i64 sh, .slice a2 n2 c2] w fun e w' => e = .returned (.tuple #[.agg #[.int .i64 0, .slice none 0 0, .int .i64 0, .slice none 0 0], .int .i64 (cycCode s xss sh ys)]) ∧ Below w.heap.size w w' := by
  have hb0 : ∀ o o', Below w.heap.size w ((w.alloc o).alloc o') := fun o o' => ((Below.refl _ _).alloc (Nat.le_refl _) o).alloc (by simp) o'
  have HN := Lib.hid hn
  have HN2 := Lib.hid hn2
  have HCells := Lib.hid (h2.cellsC hn2)
  have hlen2 := h2.1
  rw [hn2] at hlen2
  have hlen1 := h.1
  rw [hn] at hlen1
  have fin : ∀ (e : Ending) (W W' : World) (R : Nat) (cd : Int), Below w.heap.size w W → w.heap.size ≤ R → Chg R (R+1) W W' → cycCode s xss sh ys = cd → e = .returned (.tuple #[.agg #[.int .i64 0, .slice none 0 0, .int .i64 0, .slice none 0 0], .int .i64 cd]) →
      e = .returned (.tuple #[.agg #[.int .i64 0, .slice none 0 0, .int .i64 0, .slice none 0 0], .int .i64 (cycCode s xss sh ys)]) ∧ Below w.heap.size w W' := by
    intro e W W' R cd hB hR hch hcd he
    exact ⟨by rw [he, hcd], hB.chgn hch hR hB.size⟩
  have HF := Lib.hid fin
  have HC := Lib.hid hc
  clear hn hn2 fin hc
  go_enter Try.func35, Try.ntmps35
  go_wp2_with fail
  obtain ⟨R, hR⟩ : ∃ R, R = w.heap.size + 1 := ⟨_, rfl⟩
  refine calls_gen (fun W => Below w.heap.size w W ∧ w.heap.size < W.heap.size ∧ W.cell? ⟨w.heap.size, 1, none⟩ = some (.slice a n c) ∧ Box4 W R (.int .i64 0) (.slice none 0 0) (.int .i64 0) (.slice none 0 0)) ⟨hb0 _ _, by simp; omega, by go_simp, ⟨?_, ?_, ?_, ?_, ?_, ?_, ?_, ?_, ?_⟩⟩ ?_
  · rw [hR]; simp
  iterate 8 (rw [hR]; go_simp)
  rw [← hR]
  have hRw : w.heap.size ≤ R ∧ ¬ w.heap.size = R ∧ ¬ R = w.heap.size := by omega
  obtain ⟨hRw, hR1, hR2⟩ := hRw
  clear hR
  rintro W ⟨hB, hz, k1, bx⟩
  refine (implIsGraph s a n c xss W (h.below hB) HN.out).mono ?_
  rintro e w1 ⟨rfl, b1⟩
  replace k1 := b1.keep k1
  replace bx := bx.below b1
  replace hB := hB.next b1
  clear b1
  cases hg : grB s xss with
  | false =>
    obtain ⟨_, r0, r1, r2, r3, g0, g1, g2, g3⟩ := bx
    have hcd : cycCode s xss sh ys = 1 := by unfold cycCode; rw [hg]; rfl
    have HCD := Lib.hid hcd
    clear hcd hg
    go_wp2
    refine bodyPost_ret (v := .tuple #[.agg #[.int .i64 0, .slice none 0 0, .int .i64 0, .slice none 0 0], .int .i64 1]) (by simp [results, Try.results35, go_sem, r0, r1, r2, r3]) rfl (HF.out _ _ _ R _ hB hRw ?_ HCD.out rfl)
    repeat (refine Chg.setCell ?_ (by constructor <;> simp <;> omega) _)
    exact Chg.refl _ _ _
  | true =>
    have hn10 : n ≤ 10 := by obtain ⟨_, _, h3, _⟩ := grB_iff hg; have := HN.out; omega
    have hcd : cycB sh xss.length ys = false → cycCode s xss sh ys = 2 := fun e => by unfold cycCode; rw [hg, e]; rfl
    have HCD := Lib.hid hcd
    have HG := Lib.hid hg
    clear hcd hg
    cases hs : shB sh with
    | false =>
      have hbad : cycCode s xss sh ys = 2 := HCD.out (by unfold cycB; rw [hs]; rfl)
      have HB := Lib.hid hbad
      clear hbad
      go_wp2_with fail
      refine (isSheets sh _).mono ?_
      rintro e w2 ⟨rfl, q2⟩
      rw [hs]
      replace hB := hB.qt q2
      obtain ⟨_, r0, r1, r2, r3, g0, g1, g2, g3⟩ := bx.qt q2
      clear q2 hs bx
      go_wp2
      refine bodyPost_ret (v := .tuple #[.agg #[.int .i64 0, .slice none 0 0, .int .i64 0, .slice none 0 0], .int .i64 2]) (by simp [results, Try.results35, go_sem, r0, r1, r2, r3]) rfl (HF.out _ _ _ R _ hB hRw ?_ HB.out rfl)
      repeat (refine Chg.setCell ?_ (by constructor <;> simp <;> omega) _)
      exact Chg.refl _ _ _
    | true =>
      go_wp2_with fail
      refine (isSheets sh _).mono ?_
      rintro e w2 ⟨rfl, q2⟩
      rw [hs]
      replace hB := hB.qt q2
      replace bx := bx.qt q2
      replace k1 := q2.cell k1
      clear q2
      by_cases hl : n2 = n
      case neg =>
        have hbad : cycCode s xss sh ys = 2 := HCD.out (by unfold cycB; rw [HN.out]; simp [HN2.out, hl])
        have HB := Lib.hid hbad
        have hne : ((n2 : Int) != (n : Int)) = true := by simp; omega
        obtain ⟨_, r0, r1, r2, r3, g0, g1, g2, g3⟩ := bx
        clear hbad
        go_wp2
        refine bodyPost_ret (v := .tuple #[.agg #[.int .i64 0, .slice none 0 0, .int .i64 0, .slice none 0 0], .int .i64 2]) (by simp [results, Try.results35, go_sem, r0, r1, r2, r3]) rfl (HF.out _ _ _ R _ hB hRw ?_ HB.out rfl)
        repeat (refine Chg.setCell ?_ (by constructor <;> simp <;> omega) _)
        exact Chg.refl _ _ _
      case pos =>
        have hne : ((n2 : Int) != (n : Int)) = false := by simp; omega
        have HS := Lib.hid hs
        have HB := Lib.hid hB
        have HX := Lib.hid bx
        clear hB bx hs
        go_wp2
        go_loopw [9, 31] (fun _ i wr => ∃ k : Nat, k ≤ n2 ∧ i = .int .i64 k ∧ Qt w2 wr ∧ (ys.take k).all w1k = true) (fun _ i _ => n2 - (intOf i).toNat)
        case atStart => exact ⟨0, Nat.zero_le _, rfl, Qt.refl _, rfl⟩
        case round =>
          obtain ⟨k, hk, rfl, hq, hall⟩ := hrel
          have hB := HB.out.qt hq
          have HX' := Lib.hid (HX.out.qt hq)
          have HA := Lib.hid hall
          clear hall
          by_cases hlt : k < n2
          · obtain ⟨b, off, rfl, h1⟩ := HCells.out k hlt
            replace h1 := hB.keep h1
            have hlt' : k < ys.length := by rw [HN2.out]; exact hlt
            generalize hy : ys.getD k 0 = y at *
            have HY := Lib.hid hy
            clear hy
            cases hw : w1k y with
            | true =>
              go_wp2_with fail
              refine (isWithin1k y _).mono ?_
              rintro e w3 ⟨rfl, q3⟩
              rw [hw]
              have hqq := hq.trans q3
              have HW := Lib.hid hw
              clear hw q3
              go_wp2
              go_roundw
              case rel => exact ⟨k+1, by omega, by go_num, hqq, all_takeI hlt' HA.out (by rw [HY.out]; exact HW.out)⟩
              case measure => simp [intOf]; omega
            | false =>
              have hbad : cycCode s xss sh ys = 2 := HCD.out (by unfold cycB; rw [all_notI hlt' (by rw [HY.out]; exact hw)]; simp)
              have HB2 := Lib.hid hbad
              obtain ⟨_, r0, r1, r2, r3, g0, g1, g2, g3⟩ := HX'.out
              clear hbad
              go_wp2_with fail
              refine (isWithin1k y _).mono ?_
              rintro e w3 ⟨rfl, q3⟩
              rw [hw]
              replace hB := hB.qt q3
              obtain ⟨_, r0, r1, r2, r3, g0, g1, g2, g3⟩ := HX'.out.qt q3
              clear q3 hw
              go_wp2
              refine bodyPost_ret (v := .tuple #[.agg #[.int .i64 0, .slice none 0 0, .int .i64 0, .slice none 0 0], .int .i64 2]) (by simp [results, Try.results35, go_sem, r0, r1, r2, r3]) rfl (HF.out _ _ _ R _ hB hRw ?_ HB2.out rfl)
              repeat (refine Chg.setCell ?_ (by constructor <;> simp <;> omega) _)
              exact Chg.refl _ _ _
          · exfalso
            obtain rfl : k = n2 := by omega
            have e := HA.out
            rw [List.take_of_length_le (by rw [HN2.out]; exact Nat.le_refl _)] at e
            have := HC.out
            have hg' := HG.out
            apply this
            unfold cycCode
            rw [hg']
            have h2 : cycB sh xss.length ys = true := by unfold cycB; rw [HS.out, e, HN2.out, HN.out, hl]; simp
            rw [h2]; rfl

end Go.Proofs.Ytpepmgobcdlnoaa
