/- CyclicCover of the model and of the program. -/
import Derived.Test.YtpepmgobcdlnoaaImplCyc2
set_option linter.unusedSimpArgs false
set_option linter.unusedVariables false
set_option maxRecDepth 100000
namespace Go.Proofs.Ytpepmgobcdlnoaa
open Go.RowKit

def cycOf (s : Int) (xss : List (List Int)) (sh : Int) (ys : List Int) : (Int × List (List Int) × Int × List (List Int)) × Int :=
  if cycCode s xss sh ys = 0 then ((s, xss, sh, cycRows sh ys), 0) else ((0, [], 0, []), cycCode s xss sh ys)
theorem cycOf_ok {s : Int} {xss : List (List Int)} {sh : Int} {ys : List Int} (h : cycCode s xss sh ys = 0) : cycOf s xss sh ys = ((s, xss, sh, cycRows sh ys), 0) := by unfold cycOf; rw [if_pos h]
theorem cycOf_no {s : Int} {xss : List (List Int)} {sh : Int} {ys : List Int} (h : cycCode s xss sh ys ≠ 0) : cycOf s xss sh ys = ((0, [], 0, []), cycCode s xss sh ys) := by unfold cycOf; rw [if_neg h]

/-- an answer that is a cover and a code -/
def CovA (w : World) (p : (Int × List (List Int) × Int × List (List Int)) × Int) (e : Ending) (w' : World) : Prop :=
  ∃ a' c' ta' tc' m, e = .returned (.tuple #[.agg #[.int .i64 p.1.1, .slice a' p.1.2.1.length c', .int .i64 p.1.2.2.1, .slice ta' p.1.2.2.2.length tc'], .int .i64 p.2]) ∧
      w.heap.size ≤ m ∧ m ≤ w'.heap.size ∧ OwR w.heap.size m w' (.slice a' p.1.2.1.length c') p.1.2.1 ∧ OwR m w'.heap.size w' (.slice ta' p.1.2.2.2.length tc') p.1.2.2.2 ∧ Below w.heap.size w w'
theorem covA_zero {w w' : World} {e : Ending} {cd : Int} (he : e = .returned (.tuple #[.agg #[.int .i64 0, .slice none 0 0, .int .i64 0, .slice none 0 0], .int .i64 cd])) (hb : Below w.heap.size w w') : CovA w ((0, [], 0, []), cd) e w' :=
  ⟨none, 0, none, 0, w'.heap.size, he, hb.size, Nat.le_refl _, OwR.nil (World.ownsRow_nil _ _ _ _) (Nat.le_refl _), OwR.nil (World.ownsRow_nil _ _ _ _) (Nat.le_refl _), hb⟩

theorem implCyc {lo hi lo' hi' : Nat} (s : Int) (a : Option Addr) (n c : Nat) (xss : List (List Int)) (sh : Int) (a2 : Option Addr) (n2 c2 : Nat) (ys : List Int) (w : World) (h : RdR lo hi w (.slice a n c) xss) (hn : xss.length = n)
    (h2 : RdI lo' hi' w (.slice a2 n2 c2) ys) (hn2 : ys.length = n2) :
    Calls Try.prog 35 #[.agg #[.int .i64 s, .slice a n c], .int .i64 sh, .slice a2 n2 c2] w fun e w' => CovA w (cycOf s xss sh ys) e w' := by
  by_cases hc : cycCode s xss sh ys = 0
  · rw [cycOf_ok hc]
    obtain ⟨_, _, ⟨h1, _⟩, _⟩ := cyc_ok hc
    obtain ⟨S, rfl⟩ : ∃ S : Nat, sh = S := ⟨sh.toNat, by omega⟩
    exact implCyc_yes s a n c xss S a2 n2 c2 ys w h hn h2 hn2 hc
  · rw [cycOf_no hc]
    exact (implCyc_no s a n c xss sh a2 n2 c2 ys w h hn h2 hn2 hc).mono fun e w' ⟨he, hb⟩ => covA_zero he hb

theorem cyc_list {s : Int} {xss : List (List Int)} {sh : Int} {ys : List Int} (hg : grB s xss = true) : cycCode s xss sh ys = if shB sh && listB xss.length 1000 ys then 0 else 2 := by
  unfold cycCode
  rw [hg, if_pos rfl]
  have : cycB sh xss.length ys = (shB sh && listB xss.length 1000 ys) := by
    unfold cycB listB
    rw [Bool.and_comm (decide _)]
    rfl
  rw [this]

set_option maxHeartbeats 1600000 in
theorem specCyc {lo hi lo' hi' : Nat} (s : Int) (a : Option Addr) (n c : Nat) (xss : List (List Int)) (sh : Int) (a2 : Option Addr) (n2 c2 : Nat) (ys : List Int) (w : World) (h : RdR lo hi w (.slice a n c) xss) (hn : xss.length = n)
    (h2 : RdI lo' hi' w (.slice a2 n2 c2) ys) (hn2 : ys.length = n2) :
    Calls Try.prog 33 #[.agg #[.int .i64 s, .slice a n c], .int .i64 sh, .slice a2 n2 c2] w fun e w' => CovA w (cycOf s xss sh ys) e w' := by
  have hb0 : ∀ o o', Below w.heap.size w ((w.alloc o).alloc o') := fun o o' => ((Below.refl _ _).alloc (Nat.le_refl _) o).alloc (by simp) o'
  have HN := Lib.hid hn
  have HN2 := Lib.hid hn2
  have HR := Lib.hid h
  have HR2 := Lib.hid h2
  have fin : ∀ (e : Ending) (W W' : World) (R : Nat) (cd : Int), Below w.heap.size w W → w.heap.size ≤ R → Chg R (R+1) W W' → cd ≠ 0 → cycCode s xss sh ys = cd → e = .returned (.tuple #[.agg #[.int .i64 0, .slice none 0 0, .int .i64 0, .slice none 0 0], .int .i64 cd]) → CovA w (cycOf s xss sh ys) e W' := by
    intro e W W' R cd hB hR hch hcd0 hcd he
    rw [cycOf_no (by rw [hcd]; exact hcd0), hcd]
    exact covA_zero he (hB.chgn hch hR hB.size)
  have HF := Lib.hid fin
  clear hn hn2 h h2 fin
  go_enter Try.func33, Try.ntmps33
  go_wp2_with fail
  obtain ⟨R, hR⟩ : ∃ R, R = w.heap.size + 1 := ⟨_, rfl⟩
  refine calls_gen (fun W => Below w.heap.size w W ∧ w.heap.size < W.heap.size ∧ W.cell? ⟨w.heap.size, 0, none⟩ = some (.int .i64 s) ∧ W.cell? ⟨w.heap.size, 1, none⟩ = some (.slice a n c) ∧ Box4 W R (.int .i64 0) (.slice none 0 0) (.int .i64 0) (.slice none 0 0)) ⟨hb0 _ _, by simp; omega, by go_simp, by go_simp, ⟨?_, ?_, ?_, ?_, ?_, ?_, ?_, ?_, ?_⟩⟩ ?_
  · rw [hR]; simp
  iterate 8 (rw [hR]; go_simp)
  rw [← hR]
  have hRw : w.heap.size < R := by omega
  clear hR
  rintro W ⟨hB, hz, k0, k1, bx⟩
  refine (l01Is s a n c xss W (HR.out.below hB) HN.out).mono ?_
  rintro e w1 ⟨rfl, b1⟩
  replace k0 := b1.keep k0
  replace k1 := b1.keep k1
  replace bx := bx.below b1
  replace hB := hB.next b1
  clear b1
  cases hg : grB s xss with
  | false =>
    have HB := Lib.hid (show cycCode s xss sh ys = 1 by unfold cycCode; rw [hg]; rfl)
    obtain ⟨_, r0, r1, r2, r3, g0, g1, g2, g3⟩ := bx
    clear hg
    go_wp2
    refine bodyPost_ret (v := .tuple #[.agg #[.int .i64 0, .slice none 0 0, .int .i64 0, .slice none 0 0], .int .i64 1]) (by simp [results, Try.results33, go_sem, r0, r1, r2, r3]) rfl (HF.out _ _ _ R 1 hB (by omega) (chg4 _ _ _ _ _ _) (by decide) HB.out rfl)
  | true =>
  have HC := Lib.hid (cyc_list (sh := sh) (ys := ys) hg)
  have hn10 : n ≤ 10 := by have := grB_iff hg; have := HN.out; omega
  clear hg
  cases hs : shB sh with
  | false =>
    have HB := Lib.hid (show cycCode s xss sh ys = 2 by rw [HC.out, hs]; rfl)
    have HS := Lib.hid hs
    clear hs
    have HX := Lib.hid bx
    clear bx
    go_wp2_with (go_at_call 71; refine (l01In _ _ _ _).mono ?_; rintro e w2 ⟨rfl, q1⟩; rw [show (decide (1 ≤ sh) && decide (sh ≤ 4)) = false from HS.out]; replace hB := hB.qt q1; obtain ⟨_, r0, r1, r2, r3, g0, g1, g2, g3⟩ := HX.out.qt q1)
    refine bodyPost_ret (v := .tuple #[.agg #[.int .i64 0, .slice none 0 0, .int .i64 0, .slice none 0 0], .int .i64 2]) (by simp [results, Try.results33, go_sem, r0, r1, r2, r3]) rfl (HF.out _ _ _ R 2 hB (by omega) (chg4 _ _ _ _ _ _) (by decide) HB.out rfl)
  | true =>
  have HS := Lib.hid hs
  clear hs
  have HX := Lib.hid bx
  clear bx
  cases hl : listB n 1000 ys with
  | false =>
    have HB := Lib.hid (show cycCode s xss sh ys = 2 by rw [HC.out, HS.out, HN.out, hl]; rfl)
    have HL := Lib.hid hl
    clear hl
    go_wp2_with (first | (go_at_call 71; refine (l01In _ _ _ _).mono ?_; rintro e w2 ⟨rfl, q1⟩; rw [show (decide (1 ≤ sh) && decide (sh ≤ 4)) = true from HS.out]; replace hB := hB.qt q1; replace k0 := q1.cell k0; replace k1 := q1.cell k1; have bx2 := HX.out.qt q1) | (go_at_call 73; refine (l04List s a n c a2 n2 c2 ys 1000 _ (HR2.out.below hB) HN2.out (by omega) (by omega) hn10).mono ?_; rw [HL.out]; rintro e w3 ⟨rfl, b3⟩; replace hB := hB.next b3; obtain ⟨_, r0, r1, r2, r3, g0, g1, g2, g3⟩ := bx2.below b3))
    refine bodyPost_ret (v := .tuple #[.agg #[.int .i64 0, .slice none 0 0, .int .i64 0, .slice none 0 0], .int .i64 2]) (by simp [results, Try.results33, go_sem, r0, r1, r2, r3]) rfl (HF.out _ _ _ R 2 hB (by omega) (chg4 _ _ _ _ _ _) (by decide) HB.out rfl)
  | true =>
    have hok : cycCode s xss sh ys = 0 := by rw [HC.out, HS.out, HN.out, hl]; rfl
    obtain ⟨_, _, ⟨h1, h4⟩, hl2, hall⟩ := cyc_ok hok
    obtain ⟨S, rfl⟩ : ∃ S : Nat, sh = S := ⟨sh.toNat, by omega⟩
    have HOK := Lib.hid (cycOf_ok hok)
    have HY := Lib.hid (w1k_bd hall)
    have HL := Lib.hid hl
    have h1' : 1 ≤ S := by omega
    have h4' : S ≤ 4 := by omega
    have hn2l : n2 ≤ 1000 := by have := HN2.out; have := HN.out; omega
    clear hl hok hl2 hall
    go_wp2_with (first | (go_at_call 71; refine (l01In _ _ _ _).mono ?_; rintro e w2 ⟨rfl, q1⟩; rw [show (decide (1 ≤ (S : Int)) && decide ((S : Int) ≤ 4)) = true from HS.out]; replace hB := hB.qt q1; replace k0 := q1.cell k0; replace k1 := q1.cell k1; have bx2 := HX.out.qt q1) | (go_at_call 73; refine (l04List s a n c a2 n2 c2 ys 1000 _ (HR2.out.below hB) HN2.out (by omega) (by omega) hn10).mono ?_; rw [HL.out]; rintro e w3 ⟨rfl, b3⟩; replace hB := hB.next b3; replace k0 := b3.keep k0; replace k1 := b3.keep k1; have bx3 := bx2.below b3) | (go_at_call 72; refine (l04Cyclic s a n c xss S a2 n2 c2 ys _ (HR.out.below hB) HN.out (by omega) (HR2.out.below hB) HN2.out hn2l h1' h4' HY.out).mono ?_; rintro e w4 ⟨a5, c5, ta5, tc5, m5, rfl, hm1, hm2, o5, o6, b4⟩; have hB4 := hB.next b4; have hs4 := hB.size; have hR3 := bx3.lt; obtain ⟨_, r0, r1, r2, r3, g0, g1, g2, g3⟩ := bx3.below b4))
    have hch := chg4 w4 R (.int .i64 s) (.slice a5 xss.length c5) (.int .i64 S) (.slice ta5 (cycRows S ys).length tc5)
    refine bodyPost_ret (v := .tuple #[.agg #[.int .i64 s, .slice a5 xss.length c5, .int .i64 S, .slice ta5 (cycRows S ys).length tc5], .int .i64 0]) (by simp [results, Try.results33, go_sem, r0, r1, r2, r3]) rfl ?_
    rw [HOK.out]
    exact ⟨a5, c5, ta5, tc5, m5, rfl, by omega, by simp [World.setCell]; omega, (o5.chg hch (.inr (by omega))).mono (by omega) (Nat.le_refl _), (o6.chg hch (.inr (by omega))).mono (Nat.le_refl _) (by simp [World.setCell]), hB4.chgn hch (by omega) hB4.size⟩

end Go.Proofs.Ytpepmgobcdlnoaa
