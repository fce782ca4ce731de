/- FnExactRenumberGraph: for all arguments the program's function answers as the model's, leaves its arguments alone, and its answers own their memory. No condition. -/
import Derived.Test.YtolipjemabmlkaaSrt
import Derived.Test.YtolipjemabmlkaaCoreA
import Derived.Test.YtolipjemabmlkaaHead
import Derived.Deep.RegionHeld3
set_option linter.unusedSimpArgs false
set_option linter.unusedVariables false
set_option maxRecDepth 100000
namespace Go.Proofs.Ytolipjemabmlkaa
open Go.RowKit Go.ChangeShapes Go.WideShapes Go.ChangeAt

set_option maxHeartbeats 4000000 in
theorem FnExactRenumberGraph_walk (s0 : Int) (a0 : Option Addr) (n0 c0 : Nat) (xs0 : List (List Int)) (a1 : Option Addr) (n1 c1 : Nat) (xs1 : List Int) (w : World) (h0 : RdR 0 w.heap.size w (.slice a0 n0 c0) xs0) (l0 : xs0.length = n0) (is0 : I64 s0) (h1 : RdI 0 w.heap.size w (.slice a1 n1 c1) xs1) (l1 : xs1.length = n1) :
    Calls Try.prog 6 #[.agg #[.int .i64 s0, .slice a0 n0 c0], .slice a1 n1 c1] w fun e w' => e = .returned (.bool true) ∧ Below w.heap.size w w' := by
  have L0 := Lib.hid l0
  clear l0
  have S0 := Lib.hid is0
  clear is0
  have L1 := Lib.hid l1
  clear l1
  have hn1 : n1 ≤ 17592186044416 := by rw [← L1.out]; exact h1.1
  have hB : Below w.heap.size w w := Below.refl _ _
  obtain ⟨ys0, hys0⟩ : ∃ y, y = ((rnOf s0 xs0 xs1).1.1) := ⟨_, rfl⟩
  obtain ⟨yr0, hyr0⟩ : ∃ y, y = ((rnOf s0 xs0 xs1).1.2) := ⟨_, rfl⟩
  have hlr0 := Lib.hid (rnOf_lens s0 xs0 xs1)
  rw [← hyr0] at hlr0
  have Hys0 := Lib.hid hys0
  clear hys0
  have Hyr0 := Lib.hid hyr0
  clear hyr0
  obtain ⟨y1, hy1⟩ : ∃ y, y = ((rnOf s0 xs0 xs1).2) := ⟨_, rfl⟩
  have Hy1 := Lib.hid hy1
  clear hy1
  by_cases hm1 : n1 ≤ 1048576
  case neg =>
    go_enter Try.func6, Try.ntmps6
    go_wp2
    go_ret
    exact ⟨rfl, (Below.refl _ _).alloc (Nat.le_refl _) _⟩
  have hx1 : xs1.length ≤ 1048576 := by rw [L1.out]; exact hm1
  go_enter Try.func6, Try.ntmps6
  go_wp2_with fail
  refine calls_gen (fun W => Below w.heap.size w W ∧ w.heap.size < W.heap.size ∧ W.cell? ⟨w.heap.size, 0, none⟩ = some (.int .i64 s0) ∧ W.cell? ⟨w.heap.size, 1, none⟩ = some (.slice a0 n0 c0)) ⟨(Below.refl _ _).alloc (Nat.le_refl _) _, by simp, by go_simp, by go_simp⟩ ?_
  rintro W0 ⟨hB0, hz0, k0, k1⟩
  replace hB := hB.next hB0
  clear hB0
  refine (szG s0 a0 n0 c0 xs0 _ (by omega) (by omega) _ (h0.below hB) L0.out).mono ?_
  rintro e w1 ⟨⟨r1, hr1, rfl⟩, b1⟩
  replace k0 := b1.keep k0
  replace k1 := b1.keep k1
  replace hB := hB.next b1
  have hz1 := b1.size
  clear b1
  rcases hr1 with rfl | ⟨hr1, hq1⟩
  · go_wp2
    go_ret
    exact ⟨rfl, hB⟩
  have hl0 : lens xs0 ≤ 1048576 := by omega
  have HR1 := Lib.hid hq1
  clear hq1
  have hp1 : ¬ r1 < 0 := by omega
  have hpp1 : r1 ≤ 1048576 := by have := HR1.out; omega
  go_wp2_with fail
  refine (toG s0 a0 n0 c0 xs0 _ (h0.below hB) (by have := hB.size; omega)).mono ?_
  rintro e w2 ⟨a_2, c_2, rfl, o2, b2⟩
  replace k0 := b2.keep k0
  replace k1 := b2.keep k1
  replace hB := hB.next b2
  have hz2 := b2.size
  clear b2
  go_wp2_with fail
  refine (toI _ xs1 _ (h1.below hB)).mono ?_
  rintro e w3 ⟨a_3, c_3, rfl, o3, b3⟩
  replace k0 := b3.keep k0
  replace k1 := b3.keep k1
  replace o2 := o2.below b3
  replace hB := hB.next b3
  have hz3 := b3.size
  clear b3
  go_wp2_with fail
  refine (specRn s0 _ _ _ xs0 _ _ _ xs1 _ o2.rd rfl o3.rd rfl).mono ?_
  rw [← Hys0.out, ← Hyr0.out, ← Hy1.out]
  rintro e w4 ⟨aw0, cw0, rfl, w0, b4⟩
  replace k0 := b4.keep k0
  replace k1 := b4.keep k1
  replace o2 := o2.below b4
  replace o3 := o3.below b4
  replace hB := hB.next b4
  have hz4 := b4.size
  clear b4
  clear o2
  clear o3
  have alk0 := fun o => ((Below.refl w4.heap.size w4).alloc (Nat.le_refl _) o).keep k0
  have alk1 := fun o => ((Below.refl w4.heap.size w4).alloc (Nat.le_refl _) o).keep k1
  go_wp2_with fail
  clear alk0 alk1
  refine calls_gen (fun W => Below w4.heap.size w4 W ∧ w4.heap.size < W.heap.size ∧ W.cell? ⟨w4.heap.size, 0, none⟩ = some (.int .i64 (ys0)) ∧ W.cell? ⟨w4.heap.size, 1, none⟩ = some (.slice aw0 (yr0).length cw0)) ⟨(Below.refl _ _).alloc (Nat.le_refl _) _, by simp, by go_simp, by go_simp⟩ ?_
  rintro W5 ⟨bb, hzz5, wj0, wj1⟩
  replace k0 := bb.keep k0
  replace k1 := bb.keep k1
  replace w0 := w0.below bb
  replace hB := hB.next bb
  have hz5 := bb.size
  clear bb
  refine (toG s0 a0 n0 c0 xs0 _ (h0.below hB) (by have := hB.size; omega)).mono ?_
  rintro e w6 ⟨a_6, c_6, rfl, o6, b6⟩
  replace k0 := b6.keep k0
  replace k1 := b6.keep k1
  replace wj0 := b6.keep wj0
  replace wj1 := b6.keep wj1
  replace w0 := w0.below b6
  replace hB := hB.next b6
  have hz6 := b6.size
  clear b6
  go_wp2_with fail
  refine calls_gen (fun W => Below w6.heap.size w6 W ∧ w6.heap.size < W.heap.size ∧ W.cell? ⟨w6.heap.size, 0, none⟩ = some (.int .i64 s0) ∧ W.cell? ⟨w6.heap.size, 1, none⟩ = some (.slice a_6 xs0.length c_6)) ⟨(Below.refl _ _).alloc (Nat.le_refl _) _, by simp, by go_simp, by go_simp⟩ ?_
  rintro W6 ⟨bb, hzz6, j0, j1⟩
  replace k0 := bb.keep k0
  replace k1 := bb.keep k1
  replace wj0 := bb.keep wj0
  replace wj1 := bb.keep wj1
  replace w0 := w0.below bb
  replace o6 := o6.below bb
  replace hB := hB.next bb
  have hz6 := bb.size
  clear bb
  refine (toI _ xs1 _ (h1.below hB)).mono ?_
  rintro e w7 ⟨a_7, c_7, rfl, o7, b7⟩
  replace k0 := b7.keep k0
  replace k1 := b7.keep k1
  replace wj0 := b7.keep wj0
  replace wj1 := b7.keep wj1
  replace j0 := b7.keep j0
  replace j1 := b7.keep j1
  replace w0 := w0.below b7
  replace o6 := o6.below b7
  replace hB := hB.next b7
  have hz7 := b7.size
  clear b7
  go_wp2_with fail
  refine (implRnF s0 _ _ _ xs0 _ _ _ xs1 _ o6.rd rfl o7.rd rfl).mono ?_
  rw [← Hys0.out, ← Hyr0.out, ← Hy1.out]
  rintro e w8 ⟨ag0, cg0, rfl, g0, b8⟩
  replace k0 := b8.keep k0
  replace k1 := b8.keep k1
  replace wj0 := b8.keep wj0
  replace wj1 := b8.keep wj1
  replace j0 := b8.keep j0
  replace j1 := b8.keep j1
  replace w0 := w0.below b8
  replace o6 := o6.below b8
  replace o7 := o7.below b8
  replace hB := hB.next b8
  have hz8 := b8.size
  clear b8
  have alk0 := fun o => ((Below.refl w8.heap.size w8).alloc (Nat.le_refl _) o).keep k0
  have alk1 := fun o => ((Below.refl w8.heap.size w8).alloc (Nat.le_refl _) o).keep k1
  have alwj0 := fun o => ((Below.refl w8.heap.size w8).alloc (Nat.le_refl _) o).keep wj0
  have alwj1 := fun o => ((Below.refl w8.heap.size w8).alloc (Nat.le_refl _) o).keep wj1
  have alj0 := fun o => ((Below.refl w8.heap.size w8).alloc (Nat.le_refl _) o).keep j0
  have alj1 := fun o => ((Below.refl w8.heap.size w8).alloc (Nat.le_refl _) o).keep j1
  go_wp2_with fail
  clear alk0 alk1 alwj0 alwj1 alj0 alj1
  refine calls_gen (fun W => Below w8.heap.size w8 W ∧ w8.heap.size < W.heap.size ∧ W.cell? ⟨w8.heap.size, 0, none⟩ = some (.int .i64 (ys0)) ∧ W.cell? ⟨w8.heap.size, 1, none⟩ = some (.slice ag0 (yr0).length cg0)) ⟨(Below.refl _ _).alloc (Nat.le_refl _) _, by simp, by go_simp, by go_simp⟩ ?_
  rintro W9 ⟨bb, hzz9, gj0, gj1⟩
  replace k0 := bb.keep k0
  replace k1 := bb.keep k1
  replace wj0 := bb.keep wj0
  replace wj1 := bb.keep wj1
  replace j0 := bb.keep j0
  replace j1 := bb.keep j1
  replace w0 := w0.below bb
  replace o6 := o6.below bb
  replace o7 := o7.below bb
  replace g0 := g0.below bb
  replace hB := hB.next bb
  have hz9 := bb.size
  clear bb
  refine (eqG1 _ _ _ _ _ _ _ _ _ _ (Below.refl _ _) g0.rd w0.rd).mono ?_
  rintro e w10 ⟨rfl, q10⟩
  replace k0 := q10.keep k0
  replace k1 := q10.keep k1
  replace wj0 := q10.keep wj0
  replace wj1 := q10.keep wj1
  replace j0 := q10.keep j0
  replace j1 := q10.keep j1
  replace gj0 := q10.keep gj0
  replace gj1 := q10.keep gj1
  replace w0 := w0.below q10
  replace o6 := o6.below q10
  replace o7 := o7.below q10
  replace g0 := g0.below q10
  replace hB := hB.next q10
  have hz10 := q10.size
  clear q10
  go_wp2
  have hsB := hB.size
  go_region_held3 (fun W' => Below w10.heap.size w10 W' ∧ W'.cell? ⟨w.heap.size, 0, none⟩ = some (.int .i64 s0) ∧ W'.cell? ⟨w.heap.size, 1, none⟩ = some (.slice a0 n0 c0) ∧ W'.cell? ⟨w6.heap.size, 0, none⟩ = some (.int .i64 s0) ∧ W'.cell? ⟨w6.heap.size, 1, none⟩ = some (.slice a_6 xs0.length c_6))
    (first | (exact ⟨(Below.refl _ _).drew, k0, k1, j0, j1⟩) | (go_split_ands; exact ⟨Below.next (by assumption) bx, bx.keep (by assumption), bx.keep (by assumption), bx.keep (by assumption), bx.keep (by assumption)⟩) | (go_split_ands; exact ⟨Below.next (by assumption) by1, by1.keep (by assumption), by1.keep (by assumption), by1.keep (by assumption), by1.keep (by assumption)⟩))
    (first | (go_at_call 19; go_split_ands; refine (toG' s0 a0 n0 c0 xs0 w10 _ (by assumption) (h0.below hB) hsB).mono ?_; rintro e wx ⟨ax, cx, rfl, ox, bx⟩) | (go_at_call 22; go_split_ands; refine (eqG1 s0 _ _ _ _ _ _ xs0 w10 _ (by assumption) o6.rd ox.rd).mono ?_; rintro e wy ⟨rfl, by1⟩))
  go_split_ands
  have bS : Below w10.heap.size w10 wy := by assumption
  clear ox bx by1
  replace k0 := bS.keep k0
  replace k1 := bS.keep k1
  replace wj0 := bS.keep wj0
  replace wj1 := bS.keep wj1
  replace j0 := bS.keep j0
  replace j1 := bS.keep j1
  replace gj0 := bS.keep gj0
  replace gj1 := bS.keep gj1
  replace w0 := w0.below bS
  replace o6 := o6.below bS
  replace o7 := o7.below bS
  replace g0 := g0.below bS
  replace hB := hB.next bS
  have hz11 := bS.size
  clear bS
  go_wp2_with fail
  refine (toI _ xs1 _ (h1.below hB)).mono ?_
  rintro e w12 ⟨a_12, c_12, rfl, o12, b12⟩
  replace k0 := b12.keep k0
  replace k1 := b12.keep k1
  replace wj0 := b12.keep wj0
  replace wj1 := b12.keep wj1
  replace j0 := b12.keep j0
  replace j1 := b12.keep j1
  replace gj0 := b12.keep gj0
  replace gj1 := b12.keep gj1
  replace w0 := w0.below b12
  replace o6 := o6.below b12
  replace o7 := o7.below b12
  replace g0 := g0.below b12
  replace hB := hB.next b12
  have hz12 := b12.size
  clear b12
  go_wp2_with fail
  refine (eqI1 _ _ _ _ o7.rd o12.rd).mono ?_
  rintro e w13 ⟨rfl, q13⟩
  replace k0 := q13.cell k0
  replace k1 := q13.cell k1
  replace wj0 := q13.cell wj0
  replace wj1 := q13.cell wj1
  replace j0 := q13.cell j0
  replace j1 := q13.cell j1
  replace gj0 := q13.cell gj0
  replace gj1 := q13.cell gj1
  replace w0 := w0.qt q13
  replace o6 := o6.qt q13
  replace o7 := o7.qt q13
  replace g0 := g0.qt q13
  replace o12 := o12.qt q13
  replace hB := hB.qt q13
  have hz13 := q13.below.size
  clear q13
  clear o12
  go_wp2_with fail
  refine (markG s0 _ _ _ xs0 _ _ o6 (by omega) (by omega) (by omega)).mono ?_
  clear o6
  rintro e w14 ⟨rfl, -, ch14⟩
  replace k0 := ch14.cell k0 (by simp <;> omega)
  replace k1 := ch14.cell k1 (by simp <;> omega)
  replace wj0 := ch14.cell wj0 (by simp <;> omega)
  replace wj1 := ch14.cell wj1 (by simp <;> omega)
  replace j0 := ch14.cell j0 (by simp <;> omega)
  replace j1 := ch14.cell j1 (by simp <;> omega)
  replace gj0 := ch14.cell gj0 (by simp <;> omega)
  replace gj1 := ch14.cell gj1 (by simp <;> omega)
  replace w0 := w0.chg ch14 (by omega)
  replace o7 := o7.chg ch14 (by omega)
  replace g0 := g0.chg ch14 (by omega)
  replace hB := hB.chgn ch14 (by omega) hB.size
  have hz14 := ch14.size
  clear ch14
  go_wp2_with fail
  refine (markI _ xs1 _ _ o7 (by omega) (by have := o7.1; omega)).mono ?_
  clear o7
  rintro e w15 ⟨rfl, -, ch15⟩
  replace k0 := ch15.cell k0 (by simp <;> omega)
  replace k1 := ch15.cell k1 (by simp <;> omega)
  replace wj0 := ch15.cell wj0 (by simp <;> omega)
  replace wj1 := ch15.cell wj1 (by simp <;> omega)
  replace j0 := ch15.cell j0 (by simp <;> omega)
  replace j1 := ch15.cell j1 (by simp <;> omega)
  replace gj0 := ch15.cell gj0 (by simp <;> omega)
  replace gj1 := ch15.cell gj1 (by simp <;> omega)
  replace w0 := w0.chg ch15 (by omega)
  replace g0 := g0.chg ch15 (by omega)
  replace hB := hB.chgn ch15 (by omega) hB.size
  have hz15 := ch15.size
  clear ch15
  go_wp2_with fail
  refine (eqG1 _ _ _ _ _ _ _ _ _ _ (Below.refl _ _) g0.rd w0.rd).mono ?_
  rintro e w16 ⟨rfl, q16⟩
  replace k0 := q16.keep k0
  replace k1 := q16.keep k1
  replace wj0 := q16.keep wj0
  replace wj1 := q16.keep wj1
  replace j0 := q16.keep j0
  replace j1 := q16.keep j1
  replace gj0 := q16.keep gj0
  replace gj1 := q16.keep gj1
  replace w0 := w0.below q16
  replace g0 := g0.below q16
  replace hB := hB.next q16
  have hz16 := q16.size
  clear q16
  go_wp2_with fail
  refine (markG _ _ _ _ _ _ _ g0 (by omega) (by have := hlr0.out; omega) (by omega)).mono ?_
  clear g0
  rintro e w17 ⟨rfl, g0, ch17⟩
  replace k0 := ch17.cell k0 (by simp <;> omega)
  replace k1 := ch17.cell k1 (by simp <;> omega)
  replace wj0 := ch17.cell wj0 (by simp <;> omega)
  replace wj1 := ch17.cell wj1 (by simp <;> omega)
  replace j0 := ch17.cell j0 (by simp <;> omega)
  replace j1 := ch17.cell j1 (by simp <;> omega)
  replace gj0 := ch17.cell gj0 (by simp <;> omega)
  replace gj1 := ch17.cell gj1 (by simp <;> omega)
  replace w0 := w0.chg ch17 (by omega)
  replace hB := hB.chgn ch17 (by omega) hB.size
  have hz17 := ch17.size
  clear ch17
  go_wp2_with fail
  refine (heldG _ _ _ _ _ _ _ g0.rd (by omega) (by have := hlr0.out; omega)).mono ?_
  rintro e w18 ⟨rfl, q18⟩
  replace k0 := q18.keep k0
  replace k1 := q18.keep k1
  replace wj0 := q18.keep wj0
  replace wj1 := q18.keep wj1
  replace j0 := q18.keep j0
  replace j1 := q18.keep j1
  replace gj0 := q18.keep gj0
  replace gj1 := q18.keep gj1
  replace w0 := w0.below q18
  replace g0 := g0.below q18
  replace hB := hB.next q18
  have hz18 := q18.size
  clear q18
  have hnn0 : ¬ ((1 : Int) + (lens (yr0) : Int) < 0) := by omega
  go_wp2_with fail
  refine (toG s0 a0 n0 c0 xs0 _ (h0.below hB) (by have := hB.size; omega)).mono ?_
  rintro e w19 ⟨a_19, c_19, rfl, o19, b19⟩
  replace k0 := b19.keep k0
  replace k1 := b19.keep k1
  replace wj0 := b19.keep wj0
  replace wj1 := b19.keep wj1
  replace j0 := b19.keep j0
  replace j1 := b19.keep j1
  replace gj0 := b19.keep gj0
  replace gj1 := b19.keep gj1
  replace w0 := w0.below b19
  replace g0 := g0.below b19
  replace hB := hB.next b19
  have hz19 := b19.size
  clear b19
  go_wp2_with fail
  refine (toI _ xs1 _ (h1.below hB)).mono ?_
  rintro e w20 ⟨a_20, c_20, rfl, o20, b20⟩
  replace k0 := b20.keep k0
  replace k1 := b20.keep k1
  replace wj0 := b20.keep wj0
  replace wj1 := b20.keep wj1
  replace j0 := b20.keep j0
  replace j1 := b20.keep j1
  replace gj0 := b20.keep gj0
  replace gj1 := b20.keep gj1
  replace w0 := w0.below b20
  replace g0 := g0.below b20
  replace o19 := o19.below b20
  replace hB := hB.next b20
  have hz20 := b20.size
  clear b20
  go_wp2_with fail
  refine (implRnF s0 _ _ _ xs0 _ _ _ xs1 _ o19.rd rfl o20.rd rfl).mono ?_
  rw [← Hys0.out, ← Hyr0.out, ← Hy1.out]
  rintro e w21 ⟨ah0, ch0, rfl, h0, b21⟩
  replace k0 := b21.keep k0
  replace k1 := b21.keep k1
  replace wj0 := b21.keep wj0
  replace wj1 := b21.keep wj1
  replace j0 := b21.keep j0
  replace j1 := b21.keep j1
  replace gj0 := b21.keep gj0
  replace gj1 := b21.keep gj1
  replace w0 := w0.below b21
  replace g0 := g0.below b21
  replace o19 := o19.below b21
  replace o20 := o20.below b21
  replace hB := hB.next b21
  have hz21 := b21.size
  clear b21
  clear o19
  clear o20
  have alk0 := fun o => ((Below.refl w21.heap.size w21).alloc (Nat.le_refl _) o).keep k0
  have alk1 := fun o => ((Below.refl w21.heap.size w21).alloc (Nat.le_refl _) o).keep k1
  have alwj0 := fun o => ((Below.refl w21.heap.size w21).alloc (Nat.le_refl _) o).keep wj0
  have alwj1 := fun o => ((Below.refl w21.heap.size w21).alloc (Nat.le_refl _) o).keep wj1
  have alj0 := fun o => ((Below.refl w21.heap.size w21).alloc (Nat.le_refl _) o).keep j0
  have alj1 := fun o => ((Below.refl w21.heap.size w21).alloc (Nat.le_refl _) o).keep j1
  have algj0 := fun o => ((Below.refl w21.heap.size w21).alloc (Nat.le_refl _) o).keep gj0
  have algj1 := fun o => ((Below.refl w21.heap.size w21).alloc (Nat.le_refl _) o).keep gj1
  go_wp2_with fail
  clear alk0 alk1 alwj0 alwj1 alj0 alj1 algj0 algj1
  refine calls_gen (fun W => Below w21.heap.size w21 W ∧ w21.heap.size < W.heap.size ∧ W.cell? ⟨w21.heap.size, 0, none⟩ = some (.int .i64 (ys0)) ∧ W.cell? ⟨w21.heap.size, 1, none⟩ = some (.slice ah0 (yr0).length ch0)) ⟨(Below.refl _ _).alloc (Nat.le_refl _) _, by simp, by go_simp, by go_simp⟩ ?_
  rintro W22 ⟨bb, hzz22, hj0, hj1⟩
  replace k0 := bb.keep k0
  replace k1 := bb.keep k1
  replace wj0 := bb.keep wj0
  replace wj1 := bb.keep wj1
  replace j0 := bb.keep j0
  replace j1 := bb.keep j1
  replace gj0 := bb.keep gj0
  replace gj1 := bb.keep gj1
  replace w0 := w0.below bb
  replace g0 := g0.below bb
  replace h0 := h0.below bb
  replace hB := hB.next bb
  have hz22 := bb.size
  clear bb
  refine (eqG1 _ _ _ _ _ _ _ _ _ _ (Below.refl _ _) h0.rd w0.rd).mono ?_
  rintro e w23 ⟨rfl, q23⟩
  replace k0 := q23.keep k0
  replace k1 := q23.keep k1
  replace wj0 := q23.keep wj0
  replace wj1 := q23.keep wj1
  replace j0 := q23.keep j0
  replace j1 := q23.keep j1
  replace gj0 := q23.keep gj0
  replace gj1 := q23.keep gj1
  replace hj0 := q23.keep hj0
  replace hj1 := q23.keep hj1
  replace w0 := w0.below q23
  replace g0 := g0.below q23
  replace h0 := h0.below q23
  replace hB := hB.next q23
  have hz23 := q23.size
  clear q23
  go_wp2_with fail
  refine (heldG _ _ _ _ _ _ _ g0.rd (by omega) (by have := hlr0.out; omega)).mono ?_
  rintro e w24 ⟨rfl, q24⟩
  replace k0 := q24.keep k0
  replace k1 := q24.keep k1
  replace wj0 := q24.keep wj0
  replace wj1 := q24.keep wj1
  replace j0 := q24.keep j0
  replace j1 := q24.keep j1
  replace gj0 := q24.keep gj0
  replace gj1 := q24.keep gj1
  replace hj0 := q24.keep hj0
  replace hj1 := q24.keep hj1
  replace w0 := w0.below q24
  replace g0 := g0.below q24
  replace h0 := h0.below q24
  replace hB := hB.next q24
  have hz24 := q24.size
  clear q24
  go_wp2
  go_ret
  exact ⟨rfl, hB⟩

set_option maxRecDepth 100000 in
theorem FnExactRenumberGraph_lifted (os : Os) (started : os.Started) (H : Type) (enc : TypeId × Value → H) :
    ReturnsInHanded {} Try.checked os 6 .any (Rows.fnExactRenumberGraphSpec.pre6 enc Try.prog Try.f6 Rows.fnExactRenumberGraphRow.domain false) (Rows.fnExactRenumberGraphSpec.post enc Try.prog Try.f6 false true false false) := by
  refine returnsInHanded_of_change_sized (C := Try.checked) own started (by kernel_rfl) Try.func6
    (ChangeSpec.witness6 (enc := enc) (C := Try.checked) false ⟨#[], #[.agg #[.int .i64 0, .slice none 0 0], .slice none 0 0], []⟩ 8 (by kernel_rfl) (by kernel_rfl) (by kernel_rfl) (by kernel_rfl)) ?_
  intro W base args ds gs before hval0 hW _ hsz0 _
  have hsz : (DataW.weightsEach Try.prog (Try.f6.params.toList ++ Rows.fnExactRenumberGraphSpec.plain.varTypes Try.prog) (ds ++ gs)).all (· ≤ reachBytes) = true := hsz0
  clear hsz0
  have hval : ∀ (j : Nat) t v, Try.f6.params[j]? = some t → args[j]? = some v → Value.okWide Try.prog W .any base t v := hval0
  have hW' := hW
  obtain ⟨p, q, hA0, hV, rfl, _, _⟩ := hW
  have hA : DataW.TrodAll enc Try.prog W 0 (fun _ => true) true Try.f6.params.toList args.toList ds p := hA0
  rw [Try.params6] at hA hval hsz
  clear hA0 hval0
  obtain ⟨v0, vs0, d0, ds0, p0, q0, hargs0, rfl, rfl, h0, r0⟩ := trodAll_cons hA
  obtain ⟨v1, vs1, d1, ds1, p1, q1, hargs1, rfl, rfl, h1, r1⟩ := trodAll_cons r0
  obtain ⟨rfl, rfl, rfl⟩ := trodAll_nil r1
  obtain rfl : args = #[v0, v1] := by cases args; simp_all
  obtain ⟨rfl, rfl⟩ := trodVars_none hV
  simp only [List.append_nil] at hW'
  have hltW := hW'.lt
  have hlt0 : ∀ x ∈ p0, x.block < W.heap.size := fun x hx => by have := hW'.lt x (by simp [hx]); simpa using this
  have hwt0 : ∀ n ∈ d0.weights Try.prog 24, n ≤ reachBytes := fun n hn => by simpa using List.all_eq_true.1 hsz n (DataW.weights_mem_each (j := 0) rfl rfl n hn)
  obtain ⟨s0, a0, n0, c0, xs0, hv0, l0, rd0, is0⟩ := openG (hval 0 24 v0 rfl rfl) h0 hwt0
  have keepA0 : ∀ (W' : World), Below W.heap.size W W' → DataW.Trod enc Try.prog W' 0 (fun b => decide (b < W.heap.size)) true 24 v0 d0 p0 := fun W' hn => Below.trod laidOut (by kernel_rfl) (of_decide_eq_true (by kernel_rfl)) h0 hn hlt0
  have hlt1 : ∀ x ∈ p1, x.block < W.heap.size := fun x hx => by have := hW'.lt x (by simp [hx]); simpa using this
  obtain ⟨a1, n1, c1, xs1, hv1, l1, rd1⟩ := openI (hval 1 26 v1 rfl rfl) h1 hlt1 (fun es sp hd => by subst hd; exact sized_slice hsz (j := 1) (t := 26) (e := 2) rfl rfl Try.underlying26)
  have keepA1 : ∀ (W' : World), Below W.heap.size W W' → DataW.Trod enc Try.prog W' 0 (fun b => decide (b < W.heap.size)) true 26 v1 d1 p1 := fun W' hn => Below.trod laidOut (by kernel_rfl) (of_decide_eq_true (by kernel_rfl)) h1 hn hlt1
  subst hv0
  subst hv1
  refine (FnExactRenumberGraph_walk s0 a0 n0 c0 xs0 a1 n1 c1 xs1 W rd0 l0 is0 rd1 l1).mono fun e W' ⟨he, hb⟩ => ?_
  subst he
  exact ⟨_, rfl, _, _, _, [], _, [], hW', trodAll_mk1 (shut_bool Try.underlying4 _), (trodAll_cons_mk (keepA0 _ hb) (trodAll_cons_mk (keepA1 _ hb) trodAll_mk0)), rfl, hb.frame _, fun h => by cases h⟩

theorem FnExactRenumberGraph_k1 : (Rows.fnExactRenumberGraphRow.inPlace == Try.prog.inPlace 6) = true := by kernel_rfl
theorem FnExactRenumberGraph_k2 : (Rows.fnExactRenumberGraphRow.unfollowed == Try.prog.unfollowed 6) = true := by kernel_rfl
theorem FnExactRenumberGraph_k3 : (Rows.fnExactRenumberGraphRow.recurses == Try.prog.recurses 6) = true := by kernel_rfl
theorem FnExactRenumberGraph_k4 : (Rows.fnExactRenumberGraphRow.named == Try.prog.varsNamed 6) = true := by kernel_rfl
set_option maxRecDepth 100000 in
theorem FnExactRenumberGraph_closed : joinedFacts Try.prog 6 Try.f6 Rows.fnExactRenumberGraphSpec Rows.fnExactRenumberGraphRow = true := by
  unfold joinedFacts
  rw [FnExactRenumberGraph_k1, FnExactRenumberGraph_k2, FnExactRenumberGraph_k3, FnExactRenumberGraph_k4, head_enter, head_lifts, head_make]
  show (_ : Bool) = true
  kernel_rfl


theorem FnExactRenumberGraph_holds : Rows.FnExactRenumberGraphSaid :=
  OpenClaim.holds_of_wide 6 Try.f6 rfl rfl rfl rfl rfl rfl rfl ⟨rfl, rfl, rfl, rfl, rfl⟩ rfl rfl rfl rfl rfl (by kernel_rfl) Try.func6 FnExactRenumberGraph_closed
    (of_decide_eq_true (by kernel_rfl)) (by unfold Func.isWrapper; first | (rw [if_pos (by decide +kernel)]; kernel_rfl) | (rw [if_neg (by decide +kernel)]; exact ⟨rfl, rfl⟩))
    (fun os started H enc _ => FnExactRenumberGraph_lifted os started H enc)


end Go.Proofs.Ytolipjemabmlkaa
