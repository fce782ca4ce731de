/- FnExactFindIsomorphism: for all arguments the program's function answers as the model's, leaves its arguments alone, and its answers own their memory. No condition. -/
import Derived.Test.YtnblhkhdilkbeaaDoorTie
import Derived.Test.YtnblhkhdilkbeaaDoorCards
import Derived.LaidLaws
import Derived.LaidMore
import Derived.Stop.ErrReads
import Derived.Stop.Joined
import Derived.ChangeVars
import Derived.RowKitTokens
import Derived.SevenTiedAt
import Derived.Test.YtnblhkhdilkbeaaDoorCoreP
import Derived.Test.YtnblhkhdilkbeaaDoorCoreA
import Derived.Test.YtnblhkhdilkbeaaDoorHead
import Derived.Deep.RegionHeld3
set_option linter.unusedSimpArgs false
set_option linter.unusedVariables false
set_option maxRecDepth 100000
namespace Go.Proofs.YtnblhkhdilkbeaaDoor
open Go.RowKit Go.ChangeShapes Go.WideShapes Go.ChangeAt

set_option maxHeartbeats 4000000 in
theorem FnExactFindIsomorphism_walk (s0 : Int) (a0 : Option Addr) (n0 c0 : Nat) (xs0 : List (List Int)) (s1 : Int) (a1 : Option Addr) (n1 c1 : Nat) (xs1 : List (List Int)) (a9 : Addr) (w : World) (h0 : RdR 0 w.heap.size w (.slice a0 n0 c0) xs0) (l0 : xs0.length = n0) (is0 : I64 s0) (h1 : RdR 0 w.heap.size w (.slice a1 n1 c1) xs1) (l1 : xs1.length = n1) (is1 : I64 s1) (kE : w.cell? ⟨0, 0, none⟩ = some (.iface 165 (.pointer (some a9)))) :
    Calls Tryd.prog 4 #[.agg #[.int .i64 s0, .slice a0 n0 c0], .agg #[.int .i64 s1, .slice a1 n1 c1]] w fun e w' => e = .returned (.bool true) ∧ Below w.heap.size w w' := by
  have HE := Lib.hid (fun W (hB : Below w.heap.size w W) => (hB.keep kE : W.cell? ⟨0, 0, none⟩ = some (.iface 165 (.pointer (some a9)))))
  clear kE
  have L0 := Lib.hid l0
  clear l0
  have S0 := Lib.hid is0
  clear is0
  have L1 := Lib.hid l1
  clear l1
  have S1 := Lib.hid is1
  clear is1
  have hB : Below w.heap.size w w := Below.refl _ _
  obtain ⟨y0, hy0⟩ : ∃ y, y = ((fiOf s0 xs0 s1 xs1).1) := ⟨_, rfl⟩
  have Hy0 := Lib.hid hy0
  clear hy0
  obtain ⟨y1, hy1⟩ : ∃ y, y = ((fiOf s0 xs0 s1 xs1).2) := ⟨_, rfl⟩
  have Hy1 := Lib.hid hy1
  clear hy1
  go_enter Tryd.func4, Tryd.ntmps4
  go_wp2_with fail
  refine calls_gen (fun W => Below w.heap.size w W ∧ w.heap.size + 1 < W.heap.size ∧ W.cell? ⟨w.heap.size, 0, none⟩ = some (.int .i64 s0) ∧ W.cell? ⟨w.heap.size, 1, none⟩ = some (.slice a0 n0 c0) ∧ W.cell? ⟨w.heap.size + 1, 0, none⟩ = some (.int .i64 s1) ∧ W.cell? ⟨w.heap.size + 1, 1, none⟩ = some (.slice a1 n1 c1)) ⟨((Below.refl _ _).alloc (Nat.le_refl _) _).alloc (by simp <;> omega) _, by simp, by go_simp, by go_simp, by go_simp, by go_simp⟩ ?_
  rintro W0 ⟨hB0, hz0, k0, k1, k2, k3⟩
  replace hB := hB.next hB0
  clear hB0
  refine (szG s0 a0 n0 c0 xs0 _ (by omega) (by omega) _ (h0.below hB) L0.out).mono ?_
  rintro e w1 ⟨⟨r1, hr1, rfl⟩, b1⟩
  replace k0 := b1.keep k0
  replace k1 := b1.keep k1
  replace k2 := b1.keep k2
  replace k3 := b1.keep k3
  replace hB := hB.next b1
  have hz1 := b1.size
  clear b1
  rcases hr1 with rfl | ⟨hr1, hq1⟩
  · go_wp2
    go_ret
    exact ⟨rfl, hB⟩
  have hl0 : lens xs0 ≤ 1048576 := by omega
  have HR1 := Lib.hid hq1
  clear hq1
  have hp1 : ¬ r1 < 0 := by omega
  have hpp1 : r1 ≤ 1048576 := by have := HR1.out; omega
  go_wp2_with fail
  refine (szG s1 a1 n1 c1 xs1 r1 (by omega) (by omega) _ (h1.below hB) L1.out).mono ?_
  rintro e w2 ⟨⟨r2, hr2, rfl⟩, b2⟩
  replace k0 := b2.keep k0
  replace k1 := b2.keep k1
  replace k2 := b2.keep k2
  replace k3 := b2.keep k3
  replace hB := hB.next b2
  have hz2 := b2.size
  clear b2
  rcases hr2 with rfl | ⟨hr2, hq2⟩
  · go_wp2
    go_ret
    exact ⟨rfl, hB⟩
  have hl1 : lens xs1 ≤ 1048576 := by omega
  have HR2 := Lib.hid hq2
  clear hq2
  have hp2 : ¬ r2 < 0 := by omega
  have hpp2 : r2 ≤ 1048576 := by have := HR2.out; omega
  have hBd := hB.drew
  have k0d : w2.drew.cell? ⟨w.heap.size, 0, none⟩ = some (.int .i64 s0) := k0
  have k1d : w2.drew.cell? ⟨w.heap.size, 1, none⟩ = some (.slice a0 n0 c0) := k1
  have k2d : w2.drew.cell? ⟨w.heap.size + 1, 0, none⟩ = some (.int .i64 s1) := k2
  have k3d : w2.drew.cell? ⟨w.heap.size + 1, 1, none⟩ = some (.slice a1 n1 c1) := k3
  have T0 := Lib.hid (toG s0 a0 n0 c0 xs0 w2.drew (h0.below hBd) (by have := hBd.size; omega))
  have T1G := Lib.hid (fun W (hW : Below w.heap.size w W) => toG s1 a1 n1 c1 xs1 W (h1.below hW) (by have := hW.size; omega))
  have T2G := Lib.hid (fun (x y : Option Addr) (cx cy l1 l2 l3 l4 : Nat) (W : World) (hW : Below w.heap.size w W) (hx : RdR l1 l2 W (.slice x xs0.length cx) xs0) (hy : RdR l3 l4 W (.slice y xs1.length cy) xs1) => specFi s0 x xs0.length cx xs0 s1 y xs1.length cy xs1 W hx rfl hy rfl)
  rw [← Hy0.out, ← Hy1.out] at T2G
  have HBK := Lib.hid (⟨hBd, hB⟩ : _ ∧ _)
  obtain ⟨B, hBB⟩ : ∃ B, B = w.heap.size + 1 := ⟨_, rfl⟩
  rw [← hBB] at k2 k3 k2d k3d ⊢
  have HBB := Lib.hid hBB
  clear hBB
  go_wp2
  go_region_held3 (fun W' => W'.cell? ⟨w.heap.size, 0, none⟩ = some (.int .i64 s0) ∧ W'.cell? ⟨w.heap.size, 1, none⟩ = some (.slice a0 n0 c0) ∧ W'.cell? ⟨B, 0, none⟩ = some (.int .i64 s1) ∧ W'.cell? ⟨B, 1, none⟩ = some (.slice a1 n1 c1))
    (first | (exact ⟨k0, k1, k2, k3⟩) | (exact ⟨k03, k13, k23, k33⟩) | (exact ⟨k04, k14, k24, k34⟩) | (exact ⟨k05, k15, k25, k35⟩) | go_keep)
    (first
      | (go_at_call 14; with_reducible refine T0.out.mono ?_; rintro e w3 ⟨a_3, c_3, rfl, o3, b3⟩; have k03 := b3.keep k0d; have k13 := b3.keep k1d; have k23 := b3.keep k2d; have k33 := b3.keep k3d; have bb3 := HBK.out.1.next b3; have T1 := T1G.out w3 bb3)
      | (go_at_call 14; with_reducible refine T1.mono ?_; rintro e w4 ⟨a_4, c_4, rfl, o4, b4⟩; have k04 := b4.keep k03; have k14 := b4.keep k13; have k24 := b4.keep k23; have k34 := b4.keep k33; have bb4 := bb3.next b4; have T2 := T2G.out _ _ _ _ _ _ _ _ w4 bb4 (o3.rd.below b4) o4.rd)
      | (go_at_call 13; with_reducible refine T2.mono ?_; rintro e w5 ⟨aw0, cw0, rfl, w0, b5⟩; have k05 := b5.keep k04; have k15 := b5.keep k14; have k25 := b5.keep k24; have k35 := b5.keep k34; have bb5 := bb4.next b5)
      | fail)
  replace k0 := k05
  replace k1 := k15
  replace k2 := k25
  replace k3 := k35
  rw [HBB.out] at k2 k3 ⊢
  replace hB := bb5
  have hz5 : w2.heap.size ≤ w5.heap.size := Nat.le_trans b3.size (Nat.le_trans b4.size b5.size)
  clear k03 k13 k23 k33 k04 k14 k24 k34 k05 k15 k25 k35 bb3 bb4 bb5 b3 b4 b5 o3 o4 T1 T2 T0 T1G T2G HBK k0d k1d k2d k3d hBd HBB
  go_wp2_with fail
  refine (toG s0 a0 n0 c0 xs0 _ (h0.below hB) (by have := hB.size; omega)).mono ?_
  rintro e w6 ⟨a_6, c_6, rfl, o6, b6⟩
  replace k0 := b6.keep k0
  replace k1 := b6.keep k1
  replace k2 := b6.keep k2
  replace k3 := b6.keep k3
  replace w0 := w0.below b6
  replace hB := hB.next b6
  have hz6 := b6.size
  clear b6
  have al2 := fun o => ((Below.refl w6.heap.size w6).alloc (Nat.le_refl _) o).keep k2
  have al3 := fun o => ((Below.refl w6.heap.size w6).alloc (Nat.le_refl _) o).keep k3
  go_wp2_with fail
  refine calls_gen (fun W => Below w6.heap.size w6 W ∧ w6.heap.size < W.heap.size ∧ W.cell? ⟨w6.heap.size, 0, none⟩ = some (.int .i64 s0) ∧ W.cell? ⟨w6.heap.size, 1, none⟩ = some (.slice a_6 xs0.length c_6)) ⟨(Below.refl _ _).alloc (Nat.le_refl _) _, by simp, by go_simp, by go_simp⟩ ?_
  rintro W6 ⟨bb, hzz6, j0, j1⟩
  replace k0 := bb.keep k0
  replace k1 := bb.keep k1
  replace k2 := bb.keep k2
  replace k3 := bb.keep k3
  replace w0 := w0.below bb
  replace o6 := o6.below bb
  replace hB := hB.next bb
  have hz6 := bb.size
  clear bb
  refine (toG s1 a1 n1 c1 xs1 _ (h1.below hB) (by have := hB.size; omega)).mono ?_
  rintro e w7 ⟨a_7, c_7, rfl, o7, b7⟩
  replace k0 := b7.keep k0
  replace k1 := b7.keep k1
  replace k2 := b7.keep k2
  replace k3 := b7.keep k3
  replace j0 := b7.keep j0
  replace j1 := b7.keep j1
  replace w0 := w0.below b7
  replace o6 := o6.below b7
  replace hB := hB.next b7
  have hz7 := b7.size
  clear b7
  clear al2 al3
  have amk0 := fun o => ((Below.refl w7.heap.size w7).alloc (Nat.le_refl _) o).keep k0
  have amk1 := fun o => ((Below.refl w7.heap.size w7).alloc (Nat.le_refl _) o).keep k1
  have amk2 := fun o => ((Below.refl w7.heap.size w7).alloc (Nat.le_refl _) o).keep k2
  have amk3 := fun o => ((Below.refl w7.heap.size w7).alloc (Nat.le_refl _) o).keep k3
  have amj0 := fun o => ((Below.refl w7.heap.size w7).alloc (Nat.le_refl _) o).keep j0
  have amj1 := fun o => ((Below.refl w7.heap.size w7).alloc (Nat.le_refl _) o).keep j1
  go_wp2_with fail
  refine calls_gen (fun W => Below w7.heap.size w7 W ∧ w7.heap.size < W.heap.size ∧ W.cell? ⟨w7.heap.size, 0, none⟩ = some (.int .i64 s1) ∧ W.cell? ⟨w7.heap.size, 1, none⟩ = some (.slice a_7 xs1.length c_7)) ⟨(Below.refl _ _).alloc (Nat.le_refl _) _, by simp, by go_simp, by go_simp⟩ ?_
  rintro W7 ⟨bb, hzz7, m0, m1⟩
  replace k0 := bb.keep k0
  replace k1 := bb.keep k1
  replace k2 := bb.keep k2
  replace k3 := bb.keep k3
  replace j0 := bb.keep j0
  replace j1 := bb.keep j1
  replace w0 := w0.below bb
  replace o6 := o6.below bb
  replace o7 := o7.below bb
  replace hB := hB.next bb
  have hz7 := bb.size
  clear bb
  refine (implFi s0 _ _ _ xs0 s1 _ _ _ xs1 _ o6.rd rfl o7.rd rfl a9 (HE.out _ hB)).mono ?_
  rw [← Hy0.out, ← Hy1.out]
  rintro e w8 ⟨ag0, cg0, rfl, g0, b8⟩
  replace k0 := b8.keep k0
  replace k1 := b8.keep k1
  replace k2 := b8.keep k2
  replace k3 := b8.keep k3
  replace j0 := b8.keep j0
  replace j1 := b8.keep j1
  replace m0 := b8.keep m0
  replace m1 := b8.keep m1
  replace w0 := w0.below b8
  replace o6 := o6.below b8
  replace o7 := o7.below b8
  replace hB := hB.next b8
  have hz8 := b8.size
  clear b8
  go_wp2_with fail
  refine (eqI1 _ _ _ _ g0.rd w0.rd).mono ?_
  rintro e w9 ⟨rfl, q9⟩
  replace k0 := q9.cell k0
  replace k1 := q9.cell k1
  replace k2 := q9.cell k2
  replace k3 := q9.cell k3
  replace j0 := q9.cell j0
  replace j1 := q9.cell j1
  replace m0 := q9.cell m0
  replace m1 := q9.cell m1
  replace w0 := w0.qt q9
  replace o6 := o6.qt q9
  replace o7 := o7.qt q9
  replace g0 := g0.qt q9
  replace hB := hB.qt q9
  have hz9 := q9.below.size
  clear q9
  go_wp2
  have hsB := hB.size
  go_region_held3 (fun W' => Below w9.heap.size w9 W' ∧ W'.cell? ⟨w.heap.size, 0, none⟩ = some (.int .i64 s0) ∧ W'.cell? ⟨w.heap.size, 1, none⟩ = some (.slice a0 n0 c0) ∧ W'.cell? ⟨w6.heap.size, 0, none⟩ = some (.int .i64 s0) ∧ W'.cell? ⟨w6.heap.size, 1, none⟩ = some (.slice a_6 xs0.length c_6))
    (first | (exact ⟨(Below.refl _ _).drew, k0, k1, j0, j1⟩) | (go_split_ands; exact ⟨Below.next (by assumption) bx, bx.keep (by assumption), bx.keep (by assumption), bx.keep (by assumption), bx.keep (by assumption)⟩) | (go_split_ands; exact ⟨Below.next (by assumption) by1, by1.keep (by assumption), by1.keep (by assumption), by1.keep (by assumption), by1.keep (by assumption)⟩))
    (first | (go_at_call 14; go_split_ands; refine (toG' s0 a0 n0 c0 xs0 w9 _ (by assumption) (h0.below hB) hsB).mono ?_; rintro e wx ⟨ax, cx, rfl, ox, bx⟩) | (go_at_call 17; go_split_ands; refine (eqG1 s0 _ _ _ _ _ _ xs0 w9 _ (by assumption) o6.rd ox.rd).mono ?_; rintro e wz ⟨rfl, by1⟩))
  go_split_ands
  have bS : Below w9.heap.size w9 wz := by assumption
  clear ox bx by1
  replace k0 := bS.keep k0
  replace k1 := bS.keep k1
  replace k2 := bS.keep k2
  replace k3 := bS.keep k3
  replace j0 := bS.keep j0
  replace j1 := bS.keep j1
  replace m0 := bS.keep m0
  replace m1 := bS.keep m1
  replace w0 := w0.below bS
  replace o6 := o6.below bS
  replace o7 := o7.below bS
  replace g0 := g0.below bS
  replace hB := hB.next bS
  have hz10 := bS.size
  clear bS
  go_wp2
  have hsB := hB.size
  go_region_held3 (fun W' => Below wz.heap.size wz W' ∧ W'.cell? ⟨w.heap.size + 1, 0, none⟩ = some (.int .i64 s1) ∧ W'.cell? ⟨w.heap.size + 1, 1, none⟩ = some (.slice a1 n1 c1) ∧ W'.cell? ⟨w7.heap.size, 0, none⟩ = some (.int .i64 s1) ∧ W'.cell? ⟨w7.heap.size, 1, none⟩ = some (.slice a_7 xs1.length c_7))
    (first | (exact ⟨(Below.refl _ _).drew, k2, k3, m0, m1⟩) | (go_split_ands; exact ⟨Below.next (by assumption) bx, bx.keep (by assumption), bx.keep (by assumption), bx.keep (by assumption), bx.keep (by assumption)⟩) | (go_split_ands; exact ⟨Below.next (by assumption) by1, by1.keep (by assumption), by1.keep (by assumption), by1.keep (by assumption), by1.keep (by assumption)⟩))
    (first | (go_at_call 14; go_split_ands; refine (toG' s1 a1 n1 c1 xs1 wz _ (by assumption) (h1.below hB) hsB).mono ?_; rintro e wx ⟨ax, cx, rfl, ox, bx⟩) | (go_at_call 17; go_split_ands; refine (eqG1 s1 _ _ _ _ _ _ xs1 wz _ (by assumption) o7.rd ox.rd).mono ?_; rintro e wy ⟨rfl, by1⟩))
  go_split_ands
  have bS : Below wz.heap.size wz wy := by assumption
  clear ox bx by1
  replace k0 := bS.keep k0
  replace k1 := bS.keep k1
  replace k2 := bS.keep k2
  replace k3 := bS.keep k3
  replace j0 := bS.keep j0
  replace j1 := bS.keep j1
  replace m0 := bS.keep m0
  replace m1 := bS.keep m1
  replace w0 := w0.below bS
  replace o6 := o6.below bS
  replace o7 := o7.below bS
  replace g0 := g0.below bS
  replace hB := hB.next bS
  have hz11 := bS.size
  clear bS
  go_wp2_with fail
  refine (markG s0 _ _ _ xs0 _ _ o6 (by omega) (by omega) (by omega)).mono ?_
  clear o6
  rintro e w12 ⟨rfl, -, ch12⟩
  replace k0 := ch12.cell k0 (by simp <;> omega)
  replace k1 := ch12.cell k1 (by simp <;> omega)
  replace k2 := ch12.cell k2 (by simp <;> omega)
  replace k3 := ch12.cell k3 (by simp <;> omega)
  replace j0 := ch12.cell j0 (by simp <;> omega)
  replace j1 := ch12.cell j1 (by simp <;> omega)
  replace m0 := ch12.cell m0 (by simp <;> omega)
  replace m1 := ch12.cell m1 (by simp <;> omega)
  replace w0 := w0.chg ch12 (by omega)
  replace o7 := o7.chg ch12 (by omega)
  replace g0 := g0.chg ch12 (by omega)
  replace hB := hB.chgn ch12 (by omega) hB.size
  have hz12 := ch12.size
  clear ch12
  go_wp2_with fail
  refine (markG s1 _ _ _ xs1 _ _ o7 (by omega) (by omega) (by omega)).mono ?_
  clear o7
  rintro e w13 ⟨rfl, -, ch13⟩
  replace k0 := ch13.cell k0 (by simp <;> omega)
  replace k1 := ch13.cell k1 (by simp <;> omega)
  replace k2 := ch13.cell k2 (by simp <;> omega)
  replace k3 := ch13.cell k3 (by simp <;> omega)
  replace j0 := ch13.cell j0 (by simp <;> omega)
  replace j1 := ch13.cell j1 (by simp <;> omega)
  replace m0 := ch13.cell m0 (by simp <;> omega)
  replace m1 := ch13.cell m1 (by simp <;> omega)
  replace w0 := w0.chg ch13 (by omega)
  replace g0 := g0.chg ch13 (by omega)
  replace hB := hB.chgn ch13 (by omega) hB.size
  have hz13 := ch13.size
  clear ch13
  go_wp2_with fail
  refine (eqI1 _ _ _ _ g0.rd w0.rd).mono ?_
  rintro e w14 ⟨rfl, q14⟩
  replace k0 := q14.cell k0
  replace k1 := q14.cell k1
  replace k2 := q14.cell k2
  replace k3 := q14.cell k3
  replace j0 := q14.cell j0
  replace j1 := q14.cell j1
  replace m0 := q14.cell m0
  replace m1 := q14.cell m1
  replace w0 := w0.qt q14
  replace g0 := g0.qt q14
  replace hB := hB.qt q14
  have hz14 := q14.below.size
  clear q14
  go_wp2_with fail
  refine (markI _ _ _ _ g0 (by omega) (by omega)).mono ?_
  clear g0
  rintro e w15 ⟨rfl, g0, ch15⟩
  replace k0 := ch15.cell k0 (by simp <;> omega)
  replace k1 := ch15.cell k1 (by simp <;> omega)
  replace k2 := ch15.cell k2 (by simp <;> omega)
  replace k3 := ch15.cell k3 (by simp <;> omega)
  replace j0 := ch15.cell j0 (by simp <;> omega)
  replace j1 := ch15.cell j1 (by simp <;> omega)
  replace m0 := ch15.cell m0 (by simp <;> omega)
  replace m1 := ch15.cell m1 (by simp <;> omega)
  replace w0 := w0.chg ch15 (by omega)
  replace hB := hB.chgn ch15 (by omega) hB.size
  have hz15 := ch15.size
  clear ch15
  go_wp2_with fail
  refine (heldI _ _ _ _ g0.rd (by omega) (by omega)).mono ?_
  rintro e w16 ⟨rfl, q16⟩
  replace k0 := q16.cell k0
  replace k1 := q16.cell k1
  replace k2 := q16.cell k2
  replace k3 := q16.cell k3
  replace j0 := q16.cell j0
  replace j1 := q16.cell j1
  replace m0 := q16.cell m0
  replace m1 := q16.cell m1
  replace w0 := w0.qt q16
  replace g0 := g0.qt q16
  replace hB := hB.qt q16
  have hz16 := q16.below.size
  clear q16
  have hnn0 : ¬ ((1 : Int) + ((y0).length : Int) < 0) := by omega
  have hBd := hB.drew
  have k0d : w16.drew.cell? ⟨w.heap.size, 0, none⟩ = some (.int .i64 s0) := k0
  have k1d : w16.drew.cell? ⟨w.heap.size, 1, none⟩ = some (.slice a0 n0 c0) := k1
  have k2d : w16.drew.cell? ⟨w.heap.size + 1, 0, none⟩ = some (.int .i64 s1) := k2
  have k3d : w16.drew.cell? ⟨w.heap.size + 1, 1, none⟩ = some (.slice a1 n1 c1) := k3
  have T0 := Lib.hid (toG s0 a0 n0 c0 xs0 w16.drew (h0.below hBd) (by have := hBd.size; omega))
  have T1G := Lib.hid (fun W (hW : Below w.heap.size w W) => toG s1 a1 n1 c1 xs1 W (h1.below hW) (by have := hW.size; omega))
  have T2G := Lib.hid (fun (x y : Option Addr) (cx cy l1 l2 l3 l4 : Nat) (W : World) (hW : Below w.heap.size w W) (hx : RdR l1 l2 W (.slice x xs0.length cx) xs0) (hy : RdR l3 l4 W (.slice y xs1.length cy) xs1) => implFi s0 x xs0.length cx xs0 s1 y xs1.length cy xs1 W hx rfl hy rfl a9 (HE.out W hW))
  rw [← Hy0.out, ← Hy1.out] at T2G
  have HBK := Lib.hid (⟨hBd, hB⟩ : _ ∧ _)
  obtain ⟨B, hBB⟩ : ∃ B, B = w.heap.size + 1 := ⟨_, rfl⟩
  rw [← hBB] at k2 k3 k2d k3d ⊢
  have HBB := Lib.hid hBB
  clear hBB
  go_wp2
  go_region_held3 (fun W' => W'.cell? ⟨w.heap.size, 0, none⟩ = some (.int .i64 s0) ∧ W'.cell? ⟨w.heap.size, 1, none⟩ = some (.slice a0 n0 c0) ∧ W'.cell? ⟨B, 0, none⟩ = some (.int .i64 s1) ∧ W'.cell? ⟨B, 1, none⟩ = some (.slice a1 n1 c1))
    (first | (exact ⟨k0, k1, k2, k3⟩) | (exact ⟨k03, k13, k23, k33⟩) | (exact ⟨k04, k14, k24, k34⟩) | (exact ⟨k05, k15, k25, k35⟩) | go_keep)
    (first
      | (go_at_call 14; with_reducible refine T0.out.mono ?_; rintro e w17 ⟨a_17, c_17, rfl, o17, b17⟩; have k03 := b17.keep k0d; have k13 := b17.keep k1d; have k23 := b17.keep k2d; have k33 := b17.keep k3d; have bb3 := HBK.out.1.next b17; have T1 := T1G.out w17 bb3)
      | (go_at_call 14; with_reducible refine T1.mono ?_; rintro e w18 ⟨a_18, c_18, rfl, o18, b18⟩; have k04 := b18.keep k03; have k14 := b18.keep k13; have k24 := b18.keep k23; have k34 := b18.keep k33; have bb4 := bb3.next b18; have T2 := T2G.out _ _ _ _ _ _ _ _ w18 bb4 (o17.rd.below b18) o18.rd)
      | (go_at_call 15; with_reducible refine T2.mono ?_; rintro e w19 ⟨ah0, ch0, rfl, h0, b19⟩; have k05 := b19.keep k04; have k15 := b19.keep k14; have k25 := b19.keep k24; have k35 := b19.keep k34; have bb5 := bb4.next b19)
      | fail)
  replace k0 := k05
  replace k1 := k15
  replace k2 := k25
  replace k3 := k35
  rw [HBB.out] at k2 k3 ⊢
  replace hB := bb5
  have hz19 : w16.heap.size ≤ w19.heap.size := Nat.le_trans b17.size (Nat.le_trans b18.size b19.size)
  replace g0 := (((g0.qt ((Qt.refl _).drew)).below b17).below b18).below b19
  replace w0 := (((w0.qt ((Qt.refl _).drew)).below b17).below b18).below b19
  clear k03 k13 k23 k33 k04 k14 k24 k34 k05 k15 k25 k35 bb3 bb4 bb5 b17 b18 b19 o17 o18 T1 T2 T0 T1G T2G HBK k0d k1d k2d k3d hBd HBB
  go_wp2_with fail
  refine (eqI1 _ _ _ _ h0.rd w0.rd).mono ?_
  rintro e w20 ⟨rfl, q20⟩
  replace k0 := q20.cell k0
  replace k1 := q20.cell k1
  replace k2 := q20.cell k2
  replace k3 := q20.cell k3
  replace w0 := w0.qt q20
  replace g0 := g0.qt q20
  replace h0 := h0.qt q20
  replace hB := hB.qt q20
  have hz20 := q20.below.size
  clear q20
  go_wp2_with fail
  refine (heldI _ _ _ _ g0.rd (by omega) (by omega)).mono ?_
  rintro e w21 ⟨rfl, q21⟩
  replace k0 := q21.cell k0
  replace k1 := q21.cell k1
  replace k2 := q21.cell k2
  replace k3 := q21.cell k3
  replace w0 := w0.qt q21
  replace g0 := g0.qt q21
  replace h0 := h0.qt q21
  replace hB := hB.qt q21
  have hz21 := q21.below.size
  clear q21
  go_wp2
  go_ret
  exact ⟨rfl, hB⟩


theorem gE : Tryd.prog.globalNamed "loop.example/g01298/impl.errNoMap" = some 0 := by kernel_rfl
theorem tE : (Tryd.prog.globals[0]?).map (·.type) = some 56 := by kernel_rfl
theorem nameE : Tryd.prog.typeName? 3 165 = some "*errors.errorString" := by kernel_rfl
theorem cellsE : Tryd.prog.cellsOf 167 = 1 := by kernel_rfl
theorem cellsStr : Tryd.prog.cellsOf 9 = 1 := by kernel_rfl
theorem starE : "*" ++ "errors.errorString" = "*errors.errorString" := by decide
theorem rowE (u : TypeId) (h : Tryd.prog.typeName? 3 u = some "*errors.errorString") : u = 165 :=
  typeName_ptr_named (nm := "errors.errorString") (by rw [starE]; kernel_rfl) (by kernel_rfl) (by decide) u (by rw [starE]; exact h)

/-- what the condition gives the walk: the sentinel's cell -/
theorem sentinel_of_laid {W : World} (h : laidMetH Tryd.prog Rows.fnExactFindIsomorphismRow.laid W) :
    ∃ a0 : Addr, W.var? Tryd.prog "loop.example/g01298/impl.errNoMap" = some #[.iface 165 (.pointer (some a0))] := by
  rw [MakeChecks.laidMetH_plain _ _ _ (by kernel_rfl)] at h
  obtain ⟨ps, ⟨g0, t0, cs0, f0, p0, q0, hg0, ht0, hv0, hd0, hq0, e0⟩, hnd, hrows⟩ := h
  obtain rfl := Option.some.inj (gE.symm.trans hg0)
  obtain rfl := Option.some.inj (tE.symm.trans ht0)
  have hq0' : q0 = [] := hq0
  subst hq0'
  subst e0
  obtain ⟨l0⟩ := cs0
  have ok0 : ∀ u v, l0 = [.iface u v] → Value.okWide Tryd.prog W .any 0 u v := fun u v e => by
    subst e
    exact (hrows 0 0 (by simp [MemPlace.row])).2 u v (by simpa using World.var?_cell hg0 hv0 0)
  obtain ⟨a0, s0, rfl, hc0, hs0, hz0, rfl⟩ := errorString_of_trod Tryd.underlying56 rowE Tryd.underlying165 Tryd.underlying167 rfl rfl Tryd.underlying9 cellsE cellsStr hd0 ok0
  exact ⟨a0, hv0⟩
theorem var_below {W W' : World} {n : String} {cs : Array Value} (hb : Below W.heap.size W W') (h : W.var? Tryd.prog n = some cs) : W'.var? Tryd.prog n = some cs := by
  unfold World.var? at h ⊢
  cases hg : Tryd.prog.globalNamed n with
  | none => simp [hg] at h
  | some g =>
    simp only [hg, Option.bind_some] at h ⊢
    have hlt : g < W.heap.size := by
      rcases Nat.lt_or_ge g W.heap.size with h' | h'
      · exact h'
      · simp [Array.getElem?_eq_none h'] at h
    rw [hb.block g hlt]
    exact h
theorem vars_read {H : Type} (enc : TypeId × Value → H) {W : World} {x0 : Value} (h0 : W.var? Tryd.prog "loop.example/g01298/impl.errNoMap" = some #[x0]) (i0 : IsIface x0) (sp : Nat → Bool) :
    DataW.TrodVars enc Tryd.prog W sp ["loop.example/g01298/impl.errNoMap"] [tok enc x0] [.cell 0 0] :=
  ⟨0, 56, #[x0], 1, [], [], gE, tE, h0, trod_held Tryd.underlying56 i0 0, rfl, rfl⟩
theorem door_met (os : Os) (args : Array Value) : laidMetH Tryd.prog Rows.fnExactFindIsomorphismRow.laid ((World.doorLaid Tryd.prog 400 os).forCall (fun _ _ => 0) ⟨#[], args, []⟩).memory := by
  rw [MakeChecks.laidMetH_plain _ _ _ (by kernel_rfl)]
  exact laidMet_of_run' 8 (by kernel_rfl) (by kernel_rfl)

set_option maxRecDepth 100000 in
theorem FnExactFindIsomorphism_lifted (os : Os) (started : os.Started) (H : Type) (enc : TypeId × Value → H) :
    ReturnsInHanded {} Tryd.checked os 4 .any (fun w args => (Rows.fnExactFindIsomorphismSpec.pre enc Tryd.prog Tryd.f4 [] false w args ∧ laidMetH Tryd.prog Rows.fnExactFindIsomorphismRow.laid w) ∧ sizedMet enc Tryd.prog Tryd.f4 (OpenSpec.ofChange Rows.fnExactFindIsomorphismSpec) false w args) (Rows.fnExactFindIsomorphismSpec.post enc Tryd.prog Tryd.f4 false true false false) := by
  refine returnsInHanded_of_change_and (C := Tryd.checked) (X := fun w _ => laidMetH Tryd.prog Rows.fnExactFindIsomorphismRow.laid w) (fun _ _ _ hh h => h.of_heap hh) own started (by kernel_rfl) Tryd.func4
    (ChangeSpec.witness_shaped (enc := enc) (C := Tryd.checked) (os := os) (X := fun w _ => laidMetH Tryd.prog Rows.fnExactFindIsomorphismRow.laid w) false (World.doorLaid Tryd.prog 400 os) #[.agg #[.int .i64 0, .slice none 0 0], .agg #[.int .i64 0, .slice none 0 0]] 8 rfl (World.shaped_of_RefB (by kernel_rfl) (by kernel_rfl)) (by kernel_rfl) (by kernel_rfl) (by kernel_rfl) (door_met os _)) ?_
  intro W base args ds gs before hval0 hW _ hsz0 hL _
  have hsz : (DataW.weightsEach Tryd.prog (Tryd.f4.params.toList ++ Rows.fnExactFindIsomorphismSpec.plain.varTypes Tryd.prog) (ds ++ gs)).all (· ≤ reachBytes) = true := hsz0
  clear hsz0
  have hval : ∀ (j : Nat) t v, Tryd.f4.params[j]? = some t → args[j]? = some v → Value.okWide Tryd.prog W .any base t v := hval0
  have hW' := hW
  obtain ⟨p, q, hA0, hV0, rfl, _, _⟩ := hW
  have hV : DataW.TrodVars enc Tryd.prog W (fun _ => true) ["loop.example/g01298/impl.errNoMap"] gs q := hV0
  have hA : DataW.TrodAll enc Tryd.prog W 0 (fun _ => true) true Tryd.f4.params.toList args.toList ds p := hA0
  rw [Tryd.params4] at hA hval hsz
  clear hA0 hval0
  obtain ⟨v0, vs0, d0, ds0, p0, q0, hargs0, rfl, rfl, h0, r0⟩ := trodAll_cons hA
  obtain ⟨v1, vs1, d1, ds1, p1, q1, hargs1, rfl, rfl, h1, r1⟩ := trodAll_cons r0
  obtain ⟨rfl, rfl, rfl⟩ := trodAll_nil r1
  obtain rfl : args = #[v0, v1] := by cases args; simp_all
  obtain ⟨a9, hv9⟩ := sentinel_of_laid hL
  obtain ⟨rfl, rfl⟩ := hV.unique (vars_read enc hv9 trivial _)
  have kE : W.cell? ⟨0, 0, none⟩ = some (.iface 165 (.pointer (some a9))) := by simpa using World.var?_cell gE hv9 0
  have hltW := hW'.lt
  have hlt0 : ∀ x ∈ p0, x.block < W.heap.size := fun x hx => by have := hW'.lt x (by simp [hx]); simpa using this
  have hwt0 : ∀ n ∈ d0.weights Tryd.prog 32, n ≤ reachBytes := fun n hn => by simpa using List.all_eq_true.1 hsz n (DataW.weights_mem_each (j := 0) rfl rfl n hn)
  obtain ⟨s0, a0, n0, c0, xs0, hv0, l0, rd0, is0⟩ := openG (hval 0 32 v0 rfl rfl) h0 hwt0
  have keepA0 : ∀ (W' : World), Below W.heap.size W W' → DataW.Trod enc Tryd.prog W' 0 (fun b => decide (b < W.heap.size)) true 32 v0 d0 p0 := fun W' hn => Below.trod laidOut (by kernel_rfl) (of_decide_eq_true (by kernel_rfl)) h0 hn hlt0
  have hlt1 : ∀ x ∈ p1, x.block < W.heap.size := fun x hx => by have := hW'.lt x (by simp [hx]); simpa using this
  have hwt1 : ∀ n ∈ d1.weights Tryd.prog 32, n ≤ reachBytes := fun n hn => by simpa using List.all_eq_true.1 hsz n (DataW.weights_mem_each (j := 1) rfl rfl n hn)
  obtain ⟨s1, a1, n1, c1, xs1, hv1, l1, rd1, is1⟩ := openG (hval 1 32 v1 rfl rfl) h1 hwt1
  have keepA1 : ∀ (W' : World), Below W.heap.size W W' → DataW.Trod enc Tryd.prog W' 0 (fun b => decide (b < W.heap.size)) true 32 v1 d1 p1 := fun W' hn => Below.trod laidOut (by kernel_rfl) (of_decide_eq_true (by kernel_rfl)) h1 hn hlt1
  subst hv0
  subst hv1
  refine (FnExactFindIsomorphism_walk s0 a0 n0 c0 xs0 s1 a1 n1 c1 xs1 a9 W rd0 l0 is0 rd1 l1 is1 kE).mono fun e W' ⟨he, hb⟩ => ?_
  subst he
  exact ⟨_, rfl, _, _, _, [], _, [.cell 0 0], hW', trodAll_mk1 (shut_bool Tryd.underlying4 _), (trodAll_cons_mk (keepA0 _ hb) (trodAll_cons_mk (keepA1 _ hb) trodAll_mk0)), vars_read enc (var_below hb hv9) trivial _, hb.frame _, fun h => by cases h⟩

theorem FnExactFindIsomorphism_k1 : (Rows.fnExactFindIsomorphismRow.inPlace == Tryd.prog.inPlace 4) = true := by kernel_rfl
theorem FnExactFindIsomorphism_k2 : (Rows.fnExactFindIsomorphismRow.unfollowed == Tryd.prog.unfollowed 4) = true := by kernel_rfl
theorem FnExactFindIsomorphism_k3 : (Rows.fnExactFindIsomorphismRow.recurses == Tryd.prog.recurses 4) = true := by kernel_rfl
theorem FnExactFindIsomorphism_k4 : (Rows.fnExactFindIsomorphismRow.named == Tryd.prog.varsNamed 4) = true := by kernel_rfl
set_option maxRecDepth 100000 in
theorem FnExactFindIsomorphism_closed : joinedFacts Tryd.prog 4 Tryd.f4 Rows.fnExactFindIsomorphismSpec Rows.fnExactFindIsomorphismRow = true := by
  unfold joinedFacts
  rw [FnExactFindIsomorphism_k1, FnExactFindIsomorphism_k2, FnExactFindIsomorphism_k3, FnExactFindIsomorphism_k4, head_enter, head_lifts, head_make]
  show (_ : Bool) = true
  kernel_rfl


theorem FnExactFindIsomorphism_holds : Rows.FnExactFindIsomorphismSaid :=
  OpenClaim.holds_of_wide 4 Tryd.f4 rfl rfl rfl rfl rfl rfl rfl ⟨rfl, rfl, rfl, rfl, rfl⟩ rfl rfl rfl rfl rfl (by kernel_rfl) Tryd.func4 FnExactFindIsomorphism_closed
    (of_decide_eq_true (by kernel_rfl)) (by unfold Func.isWrapper; first | (rw [if_pos (by decide +kernel)]; kernel_rfl) | (rw [if_neg (by decide +kernel)]; exact ⟨rfl, rfl⟩))
    (fun os started H enc _ => FnExactFindIsomorphism_lifted os started H enc)


theorem FnExactFindIsomorphism_card : Rows.FnExactFindIsomorphismCardSaid :=
  Claim7.holds_tied_plain_at .later [] [.sentinel] true (true, "450085890334e1540906e34d31a7231a260b20f1ae71f21da15f7f1db42c0029") true
    FnExactFindIsomorphism_holds (fun _ h => by cases h) (by kernel_rfl) (fun _ h => by cases h) fnExactFindIsomorphism_row_tie rfl ⟨rfl, rfl⟩ (by kernel_rfl) rfl
    (fun f fn hf hfn => by
      obtain rfl : f = 4 := Option.some.inj ((show Tryd.prog.funcNamed "loop.example/g01298/laws.FnExactFindIsomorphism" = some 4 by kernel_rfl).symm.trans hf) |>.symm
      obtain rfl : fn = Tryd.f4 := (Option.some.inj (Tryd.func4.symm.trans hfn)).symm
      exact ⟨by kernel_rfl, fun j t ht => by
        rw [Tryd.params4] at ht
        have h3 : t ∈ [32, 32] := by
          rcases j with _ | _ | _ | _ | j <;> simp at ht <;> simp [← ht]
        simp only [List.mem_cons, List.mem_nil_iff, or_false] at h3
        rcases h3 with rfl | rfl
        all_goals (first | exact (show Tryd.prog.wantsStandIn _ = false by kernel_rfl))⟩)
    (by kernel_rfl)

end Go.Proofs.YtnblhkhdilkbeaaDoor

