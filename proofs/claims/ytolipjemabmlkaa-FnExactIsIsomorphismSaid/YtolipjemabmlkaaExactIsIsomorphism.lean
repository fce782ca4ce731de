/- FnExactIsIsomorphism: for all arguments the program's function answers as the model's, leaves its arguments alone, and its answers own their memory. No condition. -/
import Derived.Test.YtolipjemabmlkaaIsS
import Derived.Test.YtolipjemabmlkaaCoreA
import Derived.Test.YtolipjemabmlkaaHead
import Derived.Deep.RegionHeld3
set_option linter.unusedSimpArgs false
set_option linter.unusedVariables false
set_option maxRecDepth 100000
namespace Go.Proofs.Ytolipjemabmlkaa
open Go.RowKit Go.ChangeShapes Go.WideShapes Go.ChangeAt

theorem owI_capI {lo hi : Nat} {w : World} {a : Option Addr} {n c : Nat} {xs : List Int} (h : OwI lo hi w (.slice a n c) xs) : n ≤ c := by
  rcases h.2.2.1.2 with ⟨e, _⟩ | ⟨_, _, _, e, _, _, e2, _⟩
  · simp at e; omega
  · simp at e; omega

set_option maxHeartbeats 4000000 in
theorem FnExactIsIsomorphism_walk (s0 : Int) (a0 : Option Addr) (n0 c0 : Nat) (xs0 : List (List Int)) (s1 : Int) (a1 : Option Addr) (n1 c1 : Nat) (xs1 : List (List Int)) (a2 : Option Addr) (n2 c2 : Nat) (xs2 : List Int) (w : World) (h0 : RdR 0 w.heap.size w (.slice a0 n0 c0) xs0) (l0 : xs0.length = n0) (is0 : I64 s0) (h1 : RdR 0 w.heap.size w (.slice a1 n1 c1) xs1) (l1 : xs1.length = n1) (is1 : I64 s1) (h2 : RdI 0 w.heap.size w (.slice a2 n2 c2) xs2) (l2 : xs2.length = n2) :
    Calls Try.prog 5 #[.agg #[.int .i64 s0, .slice a0 n0 c0], .agg #[.int .i64 s1, .slice a1 n1 c1], .slice a2 n2 c2] w fun e w' => e = .returned (.bool true) ∧ Below w.heap.size w w' := by
  have L0 := Lib.hid l0
  clear l0
  have S0 := Lib.hid is0
  clear is0
  have L1 := Lib.hid l1
  clear l1
  have S1 := Lib.hid is1
  clear is1
  have L2 := Lib.hid l2
  clear l2
  have hn2 : n2 ≤ 17592186044416 := by rw [← L2.out]; exact h2.1
  have hB : Below w.heap.size w w := Below.refl _ _
  obtain ⟨y0, hy0⟩ : ∃ y, y = ((isoOf s0 xs0 s1 xs1 xs2).1) := ⟨_, rfl⟩
  have Hy0 := Lib.hid hy0
  clear hy0
  have hne0 : (y0 != y0) = false := by cases y0 <;> rfl
  obtain ⟨y1, hy1⟩ : ∃ y, y = ((isoOf s0 xs0 s1 xs1 xs2).2) := ⟨_, rfl⟩
  have Hy1 := Lib.hid hy1
  clear hy1
  by_cases hm2 : n2 ≤ 1048576
  case neg =>
    go_enter Try.func5, Try.ntmps5
    go_wp2
    go_ret
    exact ⟨rfl, ((Below.refl _ _).alloc (Nat.le_refl _) _).alloc (by simp <;> omega) _⟩
  have hx2 : xs2.length ≤ 1048576 := by rw [L2.out]; exact hm2
  go_enter Try.func5, Try.ntmps5
  go_wp2_with fail
  refine calls_gen (fun W => Below w.heap.size w W ∧ w.heap.size + 1 < W.heap.size ∧ W.cell? ⟨w.heap.size, 0, none⟩ = some (.int .i64 s0) ∧ W.cell? ⟨w.heap.size, 1, none⟩ = some (.slice a0 n0 c0) ∧ W.cell? ⟨w.heap.size + 1, 0, none⟩ = some (.int .i64 s1) ∧ W.cell? ⟨w.heap.size + 1, 1, none⟩ = some (.slice a1 n1 c1)) ⟨((Below.refl _ _).alloc (Nat.le_refl _) _).alloc (by simp <;> omega) _, by simp, by go_simp, by go_simp, by go_simp, by go_simp⟩ ?_
  rintro W0 ⟨hB0, hz0, k0, k1, k2, k3⟩
  replace hB := hB.next hB0
  clear hB0
  refine (szG s0 a0 n0 c0 xs0 _ (by omega) (by omega) _ (h0.below hB) L0.out).mono ?_
  rintro e w1 ⟨⟨r1, hr1, rfl⟩, b1⟩
  replace k0 := b1.keep k0
  replace k1 := b1.keep k1
  replace k2 := b1.keep k2
  replace k3 := b1.keep k3
  replace hB := hB.next b1
  have hz1 := b1.size
  clear b1
  rcases hr1 with rfl | ⟨hr1, hq1⟩
  · go_wp2
    go_ret
    exact ⟨rfl, hB⟩
  have hl0 : lens xs0 ≤ 1048576 := by omega
  have HR1 := Lib.hid hq1
  clear hq1
  have hp1 : ¬ r1 < 0 := by omega
  have hpp1 : r1 ≤ 1048576 := by have := HR1.out; omega
  go_wp2_with fail
  refine (szG s1 a1 n1 c1 xs1 r1 (by omega) (by omega) _ (h1.below hB) L1.out).mono ?_
  rintro e w2 ⟨⟨r2, hr2, rfl⟩, b2⟩
  replace k0 := b2.keep k0
  replace k1 := b2.keep k1
  replace k2 := b2.keep k2
  replace k3 := b2.keep k3
  replace hB := hB.next b2
  have hz2 := b2.size
  clear b2
  rcases hr2 with rfl | ⟨hr2, hq2⟩
  · go_wp2
    go_ret
    exact ⟨rfl, hB⟩
  have hl1 : lens xs1 ≤ 1048576 := by omega
  have HR2 := Lib.hid hq2
  clear hq2
  have hp2 : ¬ r2 < 0 := by omega
  have hpp2 : r2 ≤ 1048576 := by have := HR2.out; omega
  have hBd := hB.drew
  have k0d : w2.drew.cell? ⟨w.heap.size, 0, none⟩ = some (.int .i64 s0) := k0
  have k1d : w2.drew.cell? ⟨w.heap.size, 1, none⟩ = some (.slice a0 n0 c0) := k1
  have k2d : w2.drew.cell? ⟨w.heap.size + 1, 0, none⟩ = some (.int .i64 s1) := k2
  have k3d : w2.drew.cell? ⟨w.heap.size + 1, 1, none⟩ = some (.slice a1 n1 c1) := k3
  have T0 := Lib.hid (toG s0 a0 n0 c0 xs0 w2.drew (h0.below hBd) (by have := hBd.size; omega))
  have T1G := Lib.hid (fun W (hW : Below w.heap.size w W) => toG s1 a1 n1 c1 xs1 W (h1.below hW) (by have := hW.size; omega))
  have TIG := Lib.hid (fun W (hW : Below w.heap.size w W) => toI _ xs2 W (h2.below hW))
  have T2G := Lib.hid (fun (x y z : Option Addr) (cx cy cz l1 l2 l3 l4 l5 l6 : Nat) (W : World) (hx : RdR l1 l2 W (.slice x xs0.length cx) xs0) (hy : RdR l3 l4 W (.slice y xs1.length cy) xs1) (hz : RdI l5 l6 W (.slice z xs2.length cz) xs2) => specIso s0 x xs0.length cx xs0 s1 y xs1.length cy xs1 z xs2.length cz xs2 W hx rfl hy rfl hz rfl)
  rw [← Hy0.out, ← Hy1.out] at T2G
  have HBK := Lib.hid (⟨hBd, hB⟩ : _ ∧ _)
  obtain ⟨B, hBB⟩ : ∃ B, B = w.heap.size + 1 := ⟨_, rfl⟩
  rw [← hBB] at k2 k3 k2d k3d ⊢
  have HBB := Lib.hid hBB
  clear hBB
  go_wp2
  go_region_held3 (fun W' => W'.cell? ⟨w.heap.size, 0, none⟩ = some (.int .i64 s0) ∧ W'.cell? ⟨w.heap.size, 1, none⟩ = some (.slice a0 n0 c0) ∧ W'.cell? ⟨B, 0, none⟩ = some (.int .i64 s1) ∧ W'.cell? ⟨B, 1, none⟩ = some (.slice a1 n1 c1))
    (first | (exact ⟨k0, k1, k2, k3⟩) | (exact ⟨k03, k13, k23, k33⟩) | (exact ⟨k04, k14, k24, k34⟩) | (exact ⟨k0i, k1i, k2i, k3i⟩) | (exact ⟨k05, k15, k25, k35⟩) | go_keep)
    (first
      | (go_at_call 19; with_reducible refine T0.out.mono ?_; rintro e w3 ⟨a_3, c_3, rfl, o3, b3⟩; have k03 := b3.keep k0d; have k13 := b3.keep k1d; have k23 := b3.keep k2d; have k33 := b3.keep k3d; have bb3 := HBK.out.1.next b3; have T1 := T1G.out w3 bb3)
      | (go_at_call 19; with_reducible refine T1.mono ?_; rintro e w4 ⟨a_4, c_4, rfl, o4, b4⟩; have k04 := b4.keep k03; have k14 := b4.keep k13; have k24 := b4.keep k23; have k34 := b4.keep k33; have bb4 := bb3.next b4; have TI := TIG.out w4 bb4)
      | (go_at_call 29; with_reducible refine TI.mono ?_; rintro e wi ⟨a_i, c_i, rfl, oi, bi⟩; have k0i := bi.keep k04; have k1i := bi.keep k14; have k2i := bi.keep k24; have k3i := bi.keep k34; have bbi := bb4.next bi; have T2 := T2G.out _ _ _ _ _ _ _ _ _ _ _ _ wi ((o3.rd.below b4).below bi) (o4.rd.below bi) oi.rd)
      | (go_at_call 28; with_reducible refine T2.mono ?_; rintro e w5 ⟨rfl, b5⟩; have k05 := b5.keep k0i; have k15 := b5.keep k1i; have k25 := b5.keep k2i; have k35 := b5.keep k3i; have bb5 := bbi.next b5)
      | fail)
  replace k0 := k05
  replace k1 := k15
  replace k2 := k25
  replace k3 := k35
  rw [HBB.out] at k2 k3 ⊢
  replace hB := bb5
  have hz5 : w2.heap.size ≤ w5.heap.size := Nat.le_trans b3.size (Nat.le_trans b4.size (Nat.le_trans bi.size b5.size))
  clear k03 k13 k23 k33 k04 k14 k24 k34 k0i k1i k2i k3i k05 k15 k25 k35 bb3 bb4 bbi bb5 b3 b4 bi b5 o3 o4 oi T1 T2 TI TIG T0 T1G T2G HBK k0d k1d k2d k3d hBd HBB
  go_wp2_with fail
  refine (toG s0 a0 n0 c0 xs0 _ (h0.below hB) (by have := hB.size; omega)).mono ?_
  rintro e w6 ⟨a_6, c_6, rfl, o6, b6⟩
  replace k0 := b6.keep k0
  replace k1 := b6.keep k1
  replace k2 := b6.keep k2
  replace k3 := b6.keep k3
  replace hB := hB.next b6
  have hz6 := b6.size
  clear b6
  have al2 := fun o => ((Below.refl w6.heap.size w6).alloc (Nat.le_refl _) o).keep k2
  have al3 := fun o => ((Below.refl w6.heap.size w6).alloc (Nat.le_refl _) o).keep k3
  go_wp2_with fail
  refine calls_gen (fun W => Below w6.heap.size w6 W ∧ w6.heap.size < W.heap.size ∧ W.cell? ⟨w6.heap.size, 0, none⟩ = some (.int .i64 s0) ∧ W.cell? ⟨w6.heap.size, 1, none⟩ = some (.slice a_6 xs0.length c_6)) ⟨(Below.refl _ _).alloc (Nat.le_refl _) _, by simp, by go_simp, by go_simp⟩ ?_
  rintro W6 ⟨bb, hzz6, j0, j1⟩
  replace k0 := bb.keep k0
  replace k1 := bb.keep k1
  replace k2 := bb.keep k2
  replace k3 := bb.keep k3
  replace o6 := o6.below bb
  replace hB := hB.next bb
  have hz6 := bb.size
  clear bb
  refine (toG s1 a1 n1 c1 xs1 _ (h1.below hB) (by have := hB.size; omega)).mono ?_
  rintro e w7 ⟨a_7, c_7, rfl, o7, b7⟩
  replace k0 := b7.keep k0
  replace k1 := b7.keep k1
  replace k2 := b7.keep k2
  replace k3 := b7.keep k3
  replace j0 := b7.keep j0
  replace j1 := b7.keep j1
  replace o6 := o6.below b7
  replace hB := hB.next b7
  have hz7 := b7.size
  clear b7
  clear al2 al3
  have amk0 := fun o => ((Below.refl w7.heap.size w7).alloc (Nat.le_refl _) o).keep k0
  have amk1 := fun o => ((Below.refl w7.heap.size w7).alloc (Nat.le_refl _) o).keep k1
  have amk2 := fun o => ((Below.refl w7.heap.size w7).alloc (Nat.le_refl _) o).keep k2
  have amk3 := fun o => ((Below.refl w7.heap.size w7).alloc (Nat.le_refl _) o).keep k3
  have amj0 := fun o => ((Below.refl w7.heap.size w7).alloc (Nat.le_refl _) o).keep j0
  have amj1 := fun o => ((Below.refl w7.heap.size w7).alloc (Nat.le_refl _) o).keep j1
  go_wp2_with fail
  refine calls_gen (fun W => Below w7.heap.size w7 W ∧ w7.heap.size < W.heap.size ∧ W.cell? ⟨w7.heap.size, 0, none⟩ = some (.int .i64 s1) ∧ W.cell? ⟨w7.heap.size, 1, none⟩ = some (.slice a_7 xs1.length c_7)) ⟨(Below.refl _ _).alloc (Nat.le_refl _) _, by simp, by go_simp, by go_simp⟩ ?_
  rintro W7 ⟨bb, hzz7, m0, m1⟩
  replace k0 := bb.keep k0
  replace k1 := bb.keep k1
  replace k2 := bb.keep k2
  replace k3 := bb.keep k3
  replace j0 := bb.keep j0
  replace j1 := bb.keep j1
  replace o6 := o6.below bb
  replace o7 := o7.below bb
  replace hB := hB.next bb
  have hz7 := bb.size
  clear bb
  refine (toI _ xs2 _ (h2.below hB)).mono ?_
  rintro e wl ⟨a_l, c_l, rfl, ol, bl⟩
  replace k0 := bl.keep k0
  replace k1 := bl.keep k1
  replace k2 := bl.keep k2
  replace k3 := bl.keep k3
  replace j0 := bl.keep j0
  replace j1 := bl.keep j1
  replace m0 := bl.keep m0
  replace m1 := bl.keep m1
  replace o6 := o6.below bl
  replace o7 := o7.below bl
  replace hB := hB.next bl
  have hzl := bl.size
  clear bl
  go_wp2_with fail
  refine (implIso s0 _ _ _ xs0 s1 _ _ _ xs1 _ _ _ xs2 _ o6.rd rfl o7.rd rfl ol.rd rfl (owI_capI ol)).mono ?_
  rw [← Hy0.out, ← Hy1.out]
  rintro e w8 ⟨rfl, b8⟩
  replace k0 := b8.keep k0
  replace k1 := b8.keep k1
  replace k2 := b8.keep k2
  replace k3 := b8.keep k3
  replace j0 := b8.keep j0
  replace j1 := b8.keep j1
  replace m0 := b8.keep m0
  replace m1 := b8.keep m1
  replace o6 := o6.below b8
  replace o7 := o7.below b8
  replace ol := ol.below b8
  replace hB := hB.next b8
  have hz8 := b8.size
  clear b8
  go_wp2
  have hsB := hB.size
  go_region_held3 (fun W' => Below w8.heap.size w8 W' ∧ W'.cell? ⟨w.heap.size, 0, none⟩ = some (.int .i64 s0) ∧ W'.cell? ⟨w.heap.size, 1, none⟩ = some (.slice a0 n0 c0) ∧ W'.cell? ⟨w6.heap.size, 0, none⟩ = some (.int .i64 s0) ∧ W'.cell? ⟨w6.heap.size, 1, none⟩ = some (.slice a_6 xs0.length c_6))
    (first | (exact ⟨(Below.refl _ _).drew, k0, k1, j0, j1⟩) | (go_split_ands; exact ⟨Below.next (by assumption) bx, bx.keep (by assumption), bx.keep (by assumption), bx.keep (by assumption), bx.keep (by assumption)⟩) | (go_split_ands; exact ⟨Below.next (by assumption) by1, by1.keep (by assumption), by1.keep (by assumption), by1.keep (by assumption), by1.keep (by assumption)⟩))
    (first | (go_at_call 19; go_split_ands; refine (toG' s0 a0 n0 c0 xs0 w8 _ (by assumption) (h0.below hB) hsB).mono ?_; rintro e wx ⟨ax, cx, rfl, ox, bx⟩) | (go_at_call 22; go_split_ands; refine (eqG1 s0 _ _ _ _ _ _ xs0 w8 _ (by assumption) o6.rd ox.rd).mono ?_; rintro e wz ⟨rfl, by1⟩))
  go_split_ands
  have bS : Below w8.heap.size w8 wz := by assumption
  clear ox bx by1
  replace k0 := bS.keep k0
  replace k1 := bS.keep k1
  replace k2 := bS.keep k2
  replace k3 := bS.keep k3
  replace j0 := bS.keep j0
  replace j1 := bS.keep j1
  replace m0 := bS.keep m0
  replace m1 := bS.keep m1
  replace o6 := o6.below bS
  replace o7 := o7.below bS
  replace ol := ol.below bS
  replace hB := hB.next bS
  have hz9 := bS.size
  clear bS
  go_wp2
  have hsB := hB.size
  go_region_held3 (fun W' => Below wz.heap.size wz W' ∧ W'.cell? ⟨w.heap.size + 1, 0, none⟩ = some (.int .i64 s1) ∧ W'.cell? ⟨w.heap.size + 1, 1, none⟩ = some (.slice a1 n1 c1) ∧ W'.cell? ⟨w7.heap.size, 0, none⟩ = some (.int .i64 s1) ∧ W'.cell? ⟨w7.heap.size, 1, none⟩ = some (.slice a_7 xs1.length c_7))
    (first | (exact ⟨(Below.refl _ _).drew, k2, k3, m0, m1⟩) | (go_split_ands; exact ⟨Below.next (by assumption) bx, bx.keep (by assumption), bx.keep (by assumption), bx.keep (by assumption), bx.keep (by assumption)⟩) | (go_split_ands; exact ⟨Below.next (by assumption) by1, by1.keep (by assumption), by1.keep (by assumption), by1.keep (by assumption), by1.keep (by assumption)⟩))
    (first | (go_at_call 19; go_split_ands; refine (toG' s1 a1 n1 c1 xs1 wz _ (by assumption) (h1.below hB) hsB).mono ?_; rintro e wx ⟨ax, cx, rfl, ox, bx⟩) | (go_at_call 22; go_split_ands; refine (eqG1 s1 _ _ _ _ _ _ xs1 wz _ (by assumption) o7.rd ox.rd).mono ?_; rintro e wy ⟨rfl, by1⟩))
  go_split_ands
  have bS : Below wz.heap.size wz wy := by assumption
  clear ox bx by1
  replace k0 := bS.keep k0
  replace k1 := bS.keep k1
  replace k2 := bS.keep k2
  replace k3 := bS.keep k3
  replace j0 := bS.keep j0
  replace j1 := bS.keep j1
  replace m0 := bS.keep m0
  replace m1 := bS.keep m1
  replace o6 := o6.below bS
  replace o7 := o7.below bS
  replace ol := ol.below bS
  replace hB := hB.next bS
  have hz10 := bS.size
  clear bS
  go_wp2_with fail
  refine (toI _ xs2 _ (h2.below hB)).mono ?_
  rintro e wq ⟨a_q, c_q, rfl, oq, bq⟩
  replace ol := ol.below bq
  replace hB := hB.next bq
  clear bq
  go_wp2_with fail
  refine (eqI1 _ _ _ _ ol.rd oq.rd).mono ?_
  rintro e wt ⟨rfl, q10⟩
  replace hB := hB.qt q10
  clear q10
  go_wp2
  go_ret
  exact ⟨rfl, hB⟩

set_option maxRecDepth 100000 in
theorem FnExactIsIsomorphism_lifted (os : Os) (started : os.Started) (H : Type) (enc : TypeId × Value → H) :
    ReturnsInHanded {} Try.checked os 5 .any (Rows.fnExactIsIsomorphismSpec.pre6 enc Try.prog Try.f5 Rows.fnExactIsIsomorphismRow.domain false) (Rows.fnExactIsIsomorphismSpec.post enc Try.prog Try.f5 false true false false) := by
  refine returnsInHanded_of_change_sized (C := Try.checked) own started (by kernel_rfl) Try.func5
    (ChangeSpec.witness6 (enc := enc) (C := Try.checked) false ⟨#[], #[.agg #[.int .i64 0, .slice none 0 0], .agg #[.int .i64 0, .slice none 0 0], .slice none 0 0], []⟩ 8 (by kernel_rfl) (by kernel_rfl) (by kernel_rfl) (by kernel_rfl)) ?_
  intro W base args ds gs before hval0 hW _ hsz0 _
  have hsz : (DataW.weightsEach Try.prog (Try.f5.params.toList ++ Rows.fnExactIsIsomorphismSpec.plain.varTypes Try.prog) (ds ++ gs)).all (· ≤ reachBytes) = true := hsz0
  clear hsz0
  have hval : ∀ (j : Nat) t v, Try.f5.params[j]? = some t → args[j]? = some v → Value.okWide Try.prog W .any base t v := hval0
  have hW' := hW
  obtain ⟨p, q, hA0, hV, rfl, _, _⟩ := hW
  have hA : DataW.TrodAll enc Try.prog W 0 (fun _ => true) true Try.f5.params.toList args.toList ds p := hA0
  rw [Try.params5] at hA hval hsz
  clear hA0 hval0
  obtain ⟨v0, vs0, d0, ds0, p0, q0, hargs0, rfl, rfl, h0, r0⟩ := trodAll_cons hA
  obtain ⟨v1, vs1, d1, ds1, p1, q1, hargs1, rfl, rfl, h1, r1⟩ := trodAll_cons r0
  obtain ⟨v2, vs2, d2, ds2, p2, q2, hargs2, rfl, rfl, h2, r2⟩ := trodAll_cons r1
  obtain ⟨rfl, rfl, rfl⟩ := trodAll_nil r2
  obtain rfl : args = #[v0, v1, v2] := by cases args; simp_all
  obtain ⟨rfl, rfl⟩ := trodVars_none hV
  simp only [List.append_nil] at hW'
  have hltW := hW'.lt
  have hlt0 : ∀ x ∈ p0, x.block < W.heap.size := fun x hx => by have := hW'.lt x (by simp [hx]); simpa using this
  have hwt0 : ∀ n ∈ d0.weights Try.prog 24, n ≤ reachBytes := fun n hn => by simpa using List.all_eq_true.1 hsz n (DataW.weights_mem_each (j := 0) rfl rfl n hn)
  obtain ⟨s0, a0, n0, c0, xs0, hv0, l0, rd0, is0⟩ := openG (hval 0 24 v0 rfl rfl) h0 hwt0
  have keepA0 : ∀ (W' : World), Below W.heap.size W W' → DataW.Trod enc Try.prog W' 0 (fun b => decide (b < W.heap.size)) true 24 v0 d0 p0 := fun W' hn => Below.trod laidOut (by kernel_rfl) (of_decide_eq_true (by kernel_rfl)) h0 hn hlt0
  have hlt1 : ∀ x ∈ p1, x.block < W.heap.size := fun x hx => by have := hW'.lt x (by simp [hx]); simpa using this
  have hwt1 : ∀ n ∈ d1.weights Try.prog 24, n ≤ reachBytes := fun n hn => by simpa using List.all_eq_true.1 hsz n (DataW.weights_mem_each (j := 1) rfl rfl n hn)
  obtain ⟨s1, a1, n1, c1, xs1, hv1, l1, rd1, is1⟩ := openG (hval 1 24 v1 rfl rfl) h1 hwt1
  have keepA1 : ∀ (W' : World), Below W.heap.size W W' → DataW.Trod enc Try.prog W' 0 (fun b => decide (b < W.heap.size)) true 24 v1 d1 p1 := fun W' hn => Below.trod laidOut (by kernel_rfl) (of_decide_eq_true (by kernel_rfl)) h1 hn hlt1
  have hlt2 : ∀ x ∈ p2, x.block < W.heap.size := fun x hx => by have := hW'.lt x (by simp [hx]); simpa using this
  obtain ⟨a2, n2, c2, xs2, hv2, l2, rd2⟩ := openI (hval 2 26 v2 rfl rfl) h2 hlt2 (fun es sp hd => by subst hd; exact sized_slice hsz (j := 2) (t := 26) (e := 2) rfl rfl Try.underlying26)
  have keepA2 : ∀ (W' : World), Below W.heap.size W W' → DataW.Trod enc Try.prog W' 0 (fun b => decide (b < W.heap.size)) true 26 v2 d2 p2 := fun W' hn => Below.trod laidOut (by kernel_rfl) (of_decide_eq_true (by kernel_rfl)) h2 hn hlt2
  subst hv0
  subst hv1
  subst hv2
  refine (FnExactIsIsomorphism_walk s0 a0 n0 c0 xs0 s1 a1 n1 c1 xs1 a2 n2 c2 xs2 W rd0 l0 is0 rd1 l1 is1 rd2 l2).mono fun e W' ⟨he, hb⟩ => ?_
  subst he
  exact ⟨_, rfl, _, _, _, [], _, [], hW', trodAll_mk1 (shut_bool Try.underlying4 _), (trodAll_cons_mk (keepA0 _ hb) (trodAll_cons_mk (keepA1 _ hb) (trodAll_cons_mk (keepA2 _ hb) trodAll_mk0))), rfl, hb.frame _, fun h => by cases h⟩

theorem FnExactIsIsomorphism_k1 : (Rows.fnExactIsIsomorphismRow.inPlace == Try.prog.inPlace 5) = true := by kernel_rfl
theorem FnExactIsIsomorphism_k2 : (Rows.fnExactIsIsomorphismRow.unfollowed == Try.prog.unfollowed 5) = true := by kernel_rfl
theorem FnExactIsIsomorphism_k3 : (Rows.fnExactIsIsomorphismRow.recurses == Try.prog.recurses 5) = true := by kernel_rfl
theorem FnExactIsIsomorphism_k4 : (Rows.fnExactIsIsomorphismRow.named == Try.prog.varsNamed 5) = true := by kernel_rfl
set_option maxRecDepth 100000 in
theorem FnExactIsIsomorphism_closed : joinedFacts Try.prog 5 Try.f5 Rows.fnExactIsIsomorphismSpec Rows.fnExactIsIsomorphismRow = true := by
  unfold joinedFacts
  rw [FnExactIsIsomorphism_k1, FnExactIsIsomorphism_k2, FnExactIsIsomorphism_k3, FnExactIsIsomorphism_k4, head_enter, head_lifts, head_make]
  show (_ : Bool) = true
  kernel_rfl


theorem FnExactIsIsomorphism_holds : Rows.FnExactIsIsomorphismSaid :=
  OpenClaim.holds_of_wide 5 Try.f5 rfl rfl rfl rfl rfl rfl rfl ⟨rfl, rfl, rfl, rfl, rfl⟩ rfl rfl rfl rfl rfl (by kernel_rfl) Try.func5 FnExactIsIsomorphism_closed
    (of_decide_eq_true (by kernel_rfl)) (by unfold Func.isWrapper; first | (rw [if_pos (by decide +kernel)]; kernel_rfl) | (rw [if_neg (by decide +kernel)]; exact ⟨rfl, rfl⟩))
    (fun os started H enc _ => FnExactIsIsomorphism_lifted os started H enc)


end Go.Proofs.Ytolipjemabmlkaa
