/- FnExactFireVertex: for all arguments the program's function answers as the model's, leaves its arguments alone, and its answers own their memory. No condition. -/
import Derived.Test.YtnblhkhdilkbeaaFvT
import Derived.Test.YtnblhkhdilkbeaaCoreA
import Derived.Test.YtnblhkhdilkbeaaHead
import Derived.Deep.RegionHeld3
set_option linter.unusedSimpArgs false
set_option linter.unusedVariables false
set_option maxRecDepth 100000
namespace Go.Proofs.Ytnblhkhdilkbeaa
open Go.RowKit Go.ChangeShapes Go.WideShapes Go.ChangeAt

set_option maxHeartbeats 4000000 in
theorem FnExactFireVertex_walk (s0 : Int) (a0 : Option Addr) (n0 c0 : Nat) (xs0 : List (List Int)) (a1 : Option Addr) (n1 c1 : Nat) (xs1 : List Int) (i2 : Int) (w : World) (h0 : RdR 0 w.heap.size w (.slice a0 n0 c0) xs0) (l0 : xs0.length = n0) (is0 : I64 s0) (h1 : RdI 0 w.heap.size w (.slice a1 n1 c1) xs1) (l1 : xs1.length = n1) (is2 : I64 i2) :
    Calls Try.prog 4 #[.agg #[.int .i64 s0, .slice a0 n0 c0], .slice a1 n1 c1, .int .i64 i2] w fun e w' => e = .returned (.bool true) ∧ Below w.heap.size w w' := by
  have L0 := Lib.hid l0
  clear l0
  have S0 := Lib.hid is0
  clear is0
  have L1 := Lib.hid l1
  clear l1
  have hn1 : n1 ≤ 17592186044416 := by rw [← L1.out]; exact h1.1
  have hB : Below w.heap.size w w := Below.refl _ _
  obtain ⟨y0, hy0⟩ : ∃ y, y = ((fvOf s0 xs0 xs1 i2).1) := ⟨_, rfl⟩
  have Hy0 := Lib.hid hy0
  clear hy0
  obtain ⟨y1, hy1⟩ : ∃ y, y = ((fvOf s0 xs0 xs1 i2).2) := ⟨_, rfl⟩
  have Hy1 := Lib.hid hy1
  clear hy1
  by_cases hm1 : n1 ≤ 1048576
  case neg =>
    go_enter Try.func4, Try.ntmps4
    go_wp2
    go_ret
    exact ⟨rfl, (Below.refl _ _).alloc (Nat.le_refl _) _⟩
  have hx1 : xs1.length ≤ 1048576 := by rw [L1.out]; exact hm1
  go_enter Try.func4, Try.ntmps4
  go_wp2_with fail
  refine calls_gen (fun W => Below w.heap.size w W ∧ w.heap.size < W.heap.size ∧ W.cell? ⟨w.heap.size, 0, none⟩ = some (.int .i64 s0) ∧ W.cell? ⟨w.heap.size, 1, none⟩ = some (.slice a0 n0 c0)) ⟨(Below.refl _ _).alloc (Nat.le_refl _) _, by simp, by go_simp, by go_simp⟩ ?_
  rintro W0 ⟨hB0, hz0, k0, k1⟩
  replace hB := hB.next hB0
  clear hB0
  refine (szG s0 a0 n0 c0 xs0 _ (by omega) (by omega) _ (h0.below hB) L0.out).mono ?_
  rintro e w1 ⟨⟨r1, hr1, rfl⟩, b1⟩
  replace k0 := b1.keep k0
  replace k1 := b1.keep k1
  replace hB := hB.next b1
  have hz1 := b1.size
  clear b1
  rcases hr1 with rfl | ⟨hr1, hq1⟩
  · go_wp2
    go_ret
    exact ⟨rfl, hB⟩
  have hl0 : lens xs0 ≤ 1048576 := by omega
  have HR1 := Lib.hid hq1
  clear hq1
  have hp1 : ¬ r1 < 0 := by omega
  have hpp1 : r1 ≤ 1048576 := by have := HR1.out; omega
  go_wp2_with fail
  refine (toG s0 a0 n0 c0 xs0 _ (h0.below hB) (by have := hB.size; omega)).mono ?_
  rintro e w2 ⟨a_2, c_2, rfl, o2, b2⟩
  replace k0 := b2.keep k0
  replace k1 := b2.keep k1
  replace hB := hB.next b2
  have hz2 := b2.size
  clear b2
  go_wp2_with fail
  refine (toI _ xs1 _ (h1.below hB)).mono ?_
  rintro e w3 ⟨a_3, c_3, rfl, o3, b3⟩
  replace k0 := b3.keep k0
  replace k1 := b3.keep k1
  replace o2 := o2.below b3
  replace hB := hB.next b3
  have hz3 := b3.size
  clear b3
  go_wp2_with fail
  refine (specFv s0 _ _ _ xs0 _ _ _ xs1 i2 _ o2.rd rfl o3.rd rfl).mono ?_
  rw [← Hy0.out, ← Hy1.out]
  rintro e w4 ⟨aw0, cw0, rfl, w0, b4⟩
  replace k0 := b4.keep k0
  replace k1 := b4.keep k1
  replace o2 := o2.below b4
  replace o3 := o3.below b4
  replace hB := hB.next b4
  have hz4 := b4.size
  clear b4
  clear o2
  clear o3
  go_wp2_with fail
  refine (toG s0 a0 n0 c0 xs0 _ (h0.below hB) (by have := hB.size; omega)).mono ?_
  rintro e w5 ⟨a_5, c_5, rfl, o5, b5⟩
  replace k0 := b5.keep k0
  replace k1 := b5.keep k1
  replace w0 := w0.below b5
  replace hB := hB.next b5
  have hz5 := b5.size
  clear b5
  go_wp2_with fail
  refine calls_gen (fun W => Below w5.heap.size w5 W ∧ w5.heap.size < W.heap.size ∧ W.cell? ⟨w5.heap.size, 0, none⟩ = some (.int .i64 s0) ∧ W.cell? ⟨w5.heap.size, 1, none⟩ = some (.slice a_5 xs0.length c_5)) ⟨(Below.refl _ _).alloc (Nat.le_refl _) _, by simp, by go_simp, by go_simp⟩ ?_
  rintro W5 ⟨bb, hzz5, j0, j1⟩
  replace k0 := bb.keep k0
  replace k1 := bb.keep k1
  replace w0 := w0.below bb
  replace o5 := o5.below bb
  replace hB := hB.next bb
  have hz5 := bb.size
  clear bb
  refine (toI _ xs1 _ (h1.below hB)).mono ?_
  rintro e w6 ⟨a_6, c_6, rfl, o6, b6⟩
  replace k0 := b6.keep k0
  replace k1 := b6.keep k1
  replace j0 := b6.keep j0
  replace j1 := b6.keep j1
  replace w0 := w0.below b6
  replace o5 := o5.below b6
  replace hB := hB.next b6
  have hz6 := b6.size
  clear b6
  go_wp2_with fail
  refine (implFv s0 _ _ _ xs0 _ _ _ xs1 i2 _ o5.rd rfl o6.rd rfl).mono ?_
  rw [← Hy0.out, ← Hy1.out]
  rintro e w7 ⟨ag0, cg0, rfl, g0, b7⟩
  replace k0 := b7.keep k0
  replace k1 := b7.keep k1
  replace j0 := b7.keep j0
  replace j1 := b7.keep j1
  replace w0 := w0.below b7
  replace o5 := o5.below b7
  replace o6 := o6.below b7
  replace hB := hB.next b7
  have hz7 := b7.size
  clear b7
  go_wp2_with fail
  refine (eqI1 _ _ _ _ g0.rd w0.rd).mono ?_
  rintro e w8 ⟨rfl, q8⟩
  replace k0 := q8.cell k0
  replace k1 := q8.cell k1
  replace j0 := q8.cell j0
  replace j1 := q8.cell j1
  replace w0 := w0.qt q8
  replace o5 := o5.qt q8
  replace o6 := o6.qt q8
  replace g0 := g0.qt q8
  replace hB := hB.qt q8
  have hz8 := q8.below.size
  clear q8
  go_wp2
  have hsB := hB.size
  go_region_held3 (fun W' => Below w8.heap.size w8 W' ∧ W'.cell? ⟨w.heap.size, 0, none⟩ = some (.int .i64 s0) ∧ W'.cell? ⟨w.heap.size, 1, none⟩ = some (.slice a0 n0 c0) ∧ W'.cell? ⟨w5.heap.size, 0, none⟩ = some (.int .i64 s0) ∧ W'.cell? ⟨w5.heap.size, 1, none⟩ = some (.slice a_5 xs0.length c_5))
    (first | (exact ⟨(Below.refl _ _).drew, k0, k1, j0, j1⟩) | (go_split_ands; exact ⟨Below.next (by assumption) bx, bx.keep (by assumption), bx.keep (by assumption), bx.keep (by assumption), bx.keep (by assumption)⟩) | (go_split_ands; exact ⟨Below.next (by assumption) by1, by1.keep (by assumption), by1.keep (by assumption), by1.keep (by assumption), by1.keep (by assumption)⟩))
    (first | (go_at_call 20; go_split_ands; refine (toG' s0 a0 n0 c0 xs0 w8 _ (by assumption) (h0.below hB) hsB).mono ?_; rintro e wx ⟨ax, cx, rfl, ox, bx⟩) | (go_at_call 24; go_split_ands; refine (eqG1 s0 _ _ _ _ _ _ xs0 w8 _ (by assumption) o5.rd ox.rd).mono ?_; rintro e wy ⟨rfl, by1⟩))
  go_split_ands
  have bS : Below w8.heap.size w8 wy := by assumption
  clear ox bx by1
  replace k0 := bS.keep k0
  replace k1 := bS.keep k1
  replace j0 := bS.keep j0
  replace j1 := bS.keep j1
  replace w0 := w0.below bS
  replace o5 := o5.below bS
  replace o6 := o6.below bS
  replace g0 := g0.below bS
  replace hB := hB.next bS
  have hz9 := bS.size
  clear bS
  go_wp2_with fail
  refine (toI _ xs1 _ (h1.below hB)).mono ?_
  rintro e w10 ⟨a_10, c_10, rfl, o10, b10⟩
  replace k0 := b10.keep k0
  replace k1 := b10.keep k1
  replace j0 := b10.keep j0
  replace j1 := b10.keep j1
  replace w0 := w0.below b10
  replace o5 := o5.below b10
  replace o6 := o6.below b10
  replace g0 := g0.below b10
  replace hB := hB.next b10
  have hz10 := b10.size
  clear b10
  go_wp2_with fail
  refine (eqI1 _ _ _ _ o6.rd o10.rd).mono ?_
  rintro e w11 ⟨rfl, q11⟩
  replace k0 := q11.cell k0
  replace k1 := q11.cell k1
  replace j0 := q11.cell j0
  replace j1 := q11.cell j1
  replace w0 := w0.qt q11
  replace o5 := o5.qt q11
  replace o6 := o6.qt q11
  replace g0 := g0.qt q11
  replace o10 := o10.qt q11
  replace hB := hB.qt q11
  have hz11 := q11.below.size
  clear q11
  clear o10
  go_wp2_with fail
  refine (markG s0 _ _ _ xs0 _ _ o5 (by omega) (by omega) (by omega)).mono ?_
  clear o5
  rintro e w12 ⟨rfl, -, ch12⟩
  replace k0 := ch12.cell k0 (by simp <;> omega)
  replace k1 := ch12.cell k1 (by simp <;> omega)
  replace j0 := ch12.cell j0 (by simp <;> omega)
  replace j1 := ch12.cell j1 (by simp <;> omega)
  replace w0 := w0.chg ch12 (by omega)
  replace o6 := o6.chg ch12 (by omega)
  replace g0 := g0.chg ch12 (by omega)
  replace hB := hB.chgn ch12 (by omega) hB.size
  have hz12 := ch12.size
  clear ch12
  go_wp2_with fail
  refine (markI _ xs1 _ _ o6 (by omega) (by have := o6.1; omega)).mono ?_
  clear o6
  rintro e w13 ⟨rfl, -, ch13⟩
  replace k0 := ch13.cell k0 (by simp <;> omega)
  replace k1 := ch13.cell k1 (by simp <;> omega)
  replace j0 := ch13.cell j0 (by simp <;> omega)
  replace j1 := ch13.cell j1 (by simp <;> omega)
  replace w0 := w0.chg ch13 (by omega)
  replace g0 := g0.chg ch13 (by omega)
  replace hB := hB.chgn ch13 (by omega) hB.size
  have hz13 := ch13.size
  clear ch13
  go_wp2_with fail
  refine (eqI1 _ _ _ _ g0.rd w0.rd).mono ?_
  rintro e w14 ⟨rfl, q14⟩
  replace k0 := q14.cell k0
  replace k1 := q14.cell k1
  replace j0 := q14.cell j0
  replace j1 := q14.cell j1
  replace w0 := w0.qt q14
  replace g0 := g0.qt q14
  replace hB := hB.qt q14
  have hz14 := q14.below.size
  clear q14
  go_wp2_with fail
  refine (markI _ _ _ _ g0 (by omega) (by omega)).mono ?_
  clear g0
  rintro e w15 ⟨rfl, g0, ch15⟩
  replace k0 := ch15.cell k0 (by simp <;> omega)
  replace k1 := ch15.cell k1 (by simp <;> omega)
  replace j0 := ch15.cell j0 (by simp <;> omega)
  replace j1 := ch15.cell j1 (by simp <;> omega)
  replace w0 := w0.chg ch15 (by omega)
  replace hB := hB.chgn ch15 (by omega) hB.size
  have hz15 := ch15.size
  clear ch15
  go_wp2_with fail
  refine (heldI _ _ _ _ g0.rd (by omega) (by omega)).mono ?_
  rintro e w16 ⟨rfl, q16⟩
  replace k0 := q16.cell k0
  replace k1 := q16.cell k1
  replace j0 := q16.cell j0
  replace j1 := q16.cell j1
  replace w0 := w0.qt q16
  replace g0 := g0.qt q16
  replace hB := hB.qt q16
  have hz16 := q16.below.size
  clear q16
  have hnn0 : ¬ ((1 : Int) + ((y0).length : Int) < 0) := by omega
  go_wp2_with fail
  refine (toG s0 a0 n0 c0 xs0 _ (h0.below hB) (by have := hB.size; omega)).mono ?_
  rintro e w17 ⟨a_17, c_17, rfl, o17, b17⟩
  replace k0 := b17.keep k0
  replace k1 := b17.keep k1
  replace j0 := b17.keep j0
  replace j1 := b17.keep j1
  replace w0 := w0.below b17
  replace g0 := g0.below b17
  replace hB := hB.next b17
  have hz17 := b17.size
  clear b17
  go_wp2_with fail
  refine (toI _ xs1 _ (h1.below hB)).mono ?_
  rintro e w18 ⟨a_18, c_18, rfl, o18, b18⟩
  replace k0 := b18.keep k0
  replace k1 := b18.keep k1
  replace j0 := b18.keep j0
  replace j1 := b18.keep j1
  replace w0 := w0.below b18
  replace g0 := g0.below b18
  replace o17 := o17.below b18
  replace hB := hB.next b18
  have hz18 := b18.size
  clear b18
  go_wp2_with fail
  refine (implFv s0 _ _ _ xs0 _ _ _ xs1 i2 _ o17.rd rfl o18.rd rfl).mono ?_
  rw [← Hy0.out, ← Hy1.out]
  rintro e w19 ⟨ah0, ch0, rfl, h0, b19⟩
  replace k0 := b19.keep k0
  replace k1 := b19.keep k1
  replace j0 := b19.keep j0
  replace j1 := b19.keep j1
  replace w0 := w0.below b19
  replace g0 := g0.below b19
  replace o17 := o17.below b19
  replace o18 := o18.below b19
  replace hB := hB.next b19
  have hz19 := b19.size
  clear b19
  clear o17
  clear o18
  go_wp2_with fail
  refine (eqI1 _ _ _ _ h0.rd w0.rd).mono ?_
  rintro e w20 ⟨rfl, q20⟩
  replace k0 := q20.cell k0
  replace k1 := q20.cell k1
  replace j0 := q20.cell j0
  replace j1 := q20.cell j1
  replace w0 := w0.qt q20
  replace g0 := g0.qt q20
  replace h0 := h0.qt q20
  replace hB := hB.qt q20
  have hz20 := q20.below.size
  clear q20
  go_wp2_with fail
  refine (heldI _ _ _ _ g0.rd (by omega) (by omega)).mono ?_
  rintro e w21 ⟨rfl, q21⟩
  replace k0 := q21.cell k0
  replace k1 := q21.cell k1
  replace j0 := q21.cell j0
  replace j1 := q21.cell j1
  replace w0 := w0.qt q21
  replace g0 := g0.qt q21
  replace h0 := h0.qt q21
  replace hB := hB.qt q21
  have hz21 := q21.below.size
  clear q21
  go_wp2
  go_ret
  exact ⟨rfl, hB⟩

set_option maxRecDepth 100000 in
theorem FnExactFireVertex_lifted (os : Os) (started : os.Started) (H : Type) (enc : TypeId × Value → H) :
    ReturnsInHanded {} Try.checked os 4 .any (Rows.fnExactFireVertexSpec.pre6 enc Try.prog Try.f4 Rows.fnExactFireVertexRow.domain false) (Rows.fnExactFireVertexSpec.post enc Try.prog Try.f4 false true false false) := by
  refine returnsInHanded_of_change_sized (C := Try.checked) own started (by kernel_rfl) Try.func4
    (ChangeSpec.witness6 (enc := enc) (C := Try.checked) false ⟨#[], #[.agg #[.int .i64 0, .slice none 0 0], .slice none 0 0, .int .i64 0], []⟩ 8 (by kernel_rfl) (by kernel_rfl) (by kernel_rfl) (by kernel_rfl)) ?_
  intro W base args ds gs before hval0 hW _ hsz0 _
  have hsz : (DataW.weightsEach Try.prog (Try.f4.params.toList ++ Rows.fnExactFireVertexSpec.plain.varTypes Try.prog) (ds ++ gs)).all (· ≤ reachBytes) = true := hsz0
  clear hsz0
  have hval : ∀ (j : Nat) t v, Try.f4.params[j]? = some t → args[j]? = some v → Value.okWide Try.prog W .any base t v := hval0
  have hW' := hW
  obtain ⟨p, q, hA0, hV, rfl, _, _⟩ := hW
  have hA : DataW.TrodAll enc Try.prog W 0 (fun _ => true) true Try.f4.params.toList args.toList ds p := hA0
  rw [Try.params4] at hA hval hsz
  clear hA0 hval0
  obtain ⟨v0, vs0, d0, ds0, p0, q0, hargs0, rfl, rfl, h0, r0⟩ := trodAll_cons hA
  obtain ⟨v1, vs1, d1, ds1, p1, q1, hargs1, rfl, rfl, h1, r1⟩ := trodAll_cons r0
  obtain ⟨v2, vs2, d2, ds2, p2, q2, hargs2, rfl, rfl, h2, r2⟩ := trodAll_cons r1
  obtain ⟨rfl, rfl, rfl⟩ := trodAll_nil r2
  obtain rfl : args = #[v0, v1, v2] := by cases args; simp_all
  obtain ⟨rfl, rfl⟩ := trodVars_none hV
  simp only [List.append_nil] at hW'
  have hltW := hW'.lt
  have hlt0 : ∀ x ∈ p0, x.block < W.heap.size := fun x hx => by have := hW'.lt x (by simp [hx]); simpa using this
  have hwt0 : ∀ n ∈ d0.weights Try.prog 24, n ≤ reachBytes := fun n hn => by simpa using List.all_eq_true.1 hsz n (DataW.weights_mem_each (j := 0) rfl rfl n hn)
  obtain ⟨s0, a0, n0, c0, xs0, hv0, l0, rd0, is0⟩ := openG (hval 0 24 v0 rfl rfl) h0 hwt0
  have keepA0 : ∀ (W' : World), Below W.heap.size W W' → DataW.Trod enc Try.prog W' 0 (fun b => decide (b < W.heap.size)) true 24 v0 d0 p0 := fun W' hn => Below.trod laidOut (by kernel_rfl) (of_decide_eq_true (by kernel_rfl)) h0 hn hlt0
  have hlt1 : ∀ x ∈ p1, x.block < W.heap.size := fun x hx => by have := hW'.lt x (by simp [hx]); simpa using this
  obtain ⟨a1, n1, c1, xs1, hv1, l1, rd1⟩ := openI (hval 1 25 v1 rfl rfl) h1 hlt1 (fun es sp hd => by subst hd; exact sized_slice hsz (j := 1) (t := 25) (e := 2) rfl rfl Try.underlying25)
  have keepA1 : ∀ (W' : World), Below W.heap.size W W' → DataW.Trod enc Try.prog W' 0 (fun b => decide (b < W.heap.size)) true 25 v1 d1 p1 := fun W' hn => Below.trod laidOut (by kernel_rfl) (of_decide_eq_true (by kernel_rfl)) h1 hn hlt1
  obtain ⟨i2, rfl, rfl, rfl, w2⟩ := open_int Try.underlying2 (hval 2 2 v2 rfl rfl) h2
  subst hv0
  subst hv1
  refine (FnExactFireVertex_walk s0 a0 n0 c0 xs0 a1 n1 c1 xs1 i2 W rd0 l0 is0 rd1 l1 (wf_I64 w2)).mono fun e W' ⟨he, hb⟩ => ?_
  subst he
  exact ⟨_, rfl, _, _, _, [], _, [], hW', trodAll_mk1 (shut_bool Try.underlying4 _), (trodAll_cons_mk (keepA0 _ hb) (trodAll_cons_mk (keepA1 _ hb) (trodAll_cons_mk (shut_int Try.underlying2 w2) trodAll_mk0))), rfl, hb.frame _, fun h => by cases h⟩

theorem FnExactFireVertex_k1 : (Rows.fnExactFireVertexRow.inPlace == Try.prog.inPlace 4) = true := by kernel_rfl
theorem FnExactFireVertex_k2 : (Rows.fnExactFireVertexRow.unfollowed == Try.prog.unfollowed 4) = true := by kernel_rfl
theorem FnExactFireVertex_k3 : (Rows.fnExactFireVertexRow.recurses == Try.prog.recurses 4) = true := by kernel_rfl
theorem FnExactFireVertex_k4 : (Rows.fnExactFireVertexRow.named == Try.prog.varsNamed 4) = true := by kernel_rfl
set_option maxRecDepth 100000 in
theorem FnExactFireVertex_closed : joinedFacts Try.prog 4 Try.f4 Rows.fnExactFireVertexSpec Rows.fnExactFireVertexRow = true := by
  unfold joinedFacts
  rw [FnExactFireVertex_k1, FnExactFireVertex_k2, FnExactFireVertex_k3, FnExactFireVertex_k4, head_enter, head_lifts, head_make]
  show (_ : Bool) = true
  kernel_rfl


theorem FnExactFireVertex_holds : Rows.FnExactFireVertexSaid :=
  OpenClaim.holds_of_wide 4 Try.f4 rfl rfl rfl rfl rfl rfl rfl ⟨rfl, rfl, rfl, rfl, rfl⟩ rfl rfl rfl rfl rfl (by kernel_rfl) Try.func4 FnExactFireVertex_closed
    (of_decide_eq_true (by kernel_rfl)) (by unfold Func.isWrapper; first | (rw [if_pos (by decide +kernel)]; kernel_rfl) | (rw [if_neg (by decide +kernel)]; exact ⟨rfl, rfl⟩))
    (fun os started H enc _ => FnExactFireVertex_lifted os started H enc)


end Go.Proofs.Ytnblhkhdilkbeaa
