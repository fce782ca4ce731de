/- FnExactDeterminantWhole: for all arguments the program's function answers as the model's, leaves its arguments alone, and its answers own their memory. No condition. -/
import Derived.Test.YtkhfhdmhhkfehaaDw
import Derived.Test.YtkhfhdmhhkfehaaCoreA
import Derived.Test.YtkhfhdmhhkfehaaHead
import Derived.Test.YtkhfhdmhhkfehaaOpenR
import Derived.Deep.RegionHeld3
set_option linter.unusedSimpArgs false
set_option linter.unusedVariables false
set_option maxRecDepth 100000
namespace Go.Proofs.Ytkhfhdmhhkfehaa
open Go.RowKit Go.ChangeShapes Go.WideShapes Go.ChangeAt

set_option maxHeartbeats 4000000 in
theorem FnExactDeterminantWhole_walk (a0 : Option Addr) (n0 c0 : Nat) (xs0 : List (List Int)) (w : World) (h0 : RdR 0 w.heap.size w (.slice a0 n0 c0) xs0) (l0 : xs0.length = n0) :
    Calls Try.prog 3 #[.slice a0 n0 c0] w fun e w' => e = .returned (.bool true) ∧ Below w.heap.size w w' := by
  have L0 := Lib.hid l0
  clear l0
  have hB : Below w.heap.size w w := Below.refl _ _
  obtain ⟨y0, hy0⟩ : ∃ y, y = ((dwOf xs0).1) := ⟨_, rfl⟩
  have Hy0 := Lib.hid hy0
  clear hy0
  obtain ⟨y1, hy1⟩ : ∃ y, y = ((dwOf xs0).2) := ⟨_, rfl⟩
  have Hy1 := Lib.hid hy1
  clear hy1
  go_enter Try.func3, Try.ntmps3
  go_wp2_with fail
  refine (szR _ xs0 _ (by omega) (by omega) _ (h0.below hB)).mono ?_
  rintro e w1 ⟨⟨r1, hr1, rfl⟩, b1⟩
  replace hB := hB.qt b1
  have hz1 := b1.below.size
  clear b1
  rcases hr1 with rfl | ⟨hr1, hq1⟩
  · go_wp2
    go_ret
    exact ⟨rfl, hB⟩
  have hl0 : lens xs0 ≤ 1048576 := by omega
  have HR1 := Lib.hid hq1
  clear hq1
  have hp1 : ¬ r1 < 0 := by omega
  have hpp1 : r1 ≤ 1048576 := by have := HR1.out; omega
  go_wp2_with fail
  refine (toR _ xs0 _ (h0.below hB) (by have := hB.size; omega)).mono ?_
  rintro e w2 ⟨a_2, c_2, rfl, o2, b2⟩
  replace hB := hB.next b2
  have hz2 := b2.size
  clear b2
  go_wp2_with fail
  refine (specDw _ _ _ xs0 _ o2.rd rfl).mono ?_
  rw [← Hy0.out, ← Hy1.out]
  rintro e w3 ⟨aw0, cw0, rfl, w0, b3⟩
  replace o2 := o2.below b3
  replace hB := hB.next b3
  have hz3 := b3.size
  clear b3
  clear o2
  go_wp2_with fail
  refine (toR _ xs0 _ (h0.below hB) (by have := hB.size; omega)).mono ?_
  rintro e w4 ⟨a_4, c_4, rfl, o4, b4⟩
  replace w0 := w0.below b4
  replace hB := hB.next b4
  have hz4 := b4.size
  clear b4
  go_wp2_with fail
  refine (implDw _ _ _ xs0 _ o4.rd rfl).mono ?_
  rw [← Hy0.out, ← Hy1.out]
  rintro e w5 ⟨ag0, cg0, rfl, g0, b5⟩
  replace w0 := w0.below b5
  replace o4 := o4.below b5
  replace hB := hB.next b5
  have hz5 := b5.size
  clear b5
  go_wp2_with fail
  refine (eqI1 _ _ _ _ g0.rd w0.rd).mono ?_
  rintro e w6 ⟨rfl, q6⟩
  replace w0 := w0.qt q6
  replace o4 := o4.qt q6
  replace g0 := g0.qt q6
  replace hB := hB.qt q6
  have hz6 := q6.below.size
  clear q6
  go_wp2_with fail
  refine (toR _ xs0 _ (h0.below hB) (by have := hB.size; omega)).mono ?_
  rintro e w7 ⟨a_7, c_7, rfl, o7, b7⟩
  replace w0 := w0.below b7
  replace o4 := o4.below b7
  replace g0 := g0.below b7
  replace hB := hB.next b7
  have hz7 := b7.size
  clear b7
  go_wp2_with fail
  refine (eqR1 _ _ _ _ o4.rd o7.rd).mono ?_
  rintro e w8 ⟨rfl, q8⟩
  replace w0 := w0.qt q8
  replace o4 := o4.qt q8
  replace g0 := g0.qt q8
  replace o7 := o7.qt q8
  replace hB := hB.qt q8
  have hz8 := q8.below.size
  clear q8
  clear o7
  go_wp2_with fail
  refine (markR _ xs0 _ _ o4 (by omega) (by omega)).mono ?_
  clear o4
  rintro e w9 ⟨rfl, -, ch9⟩
  replace w0 := w0.chg ch9 (by omega)
  replace g0 := g0.chg ch9 (by omega)
  replace hB := hB.chgn ch9 (by omega) hB.size
  have hz9 := ch9.size
  clear ch9
  go_wp2_with fail
  refine (eqI1 _ _ _ _ g0.rd w0.rd).mono ?_
  rintro e w10 ⟨rfl, q10⟩
  replace w0 := w0.qt q10
  replace g0 := g0.qt q10
  replace hB := hB.qt q10
  have hz10 := q10.below.size
  clear q10
  go_wp2_with fail
  refine (markI _ _ _ _ g0 (by omega) (by omega)).mono ?_
  clear g0
  rintro e w11 ⟨rfl, g0, ch11⟩
  replace w0 := w0.chg ch11 (by omega)
  replace hB := hB.chgn ch11 (by omega) hB.size
  have hz11 := ch11.size
  clear ch11
  go_wp2_with fail
  refine (heldI _ _ _ _ g0.rd (by omega) (by omega)).mono ?_
  rintro e w12 ⟨rfl, q12⟩
  replace w0 := w0.qt q12
  replace g0 := g0.qt q12
  replace hB := hB.qt q12
  have hz12 := q12.below.size
  clear q12
  have hnn0 : ¬ ((1 : Int) + ((y0).length : Int) < 0) := by omega
  go_wp2_with fail
  refine (toR _ xs0 _ (h0.below hB) (by have := hB.size; omega)).mono ?_
  rintro e w13 ⟨a_13, c_13, rfl, o13, b13⟩
  replace w0 := w0.below b13
  replace g0 := g0.below b13
  replace hB := hB.next b13
  have hz13 := b13.size
  clear b13
  go_wp2_with fail
  refine (implDw _ _ _ xs0 _ o13.rd rfl).mono ?_
  rw [← Hy0.out, ← Hy1.out]
  rintro e w14 ⟨ah0, ch0, rfl, h0, b14⟩
  replace w0 := w0.below b14
  replace g0 := g0.below b14
  replace o13 := o13.below b14
  replace hB := hB.next b14
  have hz14 := b14.size
  clear b14
  clear o13
  go_wp2_with fail
  refine (eqI1 _ _ _ _ h0.rd w0.rd).mono ?_
  rintro e w15 ⟨rfl, q15⟩
  replace w0 := w0.qt q15
  replace g0 := g0.qt q15
  replace h0 := h0.qt q15
  replace hB := hB.qt q15
  have hz15 := q15.below.size
  clear q15
  go_wp2_with fail
  refine (heldI _ _ _ _ g0.rd (by omega) (by omega)).mono ?_
  rintro e w16 ⟨rfl, q16⟩
  replace w0 := w0.qt q16
  replace g0 := g0.qt q16
  replace h0 := h0.qt q16
  replace hB := hB.qt q16
  have hz16 := q16.below.size
  clear q16
  go_wp2
  go_ret
  exact ⟨rfl, hB⟩

set_option maxRecDepth 100000 in
theorem FnExactDeterminantWhole_lifted (os : Os) (started : os.Started) (H : Type) (enc : TypeId × Value → H) :
    ReturnsInHanded {} Try.checked os 3 .any (Rows.fnExactDeterminantWholeSpec.pre6 enc Try.prog Try.f3 Rows.fnExactDeterminantWholeRow.domain false) (Rows.fnExactDeterminantWholeSpec.post enc Try.prog Try.f3 false true false false) := by
  refine returnsInHanded_of_change_sized (C := Try.checked) own started (by kernel_rfl) Try.func3
    (ChangeSpec.witness6 (enc := enc) (C := Try.checked) false ⟨#[], #[.slice none 0 0], []⟩ 8 (by kernel_rfl) (by kernel_rfl) (by kernel_rfl) (by kernel_rfl)) ?_
  intro W base args ds gs before hval0 hW _ hsz0 _
  have hsz : (DataW.weightsEach Try.prog (Try.f3.params.toList ++ Rows.fnExactDeterminantWholeSpec.plain.varTypes Try.prog) (ds ++ gs)).all (· ≤ reachBytes) = true := hsz0
  clear hsz0
  have hval : ∀ (j : Nat) t v, Try.f3.params[j]? = some t → args[j]? = some v → Value.okWide Try.prog W .any base t v := hval0
  have hW' := hW
  obtain ⟨p, q, hA0, hV, rfl, _, _⟩ := hW
  have hA : DataW.TrodAll enc Try.prog W 0 (fun _ => true) true Try.f3.params.toList args.toList ds p := hA0
  rw [Try.params3] at hA hval hsz
  clear hA0 hval0
  obtain ⟨v0, vs0, d0, ds0, p0, q0, hargs0, rfl, rfl, h0, r0⟩ := trodAll_cons hA
  obtain ⟨rfl, rfl, rfl⟩ := trodAll_nil r0
  obtain rfl : args = #[v0] := by cases args; simp_all
  obtain ⟨rfl, rfl⟩ := trodVars_none hV
  simp only [List.append_nil] at hW'
  have hltW := hW'.lt
  have hlt0 : ∀ x ∈ p0, x.block < W.heap.size := fun x hx => by have := hW'.lt x (by simp [hx]); simpa using this
  have hwt0 : ∀ n ∈ d0.weights Try.prog 22, n ≤ reachBytes := fun n hn => by simpa using List.all_eq_true.1 hsz n (DataW.weights_mem_each (j := 0) rfl rfl n hn)
  obtain ⟨a0, n0, c0, xs0, hv0, l0, rd0⟩ := openR (hval 0 22 v0 rfl rfl) h0 hwt0
  have keepA0 : ∀ (W' : World), Below W.heap.size W W' → DataW.Trod enc Try.prog W' 0 (fun b => decide (b < W.heap.size)) true 22 v0 d0 p0 := fun W' hn => Below.trod laidOut (by kernel_rfl) (of_decide_eq_true (by kernel_rfl)) h0 hn hlt0
  subst hv0
  refine (FnExactDeterminantWhole_walk a0 n0 c0 xs0 W rd0 l0).mono fun e W' ⟨he, hb⟩ => ?_
  subst he
  exact ⟨_, rfl, _, _, _, [], _, [], hW', trodAll_mk1 (shut_bool Try.underlying4 _), (trodAll_cons_mk (keepA0 _ hb) trodAll_mk0), rfl, hb.frame _, fun h => by cases h⟩

theorem FnExactDeterminantWhole_k1 : (Rows.fnExactDeterminantWholeRow.inPlace == Try.prog.inPlace 3) = true := by kernel_rfl
theorem FnExactDeterminantWhole_k2 : (Rows.fnExactDeterminantWholeRow.unfollowed == Try.prog.unfollowed 3) = true := by kernel_rfl
theorem FnExactDeterminantWhole_k3 : (Rows.fnExactDeterminantWholeRow.recurses == Try.prog.recurses 3) = true := by kernel_rfl
theorem FnExactDeterminantWhole_k4 : (Rows.fnExactDeterminantWholeRow.named == Try.prog.varsNamed 3) = true := by kernel_rfl
set_option maxRecDepth 100000 in
theorem FnExactDeterminantWhole_closed : joinedFacts Try.prog 3 Try.f3 Rows.fnExactDeterminantWholeSpec Rows.fnExactDeterminantWholeRow = true := by
  unfold joinedFacts
  rw [FnExactDeterminantWhole_k1, FnExactDeterminantWhole_k2, FnExactDeterminantWhole_k3, FnExactDeterminantWhole_k4, head_enter, head_lifts, head_make]
  show (_ : Bool) = true
  kernel_rfl


theorem FnExactDeterminantWhole_holds : Rows.FnExactDeterminantWholeSaid :=
  OpenClaim.holds_of_wide 3 Try.f3 rfl rfl rfl rfl rfl rfl rfl ⟨rfl, rfl, rfl, rfl, rfl⟩ rfl rfl rfl rfl rfl (by kernel_rfl) Try.func3 FnExactDeterminantWhole_closed
    (of_decide_eq_true (by kernel_rfl)) (by unfold Func.isWrapper; first | (rw [if_pos (by decide +kernel)]; kernel_rfl) | (rw [if_neg (by decide +kernel)]; exact ⟨rfl, rfl⟩))
    (fun os started H enc _ => FnExactDeterminantWhole_lifted os started H enc)


end Go.Proofs.Ytkhfhdmhhkfehaa
