/- FnExactValueOfWhole: for all arguments the program's function answers as the model's, leaves its arguments alone, and its answers own their memory. No condition. -/
import Derived.Test.YtpnedjhgjellnaaImplValue
import Derived.Test.YtpnedjhgjellnaaRow
import Derived.Deep.RegionHeld3
set_option linter.unusedSimpArgs false
set_option linter.unusedVariables false
namespace Go.Proofs.Ytpnedjhgjellnaa
open Go.RowKit Go.ChangeShapes Go.WideShapes Go.ChangeAt

set_option maxHeartbeats 4000000 in
theorem FnExactValueOfWhole_walk (a0 : Option Addr) (n0 c0 : Nat) (xs0 : List Int) (i1 : Int) (w : World) (h0 : RdI 0 w.heap.size w (.slice a0 n0 c0) xs0) (l0 : xs0.length = n0) (is1 : I64 i1) :
    Calls Try.prog 8 #[.slice a0 n0 c0, .int .i64 i1] w fun e w' => e = .returned (.bool true) ∧ Below w.heap.size w w' := by
  have L0 := Lib.hid l0
  clear l0
  have hn0 : n0 ≤ 17592186044416 := by rw [← L0.out]; exact h0.1
  have hB : Below w.heap.size w w := Below.refl _ _
  by_cases hm0 : n0 ≤ 1048576
  case neg =>
    go_enter Try.func8, Try.ntmps8
    go_wp2
    go_ret
    exact ⟨rfl, Below.refl _ _⟩
  go_enter Try.func8, Try.ntmps8
  go_wp2_with fail
  refine (toI _ xs0 _ (h0.below hB)).mono ?_
  rintro e w1 ⟨a_1, c_1, rfl, o1, b1⟩
  replace hB := hB.next b1
  have hz1 := b1.size
  clear b1
  go_wp2_with fail
  refine (specValueL _ _ _ xs0 i1 _ o1.rd rfl).mono ?_
  rintro e w2 ⟨rfl, b2⟩
  replace o1 := o1.below b2
  replace hB := hB.next b2
  have hz2 := b2.size
  clear b2
  clear o1
  go_wp2_with fail
  refine (toI _ xs0 _ (h0.below hB)).mono ?_
  rintro e w3 ⟨a_3, c_3, rfl, o3, b3⟩
  replace hB := hB.next b3
  have hz3 := b3.size
  clear b3
  go_wp2_with fail
  refine (implValueL _ _ _ xs0 i1 _ o3.rd rfl).mono ?_
  rintro e w4 ⟨rfl, b4⟩
  replace o3 := o3.below b4
  replace hB := hB.next b4
  have hz4 := b4.size
  clear b4
  generalize hcd0 : ((valueOf xs0 i1).1) = cd0 at *
  have HCD0 := Lib.hid hcd0
  clear hcd0
  generalize hcd1 : ((valueOf xs0 i1).2) = cd1 at *
  have HCD1 := Lib.hid hcd1
  clear hcd1
  go_wp2_with fail
  refine (toI _ xs0 _ (h0.below hB)).mono ?_
  rintro e w5 ⟨a_5, c_5, rfl, o5, b5⟩
  replace o3 := o3.below b5
  replace hB := hB.next b5
  have hz5 := b5.size
  clear b5
  go_wp2_with fail
  refine (eqI1 _ _ _ _ o3.rd o5.rd).mono ?_
  rintro e w6 ⟨rfl, q6⟩
  replace o3 := o3.qt q6
  replace o5 := o5.qt q6
  replace hB := hB.qt q6
  have hz6 := q6.below.size
  clear q6
  clear o5
  go_wp2
  go_ret
  exact ⟨rfl, hB⟩

set_option maxRecDepth 100000 in
theorem FnExactValueOfWhole_lifted (os : Os) (started : os.Started) (H : Type) (enc : TypeId × Value → H) :
    ReturnsInHanded {} Try.checked os 8 .any (Rows.fnExactValueOfWholeSpec.pre6 enc Try.prog Try.f8 Rows.fnExactValueOfWholeRow.domain false) (Rows.fnExactValueOfWholeSpec.post enc Try.prog Try.f8 false true false false) := by
  refine returnsInHanded_of_change_sized (C := Try.checked) own started (by kernel_rfl) Try.func8
    (ChangeSpec.witness6 (enc := enc) (C := Try.checked) false ⟨#[], #[.slice none 0 0, .int .i64 0], []⟩ 8 (by kernel_rfl) (by kernel_rfl) (by kernel_rfl) (by kernel_rfl)) ?_
  intro W base args ds gs before hval0 hW _ hsz0 _
  have hsz : (DataW.weightsEach Try.prog (Try.f8.params.toList ++ Rows.fnExactValueOfWholeSpec.plain.varTypes Try.prog) (ds ++ gs)).all (· ≤ reachBytes) = true := hsz0
  clear hsz0
  have hval : ∀ (j : Nat) t v, Try.f8.params[j]? = some t → args[j]? = some v → Value.okWide Try.prog W .any base t v := hval0
  have hW' := hW
  obtain ⟨p, q, hA0, hV, rfl, _, _⟩ := hW
  have hA : DataW.TrodAll enc Try.prog W 0 (fun _ => true) true Try.f8.params.toList args.toList ds p := hA0
  rw [Try.params8] at hA hval hsz
  clear hA0 hval0
  obtain ⟨v0, vs0, d0, ds0, p0, q0, hargs0, rfl, rfl, h0, r0⟩ := trodAll_cons hA
  obtain ⟨v1, vs1, d1, ds1, p1, q1, hargs1, rfl, rfl, h1, r1⟩ := trodAll_cons r0
  obtain ⟨rfl, rfl, rfl⟩ := trodAll_nil r1
  obtain rfl : args = #[v0, v1] := by cases args; simp_all
  obtain ⟨rfl, rfl⟩ := trodVars_none hV
  simp only [List.append_nil] at hW'
  have hltW := hW'.lt
  have hlt0 : ∀ x ∈ p0, x.block < W.heap.size := fun x hx => by have := hW'.lt x (by simp [hx]); simpa using this
  obtain ⟨a0, n0, c0, xs0, hv0, l0, rd0⟩ := openI (hval 0 24 v0 rfl rfl) h0 hlt0 (fun es sp hd => by subst hd; exact sized_slice hsz (j := 0) (t := 24) (e := 2) rfl rfl Try.underlying24)
  have keepA0 : ∀ (W' : World), Below W.heap.size W W' → DataW.Trod enc Try.prog W' 0 (fun b => decide (b < W.heap.size)) true 24 v0 d0 p0 := fun W' hn => Below.trod laidOut (by kernel_rfl) (of_decide_eq_true (by kernel_rfl)) h0 hn hlt0
  obtain ⟨i1, rfl, rfl, rfl, w1⟩ := open_int Try.underlying2 (hval 1 2 v1 rfl rfl) h1
  subst hv0
  refine (FnExactValueOfWhole_walk a0 n0 c0 xs0 i1 W rd0 l0 (wf_I64 w1)).mono fun e W' ⟨he, hb⟩ => ?_
  subst he
  exact ⟨_, rfl, _, _, _, [], _, [], hW', trodAll_mk1 (shut_bool Try.underlying4 _), (trodAll_cons_mk (keepA0 _ hb) (trodAll_cons_mk (shut_int Try.underlying2 w1) trodAll_mk0)), rfl, hb.frame _, fun h => by cases h⟩

theorem FnExactValueOfWhole_holds : Rows.FnExactValueOfWholeSaid :=
  OpenClaim.holds_of_wide 8 Try.f8 rfl rfl rfl rfl rfl rfl rfl ⟨rfl, rfl, rfl, rfl, rfl⟩ rfl rfl rfl rfl rfl (by kernel_rfl) Try.func8 (by kernel_rfl)
    (of_decide_eq_true (by kernel_rfl)) (by unfold Func.isWrapper; first | (rw [if_pos (by decide +kernel)]; kernel_rfl) | (rw [if_neg (by decide +kernel)]; exact ⟨rfl, rfl⟩))
    (fun os started H enc _ => FnExactValueOfWhole_lifted os started H enc)


end Go.Proofs.Ytpnedjhgjellnaa
