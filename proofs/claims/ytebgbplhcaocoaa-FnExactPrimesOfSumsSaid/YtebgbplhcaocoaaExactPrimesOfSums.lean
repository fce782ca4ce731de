/- FnExactPrimesOfSums: for all arguments the program's function answers as the model's, leaves its arguments alone, and its answers own their memory. No condition. -/
import Derived.Test.YtebgbplhcaocoaaQs8
import Derived.Test.YtebgbplhcaocoaaCoreA
import Derived.Test.YtebgbplhcaocoaaHead
import Derived.Deep.RegionHeld3
set_option linter.unusedSimpArgs false
set_option linter.unusedVariables false
set_option maxRecDepth 100000
namespace Go.Proofs.Ytebgbplhcaocoaa
open Go.RowKit Go.ChangeShapes Go.WideShapes Go.ChangeAt

set_option maxHeartbeats 4000000 in
theorem FnExactPrimesOfSums_walk (a0 : Option Addr) (n0 c0 : Nat) (xs0 : List Int) (w : World) (h0 : RdI 0 w.heap.size w (.slice a0 n0 c0) xs0) (l0 : xs0.length = n0) :
    Calls Try.prog 6 #[.slice a0 n0 c0] w fun e w' => e = .returned (.bool true) ∧ Below w.heap.size w w' := by
  have L0 := Lib.hid l0
  clear l0
  have hn0 : n0 ≤ 17592186044416 := by rw [← L0.out]; exact h0.1
  have hB : Below w.heap.size w w := Below.refl _ _
  obtain ⟨y0, hy0⟩ : ∃ y, y = ((prsOf xs0).1) := ⟨_, rfl⟩
  have Hy0 := Lib.hid hy0
  clear hy0
  obtain ⟨y1, hy1⟩ : ∃ y, y = ((prsOf xs0).2) := ⟨_, rfl⟩
  have Hy1 := Lib.hid hy1
  clear hy1
  by_cases hm0 : n0 ≤ 1048576
  case neg =>
    go_enter Try.func6, Try.ntmps6
    go_wp2
    go_ret
    exact ⟨rfl, Below.refl _ _⟩
  have hx0 : xs0.length ≤ 1048576 := by rw [L0.out]; exact hm0
  go_enter Try.func6, Try.ntmps6
  go_wp2_with fail
  refine (toI _ xs0 _ (h0.below hB)).mono ?_
  rintro e w1 ⟨a_1, c_1, rfl, o1, b1⟩
  replace hB := hB.next b1
  have hz1 := b1.size
  clear b1
  go_wp2_with fail
  refine (specPrs _ _ _ xs0 _ o1.rd rfl).mono ?_
  rw [← Hy0.out, ← Hy1.out]
  rintro e w2 ⟨aw0, cw0, rfl, w0, b2⟩
  replace o1 := o1.below b2
  replace hB := hB.next b2
  have hz2 := b2.size
  clear b2
  clear o1
  go_wp2_with fail
  refine (toI _ xs0 _ (h0.below hB)).mono ?_
  rintro e w3 ⟨a_3, c_3, rfl, o3, b3⟩
  replace w0 := w0.below b3
  replace hB := hB.next b3
  have hz3 := b3.size
  clear b3
  go_wp2_with fail
  refine (implPrs _ _ _ xs0 _ o3.rd rfl).mono ?_
  rw [← Hy0.out, ← Hy1.out]
  rintro e w4 ⟨ag0, cg0, rfl, g0, b4⟩
  replace w0 := w0.below b4
  replace o3 := o3.below b4
  replace hB := hB.next b4
  have hz4 := b4.size
  clear b4
  go_wp2_with fail
  refine (eqI1 _ _ _ _ g0.rd w0.rd).mono ?_
  rintro e w5 ⟨rfl, q5⟩
  replace w0 := w0.qt q5
  replace o3 := o3.qt q5
  replace g0 := g0.qt q5
  replace hB := hB.qt q5
  have hz5 := q5.below.size
  clear q5
  go_wp2_with fail
  refine (toI _ xs0 _ (h0.below hB)).mono ?_
  rintro e w6 ⟨a_6, c_6, rfl, o6, b6⟩
  replace w0 := w0.below b6
  replace o3 := o3.below b6
  replace g0 := g0.below b6
  replace hB := hB.next b6
  have hz6 := b6.size
  clear b6
  go_wp2_with fail
  refine (eqI1 _ _ _ _ o3.rd o6.rd).mono ?_
  rintro e w7 ⟨rfl, q7⟩
  replace w0 := w0.qt q7
  replace o3 := o3.qt q7
  replace g0 := g0.qt q7
  replace o6 := o6.qt q7
  replace hB := hB.qt q7
  have hz7 := q7.below.size
  clear q7
  clear o6
  go_wp2_with fail
  refine (markI _ xs0 _ _ o3 (by omega) (by have := o3.1; omega)).mono ?_
  clear o3
  rintro e w8 ⟨rfl, -, ch8⟩
  replace w0 := w0.chg ch8 (by omega)
  replace g0 := g0.chg ch8 (by omega)
  replace hB := hB.chgn ch8 (by omega) hB.size
  have hz8 := ch8.size
  clear ch8
  go_wp2_with fail
  refine (eqI1 _ _ _ _ g0.rd w0.rd).mono ?_
  rintro e w9 ⟨rfl, q9⟩
  replace w0 := w0.qt q9
  replace g0 := g0.qt q9
  replace hB := hB.qt q9
  have hz9 := q9.below.size
  clear q9
  go_wp2_with fail
  refine (markI _ _ _ _ g0 (by omega) (by omega)).mono ?_
  clear g0
  rintro e w10 ⟨rfl, g0, ch10⟩
  replace w0 := w0.chg ch10 (by omega)
  replace hB := hB.chgn ch10 (by omega) hB.size
  have hz10 := ch10.size
  clear ch10
  go_wp2_with fail
  refine (heldI _ _ _ _ g0.rd (by omega) (by omega)).mono ?_
  rintro e w11 ⟨rfl, q11⟩
  replace w0 := w0.qt q11
  replace g0 := g0.qt q11
  replace hB := hB.qt q11
  have hz11 := q11.below.size
  clear q11
  have hnn0 : ¬ ((1 : Int) + ((y0).length : Int) < 0) := by omega
  go_wp2_with fail
  refine (toI _ xs0 _ (h0.below hB)).mono ?_
  rintro e w12 ⟨a_12, c_12, rfl, o12, b12⟩
  replace w0 := w0.below b12
  replace g0 := g0.below b12
  replace hB := hB.next b12
  have hz12 := b12.size
  clear b12
  go_wp2_with fail
  refine (implPrs _ _ _ xs0 _ o12.rd rfl).mono ?_
  rw [← Hy0.out, ← Hy1.out]
  rintro e w13 ⟨ah0, ch0, rfl, h0, b13⟩
  replace w0 := w0.below b13
  replace g0 := g0.below b13
  replace o12 := o12.below b13
  replace hB := hB.next b13
  have hz13 := b13.size
  clear b13
  clear o12
  go_wp2_with fail
  refine (eqI1 _ _ _ _ h0.rd w0.rd).mono ?_
  rintro e w14 ⟨rfl, q14⟩
  replace w0 := w0.qt q14
  replace g0 := g0.qt q14
  replace h0 := h0.qt q14
  replace hB := hB.qt q14
  have hz14 := q14.below.size
  clear q14
  go_wp2_with fail
  refine (heldI _ _ _ _ g0.rd (by omega) (by omega)).mono ?_
  rintro e w15 ⟨rfl, q15⟩
  replace w0 := w0.qt q15
  replace g0 := g0.qt q15
  replace h0 := h0.qt q15
  replace hB := hB.qt q15
  have hz15 := q15.below.size
  clear q15
  go_wp2
  go_ret
  exact ⟨rfl, hB⟩

set_option maxRecDepth 100000 in
theorem FnExactPrimesOfSums_lifted (os : Os) (started : os.Started) (H : Type) (enc : TypeId × Value → H) :
    ReturnsInHanded {} Try.checked os 6 .any (Rows.fnExactPrimesOfSumsSpec.pre6 enc Try.prog Try.f6 Rows.fnExactPrimesOfSumsRow.domain false) (Rows.fnExactPrimesOfSumsSpec.post enc Try.prog Try.f6 false true false false) := by
  refine returnsInHanded_of_change_sized (C := Try.checked) own started (by kernel_rfl) Try.func6
    (ChangeSpec.witness6 (enc := enc) (C := Try.checked) false ⟨#[], #[.slice none 0 0], []⟩ 8 (by kernel_rfl) (by kernel_rfl) (by kernel_rfl) (by kernel_rfl)) ?_
  intro W base args ds gs before hval0 hW _ hsz0 _
  have hsz : (DataW.weightsEach Try.prog (Try.f6.params.toList ++ Rows.fnExactPrimesOfSumsSpec.plain.varTypes Try.prog) (ds ++ gs)).all (· ≤ reachBytes) = true := hsz0
  clear hsz0
  have hval : ∀ (j : Nat) t v, Try.f6.params[j]? = some t → args[j]? = some v → Value.okWide Try.prog W .any base t v := hval0
  have hW' := hW
  obtain ⟨p, q, hA0, hV, rfl, _, _⟩ := hW
  have hA : DataW.TrodAll enc Try.prog W 0 (fun _ => true) true Try.f6.params.toList args.toList ds p := hA0
  rw [Try.params6] at hA hval hsz
  clear hA0 hval0
  obtain ⟨v0, vs0, d0, ds0, p0, q0, hargs0, rfl, rfl, h0, r0⟩ := trodAll_cons hA
  obtain ⟨rfl, rfl, rfl⟩ := trodAll_nil r0
  obtain rfl : args = #[v0] := by cases args; simp_all
  obtain ⟨rfl, rfl⟩ := trodVars_none hV
  simp only [List.append_nil] at hW'
  have hltW := hW'.lt
  have hlt0 : ∀ x ∈ p0, x.block < W.heap.size := fun x hx => by have := hW'.lt x (by simp [hx]); simpa using this
  obtain ⟨a0, n0, c0, xs0, hv0, l0, rd0⟩ := openI (hval 0 37 v0 rfl rfl) h0 hlt0 (fun es sp hd => by subst hd; exact sized_slice hsz (j := 0) (t := 37) (e := 2) rfl rfl Try.underlying37)
  have keepA0 : ∀ (W' : World), Below W.heap.size W W' → DataW.Trod enc Try.prog W' 0 (fun b => decide (b < W.heap.size)) true 37 v0 d0 p0 := fun W' hn => Below.trod laidOut (by kernel_rfl) (of_decide_eq_true (by kernel_rfl)) h0 hn hlt0
  subst hv0
  refine (FnExactPrimesOfSums_walk a0 n0 c0 xs0 W rd0 l0).mono fun e W' ⟨he, hb⟩ => ?_
  subst he
  exact ⟨_, rfl, _, _, _, [], _, [], hW', trodAll_mk1 (shut_bool Try.underlying4 _), (trodAll_cons_mk (keepA0 _ hb) trodAll_mk0), rfl, hb.frame _, fun h => by cases h⟩

theorem FnExactPrimesOfSums_k1 : (Rows.fnExactPrimesOfSumsRow.inPlace == Try.prog.inPlace 6) = true := by kernel_rfl
theorem FnExactPrimesOfSums_k2 : (Rows.fnExactPrimesOfSumsRow.unfollowed == Try.prog.unfollowed 6) = true := by kernel_rfl
theorem FnExactPrimesOfSums_k3 : (Rows.fnExactPrimesOfSumsRow.recurses == Try.prog.recurses 6) = true := by kernel_rfl
theorem FnExactPrimesOfSums_k4 : (Rows.fnExactPrimesOfSumsRow.named == Try.prog.varsNamed 6) = true := by kernel_rfl
set_option maxRecDepth 100000 in
theorem FnExactPrimesOfSums_closed : joinedFacts Try.prog 6 Try.f6 Rows.fnExactPrimesOfSumsSpec Rows.fnExactPrimesOfSumsRow = true := by
  unfold joinedFacts
  rw [FnExactPrimesOfSums_k1, FnExactPrimesOfSums_k2, FnExactPrimesOfSums_k3, FnExactPrimesOfSums_k4, head_enter, head_lifts, head_make]
  show (_ : Bool) = true
  kernel_rfl


theorem FnExactPrimesOfSums_holds : Rows.FnExactPrimesOfSumsSaid :=
  OpenClaim.holds_of_wide 6 Try.f6 rfl rfl rfl rfl rfl rfl rfl ⟨rfl, rfl, rfl, rfl, rfl⟩ rfl rfl rfl rfl rfl (by kernel_rfl) Try.func6 FnExactPrimesOfSums_closed
    (of_decide_eq_true (by kernel_rfl)) (by unfold Func.isWrapper; first | (rw [if_pos (by decide +kernel)]; kernel_rfl) | (rw [if_neg (by decide +kernel)]; exact ⟨rfl, rfl⟩))
    (fun os started H enc _ => FnExactPrimesOfSums_lifted os started H enc)


end Go.Proofs.Ytebgbplhcaocoaa
