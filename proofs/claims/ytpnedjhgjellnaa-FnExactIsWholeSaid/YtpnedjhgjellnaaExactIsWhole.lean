/- FnExactIsWhole: for every list of numbers the program's IsWhole answers as the model's, and leaves its argument alone. No condition. -/
import Derived.Test.YtpnedjhgjellnaaWhole
import Derived.Test.YtpnedjhgjellnaaRow
set_option linter.unusedSimpArgs false
set_option linter.unusedVariables false
namespace Go.Proofs.Ytpnedjhgjellnaa
open Go.RowKit Go.ChangeShapes Go.WideShapes Go.ChangeAt

theorem FnExactIsWhole_walk (a : Option Addr) (n cap : Nat) (xs : List Int) (w : World) (h : RdI w (.slice a n cap) xs) (hn : xs.length = n) :
    Calls Try.prog 4 #[.slice a n cap] w fun e w' => e = .returned (.bool true) ∧ Below w.heap.size w w' := by
  have HN := Lib.hid hn
  have hn17 : n ≤ 17592186044416 := by rw [← hn]; exact h.1
  clear hn
  by_cases hb : n ≤ 1048576
  · go_enter Try.func4, Try.ntmps4
    go_wp2_with fail
    refine (toI _ _ _ h).mono ?_
    rintro e w1 ⟨v1, rfl, o1, b1⟩
    go_wp2_with fail
    refine (specIsWhole _ _ _ o1.rd).mono ?_
    rintro e w2 ⟨rfl, q2⟩
    have b2 := b1.qt q2
    clear o1 b1 q2
    go_wp2_with fail
    refine (toI _ _ _ (h.below b2)).mono ?_
    rintro e w3 ⟨v3, rfl, o3, b3'⟩
    have b3 := b2.next b3'
    clear b2 b3'
    go_wp2_with fail
    refine (implIsWhole _ _ _ o3.rd).mono ?_
    rintro e w4 ⟨rfl, q4⟩
    have b4 := b3.qt q4
    have r4 := o3.rd.qt q4
    clear b3 q4 o3
    have hne : ∀ b : Bool, (b != b) = false := fun b => by cases b <;> rfl
    generalize wholeB xs = wb
    have hne' := hne wb
    clear hne
    go_wp2_with fail
    refine (toI _ _ _ (h.below b4)).mono ?_
    rintro e w5 ⟨v5, rfl, o5, b5'⟩
    have b5 := b4.next b5'
    go_wp2_with fail
    refine (eqI _ _ _ _ _ (r4.below b5') o5.rd).mono ?_
    rintro e w6 ⟨rfl, q6⟩
    have b6 := b5.qt q6
    rw [eqB_self]
    go_wp2
    go_ret
    exact ⟨rfl, b6⟩
  · go_enter Try.func4, Try.ntmps4
    go_wp2
    go_ret
    exact ⟨rfl, Below.refl _ _⟩


set_option maxRecDepth 100000 in
theorem FnExactIsWhole_lifted (os : Os) (started : os.Started) (H : Type) (enc : TypeId × Value → H) :
    ReturnsInHanded {} Try.checked os 4 .any (Rows.fnExactIsWholeSpec.pre6 enc Try.prog Try.f4 Rows.fnExactIsWholeRow.domain false) (Rows.fnExactIsWholeSpec.post enc Try.prog Try.f4 false true false false) := by
  refine returnsInHanded_of_change_sized (C := Try.checked) own started (by kernel_rfl) Try.func4
    (ChangeSpec.witness6 (enc := enc) (C := Try.checked) false ⟨#[], #[.slice none 0 0], []⟩ 8 (by kernel_rfl) (by kernel_rfl) (by kernel_rfl) (by kernel_rfl)) ?_
  intro W base args ds gs before hval0 hW _ hsz0 _
  have hsz : (DataW.weightsEach Try.prog (Try.f4.params.toList ++ Rows.fnExactIsWholeSpec.plain.varTypes Try.prog) (ds ++ gs)).all (· ≤ reachBytes) = true := hsz0
  clear hsz0
  have hval : ∀ (j : Nat) t v, Try.f4.params[j]? = some t → args[j]? = some v → Value.okWide Try.prog W .any base t v := hval0
  have hW' := hW
  obtain ⟨p, q, hA0, hV, rfl, _, _⟩ := hW
  have hA : DataW.TrodAll enc Try.prog W 0 (fun _ => true) true Try.f4.params.toList args.toList ds p := hA0
  rw [Try.params4] at hA hval hsz
  clear hA0 hval0
  obtain ⟨v0, vs0, d0, ds0, p0, q0, hargs0, rfl, rfl, h0, r0⟩ := trodAll_cons hA
  obtain ⟨rfl, rfl, rfl⟩ := trodAll_nil r0
  obtain rfl : args = #[v0] := by cases args; simp_all
  obtain ⟨rfl, rfl⟩ := trodVars_none hV
  simp only [List.append_nil] at hW'
  have hltW := hW'.lt
  have hlt0 : ∀ x ∈ p0, x.block < W.heap.size := fun x hx => by have := hW'.lt x (by simp [hx]); simpa using this
  obtain ⟨a0, n0, c0, xs0, hv0, l0, rd0⟩ := openI (hval 0 24 v0 rfl rfl) h0 hlt0 (fun es sp hd => by subst hd; exact sized_slice hsz (j := 0) (t := 24) (e := 2) rfl rfl Try.underlying24)
  have hargs0 : ∀ (W' : World), Below W.heap.size W W' → DataW.Trod enc Try.prog W' 0 (fun b => decide (b < W.heap.size)) true 24 v0 d0 p0 := fun W' hn => Below.trod laidOut (by kernel_rfl) (of_decide_eq_true (by kernel_rfl)) h0 hn hlt0
  subst hv0
  refine (FnExactIsWhole_walk a0 n0 c0 xs0 W rd0 l0).mono fun e W' ⟨he, hb⟩ => ?_
  subst he
  exact ⟨_, rfl, _, _, _, [], _, [], hW', trodAll_mk1 (shut_bool Try.underlying4 _), (trodAll_cons_mk (hargs0 _ hb) trodAll_mk0), rfl, hb.frame _, fun h => by cases h⟩

theorem FnExactIsWhole_holds : Rows.FnExactIsWholeSaid :=
  OpenClaim.holds_of_wide 4 Try.f4 rfl rfl rfl rfl rfl rfl rfl ⟨rfl, rfl, rfl, rfl, rfl⟩ rfl rfl rfl rfl rfl (by kernel_rfl) Try.func4 (by kernel_rfl)
    (of_decide_eq_true (by kernel_rfl)) (by unfold Func.isWrapper; first | (rw [if_pos (by decide +kernel)]; kernel_rfl) | (rw [if_neg (by decide +kernel)]; exact ⟨rfl, rfl⟩))
    (fun os started H enc _ => FnExactIsWhole_lifted os started H enc)


end Go.Proofs.Ytpnedjhgjellnaa
