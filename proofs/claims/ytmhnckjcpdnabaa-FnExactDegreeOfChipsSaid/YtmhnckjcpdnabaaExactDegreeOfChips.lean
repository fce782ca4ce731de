/- FnExactDegreeOfChips: for all arguments the program's function answers as the model's, leaves its arguments alone, and its answers own their memory. No condition. -/
import Derived.Test.YtmhnckjcpdnabaaChi
import Derived.Test.YtmhnckjcpdnabaaCoreA
import Derived.Test.YtmhnckjcpdnabaaHead
import Derived.Deep.RegionHeld3
set_option linter.unusedSimpArgs false
set_option linter.unusedVariables false
set_option maxRecDepth 100000
namespace Go.Proofs.Ytmhnckjcpdnabaa
open Go.RowKit Go.ChangeShapes Go.WideShapes Go.ChangeAt

set_option maxHeartbeats 4000000 in
theorem FnExactDegreeOfChips_walk (s0 : Int) (a0 : Option Addr) (n0 c0 : Nat) (xs0 : List (List Int)) (a1 : Option Addr) (n1 c1 : Nat) (xs1 : List Int) (w : World) (h0 : RdR 0 w.heap.size w (.slice a0 n0 c0) xs0) (l0 : xs0.length = n0) (is0 : I64 s0) (h1 : RdI 0 w.heap.size w (.slice a1 n1 c1) xs1) (l1 : xs1.length = n1) :
    Calls Try.prog 3 #[.agg #[.int .i64 s0, .slice a0 n0 c0], .slice a1 n1 c1] w fun e w' => e = .returned (.bool true) ∧ Below w.heap.size w w' := by
  have L0 := Lib.hid l0
  clear l0
  have S0 := Lib.hid is0
  clear is0
  have L1 := Lib.hid l1
  clear l1
  have hn1 : n1 ≤ 17592186044416 := by rw [← L1.out]; exact h1.1
  have hB : Below w.heap.size w w := Below.refl _ _
  obtain ⟨y0, hy0⟩ : ∃ y, y = ((dcOf s0 xs0 xs1).1) := ⟨_, rfl⟩
  have Hy0 := Lib.hid hy0
  clear hy0
  obtain ⟨y1, hy1⟩ : ∃ y, y = ((dcOf s0 xs0 xs1).2) := ⟨_, rfl⟩
  have Hy1 := Lib.hid hy1
  clear hy1
  by_cases hm1 : n1 ≤ 1048576
  case neg =>
    go_enter Try.func3, Try.ntmps3
    go_wp2
    go_ret
    exact ⟨rfl, (Below.refl _ _).alloc (Nat.le_refl _) _⟩
  have hx1 : xs1.length ≤ 1048576 := by rw [L1.out]; exact hm1
  go_enter Try.func3, Try.ntmps3
  go_wp2_with fail
  refine calls_gen (fun W => Below w.heap.size w W ∧ w.heap.size < W.heap.size ∧ W.cell? ⟨w.heap.size, 0, none⟩ = some (.int .i64 s0) ∧ W.cell? ⟨w.heap.size, 1, none⟩ = some (.slice a0 n0 c0)) ⟨(Below.refl _ _).alloc (Nat.le_refl _) _, by simp, by go_simp, by go_simp⟩ ?_
  rintro W0 ⟨hB0, hz0, k0, k1⟩
  replace hB := hB.next hB0
  clear hB0
  refine (szG s0 a0 n0 c0 xs0 _ (by omega) (by omega) _ (h0.below hB) L0.out).mono ?_
  rintro e w1 ⟨⟨r1, hr1, rfl⟩, b1⟩
  replace k0 := b1.keep k0
  replace k1 := b1.keep k1
  replace hB := hB.next b1
  have hz1 := b1.size
  clear b1
  rcases hr1 with rfl | ⟨hr1, hq1⟩
  · go_wp2
    go_ret
    exact ⟨rfl, hB⟩
  have hl0 : lens xs0 ≤ 1048576 := by omega
  have HR1 := Lib.hid hq1
  clear hq1
  have hp1 : ¬ r1 < 0 := by omega
  have hpp1 : r1 ≤ 1048576 := by have := HR1.out; omega
  go_wp2_with fail
  refine (toG s0 a0 n0 c0 xs0 _ (h0.below hB) (by have := hB.size; omega)).mono ?_
  rintro e w2 ⟨a_2, c_2, rfl, o2, b2⟩
  replace k0 := b2.keep k0
  replace k1 := b2.keep k1
  replace hB := hB.next b2
  have hz2 := b2.size
  clear b2
  go_wp2_with fail
  refine (toI _ xs1 _ (h1.below hB)).mono ?_
  rintro e w3 ⟨a_3, c_3, rfl, o3, b3⟩
  replace k0 := b3.keep k0
  replace k1 := b3.keep k1
  replace o2 := o2.below b3
  replace hB := hB.next b3
  have hz3 := b3.size
  clear b3
  go_wp2_with fail
  refine (specDc s0 _ _ _ xs0 _ _ _ xs1 _ o2.rd rfl o3.rd rfl).mono ?_
  rw [← Hy0.out, ← Hy1.out]
  rintro e w4 ⟨rfl, b4⟩
  replace k0 := b4.keep k0
  replace k1 := b4.keep k1
  replace o2 := o2.below b4
  replace o3 := o3.below b4
  replace hB := hB.next b4
  have hz4 := b4.size
  clear b4
  clear o2
  clear o3
  go_wp2_with fail
  refine (toG s0 a0 n0 c0 xs0 _ (h0.below hB) (by have := hB.size; omega)).mono ?_
  rintro e w5 ⟨a_5, c_5, rfl, o5, b5⟩
  replace k0 := b5.keep k0
  replace k1 := b5.keep k1
  replace hB := hB.next b5
  have hz5 := b5.size
  clear b5
  go_wp2_with fail
  refine calls_gen (fun W => Below w5.heap.size w5 W ∧ w5.heap.size < W.heap.size ∧ W.cell? ⟨w5.heap.size, 0, none⟩ = some (.int .i64 s0) ∧ W.cell? ⟨w5.heap.size, 1, none⟩ = some (.slice a_5 xs0.length c_5)) ⟨(Below.refl _ _).alloc (Nat.le_refl _) _, by simp, by go_simp, by go_simp⟩ ?_
  rintro W5 ⟨bb, hzz5, j0, j1⟩
  replace k0 := bb.keep k0
  replace k1 := bb.keep k1
  replace o5 := o5.below bb
  replace hB := hB.next bb
  have hz5 := bb.size
  clear bb
  refine (toI _ xs1 _ (h1.below hB)).mono ?_
  rintro e w6 ⟨a_6, c_6, rfl, o6, b6⟩
  replace k0 := b6.keep k0
  replace k1 := b6.keep k1
  replace j0 := b6.keep j0
  replace j1 := b6.keep j1
  replace o5 := o5.below b6
  replace hB := hB.next b6
  have hz6 := b6.size
  clear b6
  go_wp2_with fail
  refine (implDc s0 _ _ _ xs0 _ _ _ xs1 _ o5.rd rfl o6.rd rfl).mono ?_
  rw [← Hy0.out, ← Hy1.out]
  rintro e w7 ⟨rfl, b7⟩
  replace k0 := b7.keep k0
  replace k1 := b7.keep k1
  replace j0 := b7.keep j0
  replace j1 := b7.keep j1
  replace o5 := o5.below b7
  replace o6 := o6.below b7
  replace hB := hB.next b7
  have hz7 := b7.size
  clear b7
  go_wp2
  have hsB := hB.size
  go_region_held3 (fun W' => Below w7.heap.size w7 W' ∧ W'.cell? ⟨w.heap.size, 0, none⟩ = some (.int .i64 s0) ∧ W'.cell? ⟨w.heap.size, 1, none⟩ = some (.slice a0 n0 c0) ∧ W'.cell? ⟨w5.heap.size, 0, none⟩ = some (.int .i64 s0) ∧ W'.cell? ⟨w5.heap.size, 1, none⟩ = some (.slice a_5 xs0.length c_5))
    (first | (exact ⟨(Below.refl _ _).drew, k0, k1, j0, j1⟩) | (go_split_ands; exact ⟨Below.next (by assumption) bx, bx.keep (by assumption), bx.keep (by assumption), bx.keep (by assumption), bx.keep (by assumption)⟩) | (go_split_ands; exact ⟨Below.next (by assumption) by1, by1.keep (by assumption), by1.keep (by assumption), by1.keep (by assumption), by1.keep (by assumption)⟩))
    (first | (go_at_call 16; go_split_ands; refine (toG' s0 a0 n0 c0 xs0 w7 _ (by assumption) (h0.below hB) hsB).mono ?_; rintro e wx ⟨ax, cx, rfl, ox, bx⟩) | (go_at_call 19; go_split_ands; refine (eqG1 s0 _ _ _ _ _ _ xs0 w7 _ (by assumption) o5.rd ox.rd).mono ?_; rintro e wy ⟨rfl, by1⟩))
  go_split_ands
  have bS : Below w7.heap.size w7 wy := by assumption
  clear ox bx by1
  replace k0 := bS.keep k0
  replace k1 := bS.keep k1
  replace j0 := bS.keep j0
  replace j1 := bS.keep j1
  replace o5 := o5.below bS
  replace o6 := o6.below bS
  replace hB := hB.next bS
  have hz8 := bS.size
  clear bS
  go_wp2_with fail
  refine (toI _ xs1 _ (h1.below hB)).mono ?_
  rintro e w9 ⟨a_9, c_9, rfl, o9, b9⟩
  replace k0 := b9.keep k0
  replace k1 := b9.keep k1
  replace j0 := b9.keep j0
  replace j1 := b9.keep j1
  replace o5 := o5.below b9
  replace o6 := o6.below b9
  replace hB := hB.next b9
  have hz9 := b9.size
  clear b9
  go_wp2_with fail
  refine (eqI1 _ _ _ _ o6.rd o9.rd).mono ?_
  rintro e w10 ⟨rfl, q10⟩
  replace k0 := q10.cell k0
  replace k1 := q10.cell k1
  replace j0 := q10.cell j0
  replace j1 := q10.cell j1
  replace o5 := o5.qt q10
  replace o6 := o6.qt q10
  replace o9 := o9.qt q10
  replace hB := hB.qt q10
  have hz10 := q10.below.size
  clear q10
  clear o9
  go_wp2
  go_ret
  exact ⟨rfl, hB⟩

set_option maxRecDepth 100000 in
theorem FnExactDegreeOfChips_lifted (os : Os) (started : os.Started) (H : Type) (enc : TypeId × Value → H) :
    ReturnsInHanded {} Try.checked os 3 .any (Rows.fnExactDegreeOfChipsSpec.pre6 enc Try.prog Try.f3 Rows.fnExactDegreeOfChipsRow.domain false) (Rows.fnExactDegreeOfChipsSpec.post enc Try.prog Try.f3 false true false false) := by
  refine returnsInHanded_of_change_sized (C := Try.checked) own started (by kernel_rfl) Try.func3
    (ChangeSpec.witness6 (enc := enc) (C := Try.checked) false ⟨#[], #[.agg #[.int .i64 0, .slice none 0 0], .slice none 0 0], []⟩ 8 (by kernel_rfl) (by kernel_rfl) (by kernel_rfl) (by kernel_rfl)) ?_
  intro W base args ds gs before hval0 hW _ hsz0 _
  have hsz : (DataW.weightsEach Try.prog (Try.f3.params.toList ++ Rows.fnExactDegreeOfChipsSpec.plain.varTypes Try.prog) (ds ++ gs)).all (· ≤ reachBytes) = true := hsz0
  clear hsz0
  have hval : ∀ (j : Nat) t v, Try.f3.params[j]? = some t → args[j]? = some v → Value.okWide Try.prog W .any base t v := hval0
  have hW' := hW
  obtain ⟨p, q, hA0, hV, rfl, _, _⟩ := hW
  have hA : DataW.TrodAll enc Try.prog W 0 (fun _ => true) true Try.f3.params.toList args.toList ds p := hA0
  rw [Try.params3] at hA hval hsz
  clear hA0 hval0
  obtain ⟨v0, vs0, d0, ds0, p0, q0, hargs0, rfl, rfl, h0, r0⟩ := trodAll_cons hA
  obtain ⟨v1, vs1, d1, ds1, p1, q1, hargs1, rfl, rfl, h1, r1⟩ := trodAll_cons r0
  obtain ⟨rfl, rfl, rfl⟩ := trodAll_nil r1
  obtain rfl : args = #[v0, v1] := by cases args; simp_all
  obtain ⟨rfl, rfl⟩ := trodVars_none hV
  simp only [List.append_nil] at hW'
  have hltW := hW'.lt
  have hlt0 : ∀ x ∈ p0, x.block < W.heap.size := fun x hx => by have := hW'.lt x (by simp [hx]); simpa using this
  have hwt0 : ∀ n ∈ d0.weights Try.prog 24, n ≤ reachBytes := fun n hn => by simpa using List.all_eq_true.1 hsz n (DataW.weights_mem_each (j := 0) rfl rfl n hn)
  obtain ⟨s0, a0, n0, c0, xs0, hv0, l0, rd0, is0⟩ := openG (hval 0 24 v0 rfl rfl) h0 hwt0
  have keepA0 : ∀ (W' : World), Below W.heap.size W W' → DataW.Trod enc Try.prog W' 0 (fun b => decide (b < W.heap.size)) true 24 v0 d0 p0 := fun W' hn => Below.trod laidOut (by kernel_rfl) (of_decide_eq_true (by kernel_rfl)) h0 hn hlt0
  have hlt1 : ∀ x ∈ p1, x.block < W.heap.size := fun x hx => by have := hW'.lt x (by simp [hx]); simpa using this
  obtain ⟨a1, n1, c1, xs1, hv1, l1, rd1⟩ := openI (hval 1 25 v1 rfl rfl) h1 hlt1 (fun es sp hd => by subst hd; exact sized_slice hsz (j := 1) (t := 25) (e := 2) rfl rfl Try.underlying25)
  have keepA1 : ∀ (W' : World), Below W.heap.size W W' → DataW.Trod enc Try.prog W' 0 (fun b => decide (b < W.heap.size)) true 25 v1 d1 p1 := fun W' hn => Below.trod laidOut (by kernel_rfl) (of_decide_eq_true (by kernel_rfl)) h1 hn hlt1
  subst hv0
  subst hv1
  refine (FnExactDegreeOfChips_walk s0 a0 n0 c0 xs0 a1 n1 c1 xs1 W rd0 l0 is0 rd1 l1).mono fun e W' ⟨he, hb⟩ => ?_
  subst he
  exact ⟨_, rfl, _, _, _, [], _, [], hW', trodAll_mk1 (shut_bool Try.underlying4 _), (trodAll_cons_mk (keepA0 _ hb) (trodAll_cons_mk (keepA1 _ hb) trodAll_mk0)), rfl, hb.frame _, fun h => by cases h⟩

theorem FnExactDegreeOfChips_k1 : (Rows.fnExactDegreeOfChipsRow.inPlace == Try.prog.inPlace 3) = true := by kernel_rfl
theorem FnExactDegreeOfChips_k2 : (Rows.fnExactDegreeOfChipsRow.unfollowed == Try.prog.unfollowed 3) = true := by kernel_rfl
theorem FnExactDegreeOfChips_k3 : (Rows.fnExactDegreeOfChipsRow.recurses == Try.prog.recurses 3) = true := by kernel_rfl
theorem FnExactDegreeOfChips_k4 : (Rows.fnExactDegreeOfChipsRow.named == Try.prog.varsNamed 3) = true := by kernel_rfl
set_option maxRecDepth 100000 in
theorem FnExactDegreeOfChips_closed : joinedFacts Try.prog 3 Try.f3 Rows.fnExactDegreeOfChipsSpec Rows.fnExactDegreeOfChipsRow = true := by
  unfold joinedFacts
  rw [FnExactDegreeOfChips_k1, FnExactDegreeOfChips_k2, FnExactDegreeOfChips_k3, FnExactDegreeOfChips_k4, head_enter, head_lifts, head_make]
  show (_ : Bool) = true
  kernel_rfl


theorem FnExactDegreeOfChips_holds : Rows.FnExactDegreeOfChipsSaid :=
  OpenClaim.holds_of_wide 3 Try.f3 rfl rfl rfl rfl rfl rfl rfl ⟨rfl, rfl, rfl, rfl, rfl⟩ rfl rfl rfl rfl rfl (by kernel_rfl) Try.func3 FnExactDegreeOfChips_closed
    (of_decide_eq_true (by kernel_rfl)) (by unfold Func.isWrapper; first | (rw [if_pos (by decide +kernel)]; kernel_rfl) | (rw [if_neg (by decide +kernel)]; exact ⟨rfl, rfl⟩))
    (fun os started H enc _ => FnExactDegreeOfChips_lifted os started H enc)


end Go.Proofs.Ytmhnckjcpdnabaa
