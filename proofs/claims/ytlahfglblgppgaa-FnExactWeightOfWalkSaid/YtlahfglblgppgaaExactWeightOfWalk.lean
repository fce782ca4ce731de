/- FnExactWeightOfWalk: for all arguments the program's function answers as the model's, leaves its arguments alone, and its answers own their memory. No condition. -/
import Derived.Test.YtlahfglblgppgaaSpecWw
import Derived.Test.YtlahfglblgppgaaImplWw
import Derived.Test.YtlahfglblgppgaaCoreA
import Derived.Test.YtlahfglblgppgaaHead
import Derived.Deep.RegionHeld3
set_option linter.unusedSimpArgs false
set_option linter.unusedVariables false
set_option maxRecDepth 100000
namespace Go.Proofs.Ytlahfglblgppgaa
open Go.RowKit Go.ChangeShapes Go.WideShapes Go.ChangeAt

set_option maxHeartbeats 4000000 in
theorem FnExactWeightOfWalk_walk (i0 : Int) (s1 : Int) (a1 : Option Addr) (n1 c1 : Nat) (xs1 : List (List Int)) (a2 : Option Addr) (n2 c2 : Nat) (xs2 : List Int) (a3 : Option Addr) (n3 c3 : Nat) (xs3 : List Int) (w : World) (is0 : I64 i0) (h1 : RdR 0 w.heap.size w (.slice a1 n1 c1) xs1) (l1 : xs1.length = n1) (is1 : I64 s1) (h2 : RdI 0 w.heap.size w (.slice a2 n2 c2) xs2) (l2 : xs2.length = n2) (h3 : RdI 0 w.heap.size w (.slice a3 n3 c3) xs3) (l3 : xs3.length = n3) :
    Calls Try.prog 5 #[.int .i64 i0, .agg #[.int .i64 s1, .slice a1 n1 c1], .slice a2 n2 c2, .slice a3 n3 c3] w fun e w' => e = .returned (.bool true) ∧ Below w.heap.size w w' := by
  have L1 := Lib.hid l1
  clear l1
  have S1 := Lib.hid is1
  clear is1
  have L2 := Lib.hid l2
  clear l2
  have L3 := Lib.hid l3
  clear l3
  have hn2 : n2 ≤ 17592186044416 := by rw [← L2.out]; exact h2.1
  have hn3 : n3 ≤ 17592186044416 := by rw [← L3.out]; exact h3.1
  have hB : Below w.heap.size w w := Below.refl _ _
  obtain ⟨y0, hy0⟩ : ∃ y, y = ((wwOf i0 s1 xs1 xs2 xs3).1) := ⟨_, rfl⟩
  have Hy0 := Lib.hid hy0
  clear hy0
  obtain ⟨y1, hy1⟩ : ∃ y, y = ((wwOf i0 s1 xs1 xs2 xs3).2) := ⟨_, rfl⟩
  have Hy1 := Lib.hid hy1
  clear hy1
  by_cases hm2 : n2 ≤ 1048576
  case neg =>
    go_enter Try.func5, Try.ntmps5
    go_wp2
    go_ret
    exact ⟨rfl, (Below.refl _ _).alloc (Nat.le_refl _) _⟩
  have hx2 : xs2.length ≤ 1048576 := by rw [L2.out]; exact hm2
  by_cases hm3 : n3 ≤ 1048576
  case neg =>
    go_enter Try.func5, Try.ntmps5
    go_wp2
    go_ret
    exact ⟨rfl, (Below.refl _ _).alloc (Nat.le_refl _) _⟩
  have hx3 : xs3.length ≤ 1048576 := by rw [L3.out]; exact hm3
  go_enter Try.func5, Try.ntmps5
  go_wp2_with fail
  refine calls_gen (fun W => Below w.heap.size w W ∧ w.heap.size < W.heap.size ∧ W.cell? ⟨w.heap.size, 0, none⟩ = some (.int .i64 s1) ∧ W.cell? ⟨w.heap.size, 1, none⟩ = some (.slice a1 n1 c1)) ⟨(Below.refl _ _).alloc (Nat.le_refl _) _, by simp, by go_simp, by go_simp⟩ ?_
  rintro W0 ⟨hB0, hz0, k0, k1⟩
  replace hB := hB.next hB0
  clear hB0
  refine (szG s1 a1 n1 c1 xs1 _ (by omega) (by omega) _ (h1.below hB) L1.out).mono ?_
  rintro e w1 ⟨⟨r1, hr1, rfl⟩, b1⟩
  replace k0 := b1.keep k0
  replace k1 := b1.keep k1
  replace hB := hB.next b1
  have hz1 := b1.size
  clear b1
  rcases hr1 with rfl | ⟨hr1, hq1⟩
  · go_wp2
    go_ret
    exact ⟨rfl, hB⟩
  have hl1 : lens xs1 ≤ 1048576 := by omega
  have HR1 := Lib.hid hq1
  clear hq1
  have hp1 : ¬ r1 < 0 := by omega
  have hpp1 : r1 ≤ 1048576 := by have := HR1.out; omega
  go_wp2_with fail
  refine (toG s1 a1 n1 c1 xs1 _ (h1.below hB) (by have := hB.size; omega)).mono ?_
  rintro e w2 ⟨a_2, c_2, rfl, o2, b2⟩
  replace k0 := b2.keep k0
  replace k1 := b2.keep k1
  replace hB := hB.next b2
  have hz2 := b2.size
  clear b2
  go_wp2_with fail
  refine (toI _ xs2 _ (h2.below hB)).mono ?_
  rintro e w3 ⟨a_3, c_3, rfl, o3, b3⟩
  replace k0 := b3.keep k0
  replace k1 := b3.keep k1
  replace o2 := o2.below b3
  replace hB := hB.next b3
  have hz3 := b3.size
  clear b3
  go_wp2_with fail
  refine (toI _ xs3 _ (h3.below hB)).mono ?_
  rintro e w4 ⟨a_4, c_4, rfl, o4, b4⟩
  replace k0 := b4.keep k0
  replace k1 := b4.keep k1
  replace o2 := o2.below b4
  replace o3 := o3.below b4
  replace hB := hB.next b4
  have hz4 := b4.size
  clear b4
  go_wp2_with fail
  refine (specWw i0 s1 _ _ _ xs1 _ _ _ xs2 _ _ _ xs3 _ o2.rd rfl o3.rd rfl o4.rd rfl).mono ?_
  rw [← Hy0.out, ← Hy1.out]
  rintro e w5 ⟨rfl, b5⟩
  replace k0 := b5.keep k0
  replace k1 := b5.keep k1
  replace o2 := o2.below b5
  replace o3 := o3.below b5
  replace o4 := o4.below b5
  replace hB := hB.next b5
  have hz5 := b5.size
  clear b5
  clear o2
  clear o3
  clear o4
  go_wp2_with fail
  refine (toG s1 a1 n1 c1 xs1 _ (h1.below hB) (by have := hB.size; omega)).mono ?_
  rintro e w6 ⟨a_6, c_6, rfl, o6, b6⟩
  replace k0 := b6.keep k0
  replace k1 := b6.keep k1
  replace hB := hB.next b6
  have hz6 := b6.size
  clear b6
  go_wp2_with fail
  refine calls_gen (fun W => Below w6.heap.size w6 W ∧ w6.heap.size < W.heap.size ∧ W.cell? ⟨w6.heap.size, 0, none⟩ = some (.int .i64 s1) ∧ W.cell? ⟨w6.heap.size, 1, none⟩ = some (.slice a_6 xs1.length c_6)) ⟨(Below.refl _ _).alloc (Nat.le_refl _) _, by simp, by go_simp, by go_simp⟩ ?_
  rintro W6 ⟨bb, hzz6, j0, j1⟩
  replace k0 := bb.keep k0
  replace k1 := bb.keep k1
  replace o6 := o6.below bb
  replace hB := hB.next bb
  have hz6 := bb.size
  clear bb
  refine (toI _ xs2 _ (h2.below hB)).mono ?_
  rintro e w7 ⟨a_7, c_7, rfl, o7, b7⟩
  replace k0 := b7.keep k0
  replace k1 := b7.keep k1
  replace j0 := b7.keep j0
  replace j1 := b7.keep j1
  replace o6 := o6.below b7
  replace hB := hB.next b7
  have hz7 := b7.size
  clear b7
  go_wp2_with fail
  refine (toI _ xs3 _ (h3.below hB)).mono ?_
  rintro e w8 ⟨a_8, c_8, rfl, o8, b8⟩
  replace k0 := b8.keep k0
  replace k1 := b8.keep k1
  replace j0 := b8.keep j0
  replace j1 := b8.keep j1
  replace o6 := o6.below b8
  replace o7 := o7.below b8
  replace hB := hB.next b8
  have hz8 := b8.size
  clear b8
  go_wp2_with fail
  refine (implWw i0 s1 _ _ _ xs1 _ _ _ xs2 _ _ _ xs3 _ o6.rd rfl o7.rd rfl o8.rd rfl).mono ?_
  rw [← Hy0.out, ← Hy1.out]
  rintro e w9 ⟨rfl, b9⟩
  replace k0 := b9.keep k0
  replace k1 := b9.keep k1
  replace j0 := b9.keep j0
  replace j1 := b9.keep j1
  replace o6 := o6.below b9
  replace o7 := o7.below b9
  replace o8 := o8.below b9
  replace hB := hB.next b9
  have hz9 := b9.size
  clear b9
  go_wp2
  have hsB := hB.size
  go_region_held3 (fun W' => Below w9.heap.size w9 W' ∧ W'.cell? ⟨w.heap.size, 0, none⟩ = some (.int .i64 s1) ∧ W'.cell? ⟨w.heap.size, 1, none⟩ = some (.slice a1 n1 c1) ∧ W'.cell? ⟨w6.heap.size, 0, none⟩ = some (.int .i64 s1) ∧ W'.cell? ⟨w6.heap.size, 1, none⟩ = some (.slice a_6 xs1.length c_6))
    (first | (exact ⟨(Below.refl _ _).drew, k0, k1, j0, j1⟩) | (go_split_ands; exact ⟨Below.next (by assumption) bx, bx.keep (by assumption), bx.keep (by assumption), bx.keep (by assumption), bx.keep (by assumption)⟩) | (go_split_ands; exact ⟨Below.next (by assumption) by1, by1.keep (by assumption), by1.keep (by assumption), by1.keep (by assumption), by1.keep (by assumption)⟩))
    (first | (go_at_call 19; go_split_ands; refine (toG' s1 a1 n1 c1 xs1 w9 _ (by assumption) (h1.below hB) hsB).mono ?_; rintro e wx ⟨ax, cx, rfl, ox, bx⟩) | (go_at_call 22; go_split_ands; refine (eqG1 s1 _ _ _ _ _ _ xs1 w9 _ (by assumption) o6.rd ox.rd).mono ?_; rintro e wy ⟨rfl, by1⟩))
  go_split_ands
  have bS : Below w9.heap.size w9 wy := by assumption
  clear ox bx by1
  replace k0 := bS.keep k0
  replace k1 := bS.keep k1
  replace j0 := bS.keep j0
  replace j1 := bS.keep j1
  replace o6 := o6.below bS
  replace o7 := o7.below bS
  replace o8 := o8.below bS
  replace hB := hB.next bS
  have hz10 := bS.size
  clear bS
  go_wp2_with fail
  refine (toI _ xs2 _ (h2.below hB)).mono ?_
  rintro e w11 ⟨a_11, c_11, rfl, o11, b11⟩
  replace k0 := b11.keep k0
  replace k1 := b11.keep k1
  replace j0 := b11.keep j0
  replace j1 := b11.keep j1
  replace o6 := o6.below b11
  replace o7 := o7.below b11
  replace o8 := o8.below b11
  replace hB := hB.next b11
  have hz11 := b11.size
  clear b11
  go_wp2_with fail
  refine (eqI1 _ _ _ _ o7.rd o11.rd).mono ?_
  rintro e w12 ⟨rfl, q12⟩
  replace k0 := q12.cell k0
  replace k1 := q12.cell k1
  replace j0 := q12.cell j0
  replace j1 := q12.cell j1
  replace o6 := o6.qt q12
  replace o7 := o7.qt q12
  replace o8 := o8.qt q12
  replace o11 := o11.qt q12
  replace hB := hB.qt q12
  have hz12 := q12.below.size
  clear q12
  clear o11
  go_wp2_with fail
  refine (toI _ xs3 _ (h3.below hB)).mono ?_
  rintro e w13 ⟨a_13, c_13, rfl, o13, b13⟩
  replace k0 := b13.keep k0
  replace k1 := b13.keep k1
  replace j0 := b13.keep j0
  replace j1 := b13.keep j1
  replace o6 := o6.below b13
  replace o7 := o7.below b13
  replace o8 := o8.below b13
  replace hB := hB.next b13
  have hz13 := b13.size
  clear b13
  go_wp2_with fail
  refine (eqI1 _ _ _ _ o8.rd o13.rd).mono ?_
  rintro e w14 ⟨rfl, q14⟩
  replace k0 := q14.cell k0
  replace k1 := q14.cell k1
  replace j0 := q14.cell j0
  replace j1 := q14.cell j1
  replace o6 := o6.qt q14
  replace o7 := o7.qt q14
  replace o8 := o8.qt q14
  replace o13 := o13.qt q14
  replace hB := hB.qt q14
  have hz14 := q14.below.size
  clear q14
  clear o13
  go_wp2
  go_ret
  exact ⟨rfl, hB⟩

set_option maxRecDepth 100000 in
theorem FnExactWeightOfWalk_lifted (os : Os) (started : os.Started) (H : Type) (enc : TypeId × Value → H) :
    ReturnsInHanded {} Try.checked os 5 .any (Rows.fnExactWeightOfWalkSpec.pre6 enc Try.prog Try.f5 Rows.fnExactWeightOfWalkRow.domain false) (Rows.fnExactWeightOfWalkSpec.post enc Try.prog Try.f5 false true false false) := by
  refine returnsInHanded_of_change_sized (C := Try.checked) own started (by kernel_rfl) Try.func5
    (ChangeSpec.witness6 (enc := enc) (C := Try.checked) false ⟨#[], #[.int .i64 0, .agg #[.int .i64 0, .slice none 0 0], .slice none 0 0, .slice none 0 0], []⟩ 8 (by kernel_rfl) (by kernel_rfl) (by kernel_rfl) (by kernel_rfl)) ?_
  intro W base args ds gs before hval0 hW _ hsz0 _
  have hsz : (DataW.weightsEach Try.prog (Try.f5.params.toList ++ Rows.fnExactWeightOfWalkSpec.plain.varTypes Try.prog) (ds ++ gs)).all (· ≤ reachBytes) = true := hsz0
  clear hsz0
  have hval : ∀ (j : Nat) t v, Try.f5.params[j]? = some t → args[j]? = some v → Value.okWide Try.prog W .any base t v := hval0
  have hW' := hW
  obtain ⟨p, q, hA0, hV, rfl, _, _⟩ := hW
  have hA : DataW.TrodAll enc Try.prog W 0 (fun _ => true) true Try.f5.params.toList args.toList ds p := hA0
  rw [Try.params5] at hA hval hsz
  clear hA0 hval0
  obtain ⟨v0, vs0, d0, ds0, p0, q0, hargs0, rfl, rfl, h0, r0⟩ := trodAll_cons hA
  obtain ⟨v1, vs1, d1, ds1, p1, q1, hargs1, rfl, rfl, h1, r1⟩ := trodAll_cons r0
  obtain ⟨v2, vs2, d2, ds2, p2, q2, hargs2, rfl, rfl, h2, r2⟩ := trodAll_cons r1
  obtain ⟨v3, vs3, d3, ds3, p3, q3, hargs3, rfl, rfl, h3, r3⟩ := trodAll_cons r2
  obtain ⟨rfl, rfl, rfl⟩ := trodAll_nil r3
  obtain rfl : args = #[v0, v1, v2, v3] := by cases args; simp_all
  obtain ⟨rfl, rfl⟩ := trodVars_none hV
  simp only [List.append_nil] at hW'
  have hltW := hW'.lt
  obtain ⟨i0, rfl, rfl, rfl, w0⟩ := open_int Try.underlying2 (hval 0 2 v0 rfl rfl) h0
  have hlt1 : ∀ x ∈ p1, x.block < W.heap.size := fun x hx => by have := hW'.lt x (by simp [hx]); simpa using this
  have hwt1 : ∀ n ∈ d1.weights Try.prog 24, n ≤ reachBytes := fun n hn => by simpa using List.all_eq_true.1 hsz n (DataW.weights_mem_each (j := 1) rfl rfl n hn)
  obtain ⟨s1, a1, n1, c1, xs1, hv1, l1, rd1, is1⟩ := openG (hval 1 24 v1 rfl rfl) h1 hwt1
  have keepA1 : ∀ (W' : World), Below W.heap.size W W' → DataW.Trod enc Try.prog W' 0 (fun b => decide (b < W.heap.size)) true 24 v1 d1 p1 := fun W' hn => Below.trod laidOut (by kernel_rfl) (of_decide_eq_true (by kernel_rfl)) h1 hn hlt1
  have hlt2 : ∀ x ∈ p2, x.block < W.heap.size := fun x hx => by have := hW'.lt x (by simp [hx]); simpa using this
  obtain ⟨a2, n2, c2, xs2, hv2, l2, rd2⟩ := openI (hval 2 26 v2 rfl rfl) h2 hlt2 (fun es sp hd => by subst hd; exact sized_slice hsz (j := 2) (t := 26) (e := 2) rfl rfl Try.underlying26)
  have keepA2 : ∀ (W' : World), Below W.heap.size W W' → DataW.Trod enc Try.prog W' 0 (fun b => decide (b < W.heap.size)) true 26 v2 d2 p2 := fun W' hn => Below.trod laidOut (by kernel_rfl) (of_decide_eq_true (by kernel_rfl)) h2 hn hlt2
  have hlt3 : ∀ x ∈ p3, x.block < W.heap.size := fun x hx => by have := hW'.lt x (by simp [hx]); simpa using this
  obtain ⟨a3, n3, c3, xs3, hv3, l3, rd3⟩ := openI (hval 3 26 v3 rfl rfl) h3 hlt3 (fun es sp hd => by subst hd; exact sized_slice hsz (j := 3) (t := 26) (e := 2) rfl rfl Try.underlying26)
  have keepA3 : ∀ (W' : World), Below W.heap.size W W' → DataW.Trod enc Try.prog W' 0 (fun b => decide (b < W.heap.size)) true 26 v3 d3 p3 := fun W' hn => Below.trod laidOut (by kernel_rfl) (of_decide_eq_true (by kernel_rfl)) h3 hn hlt3
  subst hv1
  subst hv2
  subst hv3
  refine (FnExactWeightOfWalk_walk i0 s1 a1 n1 c1 xs1 a2 n2 c2 xs2 a3 n3 c3 xs3 W (wf_I64 w0) rd1 l1 is1 rd2 l2 rd3 l3).mono fun e W' ⟨he, hb⟩ => ?_
  subst he
  exact ⟨_, rfl, _, _, _, [], _, [], hW', trodAll_mk1 (shut_bool Try.underlying4 _), (trodAll_cons_mk (shut_int Try.underlying2 w0) (trodAll_cons_mk (keepA1 _ hb) (trodAll_cons_mk (keepA2 _ hb) (trodAll_cons_mk (keepA3 _ hb) trodAll_mk0)))), rfl, hb.frame _, fun h => by cases h⟩

theorem FnExactWeightOfWalk_k1 : (Rows.fnExactWeightOfWalkRow.inPlace == Try.prog.inPlace 5) = true := by kernel_rfl
theorem FnExactWeightOfWalk_k2 : (Rows.fnExactWeightOfWalkRow.unfollowed == Try.prog.unfollowed 5) = true := by kernel_rfl
theorem FnExactWeightOfWalk_k3 : (Rows.fnExactWeightOfWalkRow.recurses == Try.prog.recurses 5) = true := by kernel_rfl
theorem FnExactWeightOfWalk_k4 : (Rows.fnExactWeightOfWalkRow.named == Try.prog.varsNamed 5) = true := by kernel_rfl
set_option maxRecDepth 100000 in
theorem FnExactWeightOfWalk_closed : joinedFacts Try.prog 5 Try.f5 Rows.fnExactWeightOfWalkSpec Rows.fnExactWeightOfWalkRow = true := by
  unfold joinedFacts
  rw [FnExactWeightOfWalk_k1, FnExactWeightOfWalk_k2, FnExactWeightOfWalk_k3, FnExactWeightOfWalk_k4, head_enter, head_lifts, head_make]
  show (_ : Bool) = true
  kernel_rfl


theorem FnExactWeightOfWalk_holds : Rows.FnExactWeightOfWalkSaid :=
  OpenClaim.holds_of_wide 5 Try.f5 rfl rfl rfl rfl rfl rfl rfl ⟨rfl, rfl, rfl, rfl, rfl⟩ rfl rfl rfl rfl rfl (by kernel_rfl) Try.func5 FnExactWeightOfWalk_closed
    (of_decide_eq_true (by kernel_rfl)) (by unfold Func.isWrapper; first | (rw [if_pos (by decide +kernel)]; kernel_rfl) | (rw [if_neg (by decide +kernel)]; exact ⟨rfl, rfl⟩))
    (fun os started H enc _ => FnExactWeightOfWalk_lifted os started H enc)


end Go.Proofs.Ytlahfglblgppgaa
