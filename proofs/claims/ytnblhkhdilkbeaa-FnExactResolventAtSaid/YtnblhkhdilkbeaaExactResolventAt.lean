/- FnExactResolventAt: for all arguments the program's function answers as the model's, leaves its arguments alone, and its answers own their memory. No condition. -/
import Derived.Test.YtnblhkhdilkbeaaRsS
import Derived.Test.YtnblhkhdilkbeaaCoreA
import Derived.Test.YtnblhkhdilkbeaaHead
import Derived.Deep.RegionHeld3
set_option linter.unusedSimpArgs false
set_option linter.unusedVariables false
set_option maxRecDepth 100000
namespace Go.Proofs.Ytnblhkhdilkbeaa
open Go.RowKit Go.ChangeShapes Go.WideShapes Go.ChangeAt

set_option maxHeartbeats 4000000 in
theorem FnExactResolventAt_walk (s0 : Int) (a0 : Option Addr) (n0 c0 : Nat) (xs0 : List (List Int)) (i1 : Int) (i2 : Int) (i3 : Int) (i4 : Int) (w : World) (h0 : RdR 0 w.heap.size w (.slice a0 n0 c0) xs0) (l0 : xs0.length = n0) (is0 : I64 s0) (is1 : I64 i1) (is2 : I64 i2) (is3 : I64 i3) (is4 : I64 i4) :
    Calls Try.prog 7 #[.agg #[.int .i64 s0, .slice a0 n0 c0], .int .i64 i1, .int .i64 i2, .int .i64 i3, .int .i64 i4] w fun e w' => e = .returned (.bool true) ∧ Below w.heap.size w w' := by
  have L0 := Lib.hid l0
  clear l0
  have S0 := Lib.hid is0
  clear is0
  have hB : Below w.heap.size w w := Below.refl _ _
  obtain ⟨y0, hy0⟩ : ∃ y, y = ((rsOf s0 xs0 i1 i2 i3 i4).1) := ⟨_, rfl⟩
  have Hy0 := Lib.hid hy0
  clear hy0
  obtain ⟨y1, hy1⟩ : ∃ y, y = ((rsOf s0 xs0 i1 i2 i3 i4).2) := ⟨_, rfl⟩
  have Hy1 := Lib.hid hy1
  clear hy1
  go_enter Try.func7, Try.ntmps7
  go_wp2_with fail
  refine calls_gen (fun W => Below w.heap.size w W ∧ w.heap.size < W.heap.size ∧ W.cell? ⟨w.heap.size, 0, none⟩ = some (.int .i64 s0) ∧ W.cell? ⟨w.heap.size, 1, none⟩ = some (.slice a0 n0 c0)) ⟨(Below.refl _ _).alloc (Nat.le_refl _) _, by simp, by go_simp, by go_simp⟩ ?_
  rintro W0 ⟨hB0, hz0, k0, k1⟩
  replace hB := hB.next hB0
  clear hB0
  refine (szG s0 a0 n0 c0 xs0 _ (by omega) (by omega) _ (h0.below hB) L0.out).mono ?_
  rintro e w1 ⟨⟨r1, hr1, rfl⟩, b1⟩
  replace k0 := b1.keep k0
  replace k1 := b1.keep k1
  replace hB := hB.next b1
  have hz1 := b1.size
  clear b1
  rcases hr1 with rfl | ⟨hr1, hq1⟩
  · go_wp2
    go_ret
    exact ⟨rfl, hB⟩
  have hl0 : lens xs0 ≤ 1048576 := by omega
  have HR1 := Lib.hid hq1
  clear hq1
  have hp1 : ¬ r1 < 0 := by omega
  have hpp1 : r1 ≤ 1048576 := by have := HR1.out; omega
  go_wp2_with fail
  refine (toG s0 a0 n0 c0 xs0 _ (h0.below hB) (by have := hB.size; omega)).mono ?_
  rintro e w2 ⟨a_2, c_2, rfl, o2, b2⟩
  replace k0 := b2.keep k0
  replace k1 := b2.keep k1
  replace hB := hB.next b2
  have hz2 := b2.size
  clear b2
  go_wp2_with fail
  refine (specRs s0 _ _ _ xs0 i1 i2 i3 i4 _ o2.rd rfl).mono ?_
  rw [← Hy0.out, ← Hy1.out]
  rintro e w3 ⟨rfl, b3⟩
  replace k0 := b3.keep k0
  replace k1 := b3.keep k1
  replace o2 := o2.below b3
  replace hB := hB.next b3
  have hz3 := b3.size
  clear b3
  clear o2
  go_wp2_with fail
  refine (toG s0 a0 n0 c0 xs0 _ (h0.below hB) (by have := hB.size; omega)).mono ?_
  rintro e w4 ⟨a_4, c_4, rfl, o4, b4⟩
  replace k0 := b4.keep k0
  replace k1 := b4.keep k1
  replace hB := hB.next b4
  have hz4 := b4.size
  clear b4
  go_wp2_with fail
  refine calls_gen (fun W => Below w4.heap.size w4 W ∧ w4.heap.size < W.heap.size ∧ W.cell? ⟨w4.heap.size, 0, none⟩ = some (.int .i64 s0) ∧ W.cell? ⟨w4.heap.size, 1, none⟩ = some (.slice a_4 xs0.length c_4)) ⟨(Below.refl _ _).alloc (Nat.le_refl _) _, by simp, by go_simp, by go_simp⟩ ?_
  rintro W4 ⟨bb, hzz4, j0, j1⟩
  replace k0 := bb.keep k0
  replace k1 := bb.keep k1
  replace o4 := o4.below bb
  replace hB := hB.next bb
  have hz4 := bb.size
  clear bb
  refine (implRs s0 _ _ _ xs0 i1 i2 i3 i4 _ o4.rd rfl).mono ?_
  rw [← Hy0.out, ← Hy1.out]
  rintro e w5 ⟨rfl, b5⟩
  replace k0 := b5.keep k0
  replace k1 := b5.keep k1
  replace j0 := b5.keep j0
  replace j1 := b5.keep j1
  replace o4 := o4.below b5
  replace hB := hB.next b5
  have hz5 := b5.size
  clear b5
  go_wp2
  have hsB := hB.size
  go_region_held3 (fun W' => Below w5.heap.size w5 W' ∧ W'.cell? ⟨w.heap.size, 0, none⟩ = some (.int .i64 s0) ∧ W'.cell? ⟨w.heap.size, 1, none⟩ = some (.slice a0 n0 c0) ∧ W'.cell? ⟨w4.heap.size, 0, none⟩ = some (.int .i64 s0) ∧ W'.cell? ⟨w4.heap.size, 1, none⟩ = some (.slice a_4 xs0.length c_4))
    (first | (exact ⟨(Below.refl _ _).drew, k0, k1, j0, j1⟩) | (go_split_ands; exact ⟨Below.next (by assumption) bx, bx.keep (by assumption), bx.keep (by assumption), bx.keep (by assumption), bx.keep (by assumption)⟩) | (go_split_ands; exact ⟨Below.next (by assumption) by1, by1.keep (by assumption), by1.keep (by assumption), by1.keep (by assumption), by1.keep (by assumption)⟩))
    (first | (go_at_call 20; go_split_ands; refine (toG' s0 a0 n0 c0 xs0 w5 _ (by assumption) (h0.below hB) hsB).mono ?_; rintro e wx ⟨ax, cx, rfl, ox, bx⟩) | (go_at_call 24; go_split_ands; refine (eqG1 s0 _ _ _ _ _ _ xs0 w5 _ (by assumption) o4.rd ox.rd).mono ?_; rintro e wy ⟨rfl, by1⟩))
  go_split_ands
  have bS : Below w5.heap.size w5 wy := by assumption
  clear ox bx by1
  replace k0 := bS.keep k0
  replace k1 := bS.keep k1
  replace j0 := bS.keep j0
  replace j1 := bS.keep j1
  replace o4 := o4.below bS
  replace hB := hB.next bS
  have hz6 := bS.size
  clear bS
  go_wp2
  go_ret
  exact ⟨rfl, hB⟩

set_option maxRecDepth 100000 in
theorem FnExactResolventAt_lifted (os : Os) (started : os.Started) (H : Type) (enc : TypeId × Value → H) :
    ReturnsInHanded {} Try.checked os 7 .any (Rows.fnExactResolventAtSpec.pre6 enc Try.prog Try.f7 Rows.fnExactResolventAtRow.domain false) (Rows.fnExactResolventAtSpec.post enc Try.prog Try.f7 false true false false) := by
  refine returnsInHanded_of_change_sized (C := Try.checked) own started (by kernel_rfl) Try.func7
    (ChangeSpec.witness6 (enc := enc) (C := Try.checked) false ⟨#[], #[.agg #[.int .i64 0, .slice none 0 0], .int .i64 0, .int .i64 0, .int .i64 0, .int .i64 0], []⟩ 8 (by kernel_rfl) (by kernel_rfl) (by kernel_rfl) (by kernel_rfl)) ?_
  intro W base args ds gs before hval0 hW _ hsz0 _
  have hsz : (DataW.weightsEach Try.prog (Try.f7.params.toList ++ Rows.fnExactResolventAtSpec.plain.varTypes Try.prog) (ds ++ gs)).all (· ≤ reachBytes) = true := hsz0
  clear hsz0
  have hval : ∀ (j : Nat) t v, Try.f7.params[j]? = some t → args[j]? = some v → Value.okWide Try.prog W .any base t v := hval0
  have hW' := hW
  obtain ⟨p, q, hA0, hV, rfl, _, _⟩ := hW
  have hA : DataW.TrodAll enc Try.prog W 0 (fun _ => true) true Try.f7.params.toList args.toList ds p := hA0
  rw [Try.params7] at hA hval hsz
  clear hA0 hval0
  obtain ⟨v0, vs0, d0, ds0, p0, q0, hargs0, rfl, rfl, h0, r0⟩ := trodAll_cons hA
  obtain ⟨v1, vs1, d1, ds1, p1, q1, hargs1, rfl, rfl, h1, r1⟩ := trodAll_cons r0
  obtain ⟨v2, vs2, d2, ds2, p2, q2, hargs2, rfl, rfl, h2, r2⟩ := trodAll_cons r1
  obtain ⟨v3, vs3, d3, ds3, p3, q3, hargs3, rfl, rfl, h3, r3⟩ := trodAll_cons r2
  obtain ⟨v4, vs4, d4, ds4, p4, q4, hargs4, rfl, rfl, h4, r4⟩ := trodAll_cons r3
  obtain ⟨rfl, rfl, rfl⟩ := trodAll_nil r4
  obtain rfl : args = #[v0, v1, v2, v3, v4] := by cases args; simp_all
  obtain ⟨rfl, rfl⟩ := trodVars_none hV
  simp only [List.append_nil] at hW'
  have hltW := hW'.lt
  have hlt0 : ∀ x ∈ p0, x.block < W.heap.size := fun x hx => by have := hW'.lt x (by simp [hx]); simpa using this
  have hwt0 : ∀ n ∈ d0.weights Try.prog 24, n ≤ reachBytes := fun n hn => by simpa using List.all_eq_true.1 hsz n (DataW.weights_mem_each (j := 0) rfl rfl n hn)
  obtain ⟨s0, a0, n0, c0, xs0, hv0, l0, rd0, is0⟩ := openG (hval 0 24 v0 rfl rfl) h0 hwt0
  have keepA0 : ∀ (W' : World), Below W.heap.size W W' → DataW.Trod enc Try.prog W' 0 (fun b => decide (b < W.heap.size)) true 24 v0 d0 p0 := fun W' hn => Below.trod laidOut (by kernel_rfl) (of_decide_eq_true (by kernel_rfl)) h0 hn hlt0
  obtain ⟨i1, rfl, rfl, rfl, w1⟩ := open_int Try.underlying2 (hval 1 2 v1 rfl rfl) h1
  obtain ⟨i2, rfl, rfl, rfl, w2⟩ := open_int Try.underlying2 (hval 2 2 v2 rfl rfl) h2
  obtain ⟨i3, rfl, rfl, rfl, w3⟩ := open_int Try.underlying2 (hval 3 2 v3 rfl rfl) h3
  obtain ⟨i4, rfl, rfl, rfl, w4⟩ := open_int Try.underlying2 (hval 4 2 v4 rfl rfl) h4
  subst hv0
  refine (FnExactResolventAt_walk s0 a0 n0 c0 xs0 i1 i2 i3 i4 W rd0 l0 is0 (wf_I64 w1) (wf_I64 w2) (wf_I64 w3) (wf_I64 w4)).mono fun e W' ⟨he, hb⟩ => ?_
  subst he
  exact ⟨_, rfl, _, _, _, [], _, [], hW', trodAll_mk1 (shut_bool Try.underlying4 _), (trodAll_cons_mk (keepA0 _ hb) (trodAll_cons_mk (shut_int Try.underlying2 w1) (trodAll_cons_mk (shut_int Try.underlying2 w2) (trodAll_cons_mk (shut_int Try.underlying2 w3) (trodAll_cons_mk (shut_int Try.underlying2 w4) trodAll_mk0))))), rfl, hb.frame _, fun h => by cases h⟩

theorem FnExactResolventAt_k1 : (Rows.fnExactResolventAtRow.inPlace == Try.prog.inPlace 7) = true := by kernel_rfl
theorem FnExactResolventAt_k2 : (Rows.fnExactResolventAtRow.unfollowed == Try.prog.unfollowed 7) = true := by kernel_rfl
theorem FnExactResolventAt_k3 : (Rows.fnExactResolventAtRow.recurses == Try.prog.recurses 7) = true := by kernel_rfl
theorem FnExactResolventAt_k4 : (Rows.fnExactResolventAtRow.named == Try.prog.varsNamed 7) = true := by kernel_rfl
set_option maxRecDepth 100000 in
theorem FnExactResolventAt_closed : joinedFacts Try.prog 7 Try.f7 Rows.fnExactResolventAtSpec Rows.fnExactResolventAtRow = true := by
  unfold joinedFacts
  rw [FnExactResolventAt_k1, FnExactResolventAt_k2, FnExactResolventAt_k3, FnExactResolventAt_k4, head_enter, head_lifts, head_make]
  show (_ : Bool) = true
  kernel_rfl


theorem FnExactResolventAt_holds : Rows.FnExactResolventAtSaid :=
  OpenClaim.holds_of_wide 7 Try.f7 rfl rfl rfl rfl rfl rfl rfl ⟨rfl, rfl, rfl, rfl, rfl⟩ rfl rfl rfl rfl rfl (by kernel_rfl) Try.func7 FnExactResolventAt_closed
    (of_decide_eq_true (by kernel_rfl)) (by unfold Func.isWrapper; first | (rw [if_pos (by decide +kernel)]; kernel_rfl) | (rw [if_neg (by decide +kernel)]; exact ⟨rfl, rfl⟩))
    (fun os started H enc _ => FnExactResolventAt_lifted os started H enc)


end Go.Proofs.Ytnblhkhdilkbeaa
