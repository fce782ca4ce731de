/- FnExactLineGraph: for all arguments the program's function answers as the model's, leaves its arguments alone, and its answers own their memory. No condition. -/
import Derived.Test.YtebgbplhcaocoaaLgS
import Derived.Test.YtebgbplhcaocoaaCoreA
import Derived.Test.YtebgbplhcaocoaaHead
import Derived.Deep.RegionHeld3
set_option linter.unusedSimpArgs false
set_option linter.unusedVariables false
set_option maxRecDepth 100000
namespace Go.Proofs.Ytebgbplhcaocoaa
open Go.RowKit Go.ChangeShapes Go.WideShapes Go.ChangeAt

set_option maxHeartbeats 4000000 in
theorem FnExactLineGraph_walk (s0 : Int) (a0 : Option Addr) (n0 c0 : Nat) (xs0 : List (List Int)) (w : World) (h0 : RdR 0 w.heap.size w (.slice a0 n0 c0) xs0) (l0 : xs0.length = n0) (is0 : I64 s0) :
    Calls Try.prog 8 #[.agg #[.int .i64 s0, .slice a0 n0 c0]] w fun e w' => e = .returned (.bool true) ∧ Below w.heap.size w w' := by
  have L0 := Lib.hid l0
  clear l0
  have S0 := Lib.hid is0
  clear is0
  have hB : Below w.heap.size w w := Below.refl _ _
  obtain ⟨ys0, hys0⟩ : ∃ y, y = ((lgOf s0 xs0).1.1) := ⟨_, rfl⟩
  obtain ⟨yr0, hyr0⟩ : ∃ y, y = ((lgOf s0 xs0).1.2) := ⟨_, rfl⟩
  have hlr0 := Lib.hid (lgOf_lens s0 xs0)
  rw [← hyr0] at hlr0
  have Hys0 := Lib.hid hys0
  clear hys0
  have Hyr0 := Lib.hid hyr0
  clear hyr0
  obtain ⟨y1, hy1⟩ : ∃ y, y = ((lgOf s0 xs0).2) := ⟨_, rfl⟩
  have Hy1 := Lib.hid hy1
  clear hy1
  go_enter Try.func8, Try.ntmps8
  go_wp2_with fail
  refine calls_gen (fun W => Below w.heap.size w W ∧ w.heap.size < W.heap.size ∧ W.cell? ⟨w.heap.size, 0, none⟩ = some (.int .i64 s0) ∧ W.cell? ⟨w.heap.size, 1, none⟩ = some (.slice a0 n0 c0)) ⟨(Below.refl _ _).alloc (Nat.le_refl _) _, by simp, by go_simp, by go_simp⟩ ?_
  rintro W0 ⟨hB0, hz0, k0, k1⟩
  replace hB := hB.next hB0
  clear hB0
  refine (szG s0 a0 n0 c0 xs0 _ (by omega) (by omega) _ (h0.below hB) L0.out).mono ?_
  rintro e w1 ⟨⟨r1, hr1, rfl⟩, b1⟩
  replace k0 := b1.keep k0
  replace k1 := b1.keep k1
  replace hB := hB.next b1
  have hz1 := b1.size
  clear b1
  rcases hr1 with rfl | ⟨hr1, hq1⟩
  · go_wp2
    go_ret
    exact ⟨rfl, hB⟩
  have hl0 : lens xs0 ≤ 1048576 := by omega
  have HR1 := Lib.hid hq1
  clear hq1
  have hp1 : ¬ r1 < 0 := by omega
  have hpp1 : r1 ≤ 1048576 := by have := HR1.out; omega
  go_wp2_with fail
  refine (toG s0 a0 n0 c0 xs0 _ (h0.below hB) (by have := hB.size; omega)).mono ?_
  rintro e w2 ⟨a_2, c_2, rfl, o2, b2⟩
  replace k0 := b2.keep k0
  replace k1 := b2.keep k1
  replace hB := hB.next b2
  have hz2 := b2.size
  clear b2
  go_wp2_with fail
  refine (specLg s0 _ _ _ xs0 _ o2.rd rfl).mono ?_
  rw [← Hys0.out, ← Hyr0.out, ← Hy1.out]
  rintro e w3 ⟨aw0, cw0, rfl, w0, b3⟩
  replace k0 := b3.keep k0
  replace k1 := b3.keep k1
  replace o2 := o2.below b3
  replace hB := hB.next b3
  have hz3 := b3.size
  clear b3
  clear o2
  have alk0 := fun o => ((Below.refl w3.heap.size w3).alloc (Nat.le_refl _) o).keep k0
  have alk1 := fun o => ((Below.refl w3.heap.size w3).alloc (Nat.le_refl _) o).keep k1
  go_wp2_with fail
  clear alk0 alk1
  refine calls_gen (fun W => Below w3.heap.size w3 W ∧ w3.heap.size < W.heap.size ∧ W.cell? ⟨w3.heap.size, 0, none⟩ = some (.int .i64 (ys0)) ∧ W.cell? ⟨w3.heap.size, 1, none⟩ = some (.slice aw0 (yr0).length cw0)) ⟨(Below.refl _ _).alloc (Nat.le_refl _) _, by simp, by go_simp, by go_simp⟩ ?_
  rintro W4 ⟨bb, hzz4, wj0, wj1⟩
  replace k0 := bb.keep k0
  replace k1 := bb.keep k1
  replace w0 := w0.below bb
  replace hB := hB.next bb
  have hz4 := bb.size
  clear bb
  refine (toG s0 a0 n0 c0 xs0 _ (h0.below hB) (by have := hB.size; omega)).mono ?_
  rintro e w5 ⟨a_5, c_5, rfl, o5, b5⟩
  replace k0 := b5.keep k0
  replace k1 := b5.keep k1
  replace wj0 := b5.keep wj0
  replace wj1 := b5.keep wj1
  replace w0 := w0.below b5
  replace hB := hB.next b5
  have hz5 := b5.size
  clear b5
  go_wp2_with fail
  refine calls_gen (fun W => Below w5.heap.size w5 W ∧ w5.heap.size < W.heap.size ∧ W.cell? ⟨w5.heap.size, 0, none⟩ = some (.int .i64 s0) ∧ W.cell? ⟨w5.heap.size, 1, none⟩ = some (.slice a_5 xs0.length c_5)) ⟨(Below.refl _ _).alloc (Nat.le_refl _) _, by simp, by go_simp, by go_simp⟩ ?_
  rintro W5 ⟨bb, hzz5, j0, j1⟩
  replace k0 := bb.keep k0
  replace k1 := bb.keep k1
  replace wj0 := bb.keep wj0
  replace wj1 := bb.keep wj1
  replace w0 := w0.below bb
  replace o5 := o5.below bb
  replace hB := hB.next bb
  have hz5 := bb.size
  clear bb
  refine (implLg s0 _ _ _ xs0 _ o5.rd rfl).mono ?_
  rw [← Hys0.out, ← Hyr0.out, ← Hy1.out]
  rintro e w6 ⟨ag0, cg0, rfl, g0, b6⟩
  replace k0 := b6.keep k0
  replace k1 := b6.keep k1
  replace wj0 := b6.keep wj0
  replace wj1 := b6.keep wj1
  replace j0 := b6.keep j0
  replace j1 := b6.keep j1
  replace w0 := w0.below b6
  replace o5 := o5.below b6
  replace hB := hB.next b6
  have hz6 := b6.size
  clear b6
  have alk0 := fun o => ((Below.refl w6.heap.size w6).alloc (Nat.le_refl _) o).keep k0
  have alk1 := fun o => ((Below.refl w6.heap.size w6).alloc (Nat.le_refl _) o).keep k1
  have alwj0 := fun o => ((Below.refl w6.heap.size w6).alloc (Nat.le_refl _) o).keep wj0
  have alwj1 := fun o => ((Below.refl w6.heap.size w6).alloc (Nat.le_refl _) o).keep wj1
  have alj0 := fun o => ((Below.refl w6.heap.size w6).alloc (Nat.le_refl _) o).keep j0
  have alj1 := fun o => ((Below.refl w6.heap.size w6).alloc (Nat.le_refl _) o).keep j1
  go_wp2_with fail
  clear alk0 alk1 alwj0 alwj1 alj0 alj1
  refine calls_gen (fun W => Below w6.heap.size w6 W ∧ w6.heap.size < W.heap.size ∧ W.cell? ⟨w6.heap.size, 0, none⟩ = some (.int .i64 (ys0)) ∧ W.cell? ⟨w6.heap.size, 1, none⟩ = some (.slice ag0 (yr0).length cg0)) ⟨(Below.refl _ _).alloc (Nat.le_refl _) _, by simp, by go_simp, by go_simp⟩ ?_
  rintro W7 ⟨bb, hzz7, gj0, gj1⟩
  replace k0 := bb.keep k0
  replace k1 := bb.keep k1
  replace wj0 := bb.keep wj0
  replace wj1 := bb.keep wj1
  replace j0 := bb.keep j0
  replace j1 := bb.keep j1
  replace w0 := w0.below bb
  replace o5 := o5.below bb
  replace g0 := g0.below bb
  replace hB := hB.next bb
  have hz7 := bb.size
  clear bb
  refine (eqG1 _ _ _ _ _ _ _ _ _ _ (Below.refl _ _) g0.rd w0.rd).mono ?_
  rintro e w8 ⟨rfl, q8⟩
  replace k0 := q8.keep k0
  replace k1 := q8.keep k1
  replace wj0 := q8.keep wj0
  replace wj1 := q8.keep wj1
  replace j0 := q8.keep j0
  replace j1 := q8.keep j1
  replace gj0 := q8.keep gj0
  replace gj1 := q8.keep gj1
  replace w0 := w0.below q8
  replace o5 := o5.below q8
  replace g0 := g0.below q8
  replace hB := hB.next q8
  have hz8 := q8.size
  clear q8
  go_wp2
  have hsB := hB.size
  go_region_held3 (fun W' => Below w8.heap.size w8 W' ∧ W'.cell? ⟨w.heap.size, 0, none⟩ = some (.int .i64 s0) ∧ W'.cell? ⟨w.heap.size, 1, none⟩ = some (.slice a0 n0 c0) ∧ W'.cell? ⟨w5.heap.size, 0, none⟩ = some (.int .i64 s0) ∧ W'.cell? ⟨w5.heap.size, 1, none⟩ = some (.slice a_5 xs0.length c_5))
    (first | (exact ⟨(Below.refl _ _).drew, k0, k1, j0, j1⟩) | (go_split_ands; exact ⟨Below.next (by assumption) bx, bx.keep (by assumption), bx.keep (by assumption), bx.keep (by assumption), bx.keep (by assumption)⟩) | (go_split_ands; exact ⟨Below.next (by assumption) by1, by1.keep (by assumption), by1.keep (by assumption), by1.keep (by assumption), by1.keep (by assumption)⟩))
    (first | (go_at_call 19; go_split_ands; refine (toG' s0 a0 n0 c0 xs0 w8 _ (by assumption) (h0.below hB) hsB).mono ?_; rintro e wx ⟨ax, cx, rfl, ox, bx⟩) | (go_at_call 22; go_split_ands; refine (eqG1 s0 _ _ _ _ _ _ xs0 w8 _ (by assumption) o5.rd ox.rd).mono ?_; rintro e wy ⟨rfl, by1⟩))
  go_split_ands
  have bS : Below w8.heap.size w8 wy := by assumption
  clear ox bx by1
  replace k0 := bS.keep k0
  replace k1 := bS.keep k1
  replace wj0 := bS.keep wj0
  replace wj1 := bS.keep wj1
  replace j0 := bS.keep j0
  replace j1 := bS.keep j1
  replace gj0 := bS.keep gj0
  replace gj1 := bS.keep gj1
  replace w0 := w0.below bS
  replace o5 := o5.below bS
  replace g0 := g0.below bS
  replace hB := hB.next bS
  have hz9 := bS.size
  clear bS
  go_wp2_with fail
  refine (markG s0 _ _ _ xs0 _ _ o5 (by omega) (by omega) (by omega)).mono ?_
  clear o5
  rintro e w10 ⟨rfl, -, ch10⟩
  replace k0 := ch10.cell k0 (by simp <;> omega)
  replace k1 := ch10.cell k1 (by simp <;> omega)
  replace wj0 := ch10.cell wj0 (by simp <;> omega)
  replace wj1 := ch10.cell wj1 (by simp <;> omega)
  replace j0 := ch10.cell j0 (by simp <;> omega)
  replace j1 := ch10.cell j1 (by simp <;> omega)
  replace gj0 := ch10.cell gj0 (by simp <;> omega)
  replace gj1 := ch10.cell gj1 (by simp <;> omega)
  replace w0 := w0.chg ch10 (by omega)
  replace g0 := g0.chg ch10 (by omega)
  replace hB := hB.chgn ch10 (by omega) hB.size
  have hz10 := ch10.size
  clear ch10
  go_wp2_with fail
  refine (eqG1 _ _ _ _ _ _ _ _ _ _ (Below.refl _ _) g0.rd w0.rd).mono ?_
  rintro e w11 ⟨rfl, q11⟩
  replace k0 := q11.keep k0
  replace k1 := q11.keep k1
  replace wj0 := q11.keep wj0
  replace wj1 := q11.keep wj1
  replace j0 := q11.keep j0
  replace j1 := q11.keep j1
  replace gj0 := q11.keep gj0
  replace gj1 := q11.keep gj1
  replace w0 := w0.below q11
  replace g0 := g0.below q11
  replace hB := hB.next q11
  have hz11 := q11.size
  clear q11
  go_wp2_with fail
  refine (markG _ _ _ _ _ _ _ g0 (by omega) (by have := hlr0.out; omega) (by omega)).mono ?_
  clear g0
  rintro e w12 ⟨rfl, g0, ch12⟩
  replace k0 := ch12.cell k0 (by simp <;> omega)
  replace k1 := ch12.cell k1 (by simp <;> omega)
  replace wj0 := ch12.cell wj0 (by simp <;> omega)
  replace wj1 := ch12.cell wj1 (by simp <;> omega)
  replace j0 := ch12.cell j0 (by simp <;> omega)
  replace j1 := ch12.cell j1 (by simp <;> omega)
  replace gj0 := ch12.cell gj0 (by simp <;> omega)
  replace gj1 := ch12.cell gj1 (by simp <;> omega)
  replace w0 := w0.chg ch12 (by omega)
  replace hB := hB.chgn ch12 (by omega) hB.size
  have hz12 := ch12.size
  clear ch12
  go_wp2_with fail
  refine (heldG _ _ _ _ _ _ _ g0.rd (by omega) (by have := hlr0.out; omega)).mono ?_
  rintro e w13 ⟨rfl, q13⟩
  replace k0 := q13.keep k0
  replace k1 := q13.keep k1
  replace wj0 := q13.keep wj0
  replace wj1 := q13.keep wj1
  replace j0 := q13.keep j0
  replace j1 := q13.keep j1
  replace gj0 := q13.keep gj0
  replace gj1 := q13.keep gj1
  replace w0 := w0.below q13
  replace g0 := g0.below q13
  replace hB := hB.next q13
  have hz13 := q13.size
  clear q13
  have hnn0 : ¬ ((1 : Int) + (lens (yr0) : Int) < 0) := by omega
  go_wp2_with fail
  refine (toG s0 a0 n0 c0 xs0 _ (h0.below hB) (by have := hB.size; omega)).mono ?_
  rintro e w14 ⟨a_14, c_14, rfl, o14, b14⟩
  replace k0 := b14.keep k0
  replace k1 := b14.keep k1
  replace wj0 := b14.keep wj0
  replace wj1 := b14.keep wj1
  replace j0 := b14.keep j0
  replace j1 := b14.keep j1
  replace gj0 := b14.keep gj0
  replace gj1 := b14.keep gj1
  replace w0 := w0.below b14
  replace g0 := g0.below b14
  replace hB := hB.next b14
  have hz14 := b14.size
  clear b14
  go_wp2_with fail
  refine (implLg s0 _ _ _ xs0 _ o14.rd rfl).mono ?_
  rw [← Hys0.out, ← Hyr0.out, ← Hy1.out]
  rintro e w15 ⟨ah0, ch0, rfl, h0, b15⟩
  replace k0 := b15.keep k0
  replace k1 := b15.keep k1
  replace wj0 := b15.keep wj0
  replace wj1 := b15.keep wj1
  replace j0 := b15.keep j0
  replace j1 := b15.keep j1
  replace gj0 := b15.keep gj0
  replace gj1 := b15.keep gj1
  replace w0 := w0.below b15
  replace g0 := g0.below b15
  replace o14 := o14.below b15
  replace hB := hB.next b15
  have hz15 := b15.size
  clear b15
  clear o14
  have alk0 := fun o => ((Below.refl w15.heap.size w15).alloc (Nat.le_refl _) o).keep k0
  have alk1 := fun o => ((Below.refl w15.heap.size w15).alloc (Nat.le_refl _) o).keep k1
  have alwj0 := fun o => ((Below.refl w15.heap.size w15).alloc (Nat.le_refl _) o).keep wj0
  have alwj1 := fun o => ((Below.refl w15.heap.size w15).alloc (Nat.le_refl _) o).keep wj1
  have alj0 := fun o => ((Below.refl w15.heap.size w15).alloc (Nat.le_refl _) o).keep j0
  have alj1 := fun o => ((Below.refl w15.heap.size w15).alloc (Nat.le_refl _) o).keep j1
  have algj0 := fun o => ((Below.refl w15.heap.size w15).alloc (Nat.le_refl _) o).keep gj0
  have algj1 := fun o => ((Below.refl w15.heap.size w15).alloc (Nat.le_refl _) o).keep gj1
  go_wp2_with fail
  clear alk0 alk1 alwj0 alwj1 alj0 alj1 algj0 algj1
  refine calls_gen (fun W => Below w15.heap.size w15 W ∧ w15.heap.size < W.heap.size ∧ W.cell? ⟨w15.heap.size, 0, none⟩ = some (.int .i64 (ys0)) ∧ W.cell? ⟨w15.heap.size, 1, none⟩ = some (.slice ah0 (yr0).length ch0)) ⟨(Below.refl _ _).alloc (Nat.le_refl _) _, by simp, by go_simp, by go_simp⟩ ?_
  rintro W16 ⟨bb, hzz16, hj0, hj1⟩
  replace k0 := bb.keep k0
  replace k1 := bb.keep k1
  replace wj0 := bb.keep wj0
  replace wj1 := bb.keep wj1
  replace j0 := bb.keep j0
  replace j1 := bb.keep j1
  replace gj0 := bb.keep gj0
  replace gj1 := bb.keep gj1
  replace w0 := w0.below bb
  replace g0 := g0.below bb
  replace h0 := h0.below bb
  replace hB := hB.next bb
  have hz16 := bb.size
  clear bb
  refine (eqG1 _ _ _ _ _ _ _ _ _ _ (Below.refl _ _) h0.rd w0.rd).mono ?_
  rintro e w17 ⟨rfl, q17⟩
  replace k0 := q17.keep k0
  replace k1 := q17.keep k1
  replace wj0 := q17.keep wj0
  replace wj1 := q17.keep wj1
  replace j0 := q17.keep j0
  replace j1 := q17.keep j1
  replace gj0 := q17.keep gj0
  replace gj1 := q17.keep gj1
  replace hj0 := q17.keep hj0
  replace hj1 := q17.keep hj1
  replace w0 := w0.below q17
  replace g0 := g0.below q17
  replace h0 := h0.below q17
  replace hB := hB.next q17
  have hz17 := q17.size
  clear q17
  go_wp2_with fail
  refine (heldG _ _ _ _ _ _ _ g0.rd (by omega) (by have := hlr0.out; omega)).mono ?_
  rintro e w18 ⟨rfl, q18⟩
  replace k0 := q18.keep k0
  replace k1 := q18.keep k1
  replace wj0 := q18.keep wj0
  replace wj1 := q18.keep wj1
  replace j0 := q18.keep j0
  replace j1 := q18.keep j1
  replace gj0 := q18.keep gj0
  replace gj1 := q18.keep gj1
  replace hj0 := q18.keep hj0
  replace hj1 := q18.keep hj1
  replace w0 := w0.below q18
  replace g0 := g0.below q18
  replace h0 := h0.below q18
  replace hB := hB.next q18
  have hz18 := q18.size
  clear q18
  go_wp2
  go_ret
  exact ⟨rfl, hB⟩

set_option maxRecDepth 100000 in
theorem FnExactLineGraph_lifted (os : Os) (started : os.Started) (H : Type) (enc : TypeId × Value → H) :
    ReturnsInHanded {} Try.checked os 8 .any (Rows.fnExactLineGraphSpec.pre6 enc Try.prog Try.f8 Rows.fnExactLineGraphRow.domain false) (Rows.fnExactLineGraphSpec.post enc Try.prog Try.f8 false true false false) := by
  refine returnsInHanded_of_change_sized (C := Try.checked) own started (by kernel_rfl) Try.func8
    (ChangeSpec.witness6 (enc := enc) (C := Try.checked) false ⟨#[], #[.agg #[.int .i64 0, .slice none 0 0]], []⟩ 8 (by kernel_rfl) (by kernel_rfl) (by kernel_rfl) (by kernel_rfl)) ?_
  intro W base args ds gs before hval0 hW _ hsz0 _
  have hsz : (DataW.weightsEach Try.prog (Try.f8.params.toList ++ Rows.fnExactLineGraphSpec.plain.varTypes Try.prog) (ds ++ gs)).all (· ≤ reachBytes) = true := hsz0
  clear hsz0
  have hval : ∀ (j : Nat) t v, Try.f8.params[j]? = some t → args[j]? = some v → Value.okWide Try.prog W .any base t v := hval0
  have hW' := hW
  obtain ⟨p, q, hA0, hV, rfl, _, _⟩ := hW
  have hA : DataW.TrodAll enc Try.prog W 0 (fun _ => true) true Try.f8.params.toList args.toList ds p := hA0
  rw [Try.params8] at hA hval hsz
  clear hA0 hval0
  obtain ⟨v0, vs0, d0, ds0, p0, q0, hargs0, rfl, rfl, h0, r0⟩ := trodAll_cons hA
  obtain ⟨rfl, rfl, rfl⟩ := trodAll_nil r0
  obtain rfl : args = #[v0] := by cases args; simp_all
  obtain ⟨rfl, rfl⟩ := trodVars_none hV
  simp only [List.append_nil] at hW'
  have hltW := hW'.lt
  have hlt0 : ∀ x ∈ p0, x.block < W.heap.size := fun x hx => by have := hW'.lt x (by simp [hx]); simpa using this
  have hwt0 : ∀ n ∈ d0.weights Try.prog 24, n ≤ reachBytes := fun n hn => by simpa using List.all_eq_true.1 hsz n (DataW.weights_mem_each (j := 0) rfl rfl n hn)
  obtain ⟨s0, a0, n0, c0, xs0, hv0, l0, rd0, is0⟩ := openG (hval 0 24 v0 rfl rfl) h0 hwt0
  have keepA0 : ∀ (W' : World), Below W.heap.size W W' → DataW.Trod enc Try.prog W' 0 (fun b => decide (b < W.heap.size)) true 24 v0 d0 p0 := fun W' hn => Below.trod laidOut (by kernel_rfl) (of_decide_eq_true (by kernel_rfl)) h0 hn hlt0
  subst hv0
  refine (FnExactLineGraph_walk s0 a0 n0 c0 xs0 W rd0 l0 is0).mono fun e W' ⟨he, hb⟩ => ?_
  subst he
  exact ⟨_, rfl, _, _, _, [], _, [], hW', trodAll_mk1 (shut_bool Try.underlying4 _), (trodAll_cons_mk (keepA0 _ hb) trodAll_mk0), rfl, hb.frame _, fun h => by cases h⟩

theorem FnExactLineGraph_k1 : (Rows.fnExactLineGraphRow.inPlace == Try.prog.inPlace 8) = true := by kernel_rfl
theorem FnExactLineGraph_k2 : (Rows.fnExactLineGraphRow.unfollowed == Try.prog.unfollowed 8) = true := by kernel_rfl
theorem FnExactLineGraph_k3 : (Rows.fnExactLineGraphRow.recurses == Try.prog.recurses 8) = true := by kernel_rfl
theorem FnExactLineGraph_k4 : (Rows.fnExactLineGraphRow.named == Try.prog.varsNamed 8) = true := by kernel_rfl
set_option maxRecDepth 100000 in
theorem FnExactLineGraph_closed : joinedFacts Try.prog 8 Try.f8 Rows.fnExactLineGraphSpec Rows.fnExactLineGraphRow = true := by
  unfold joinedFacts
  rw [FnExactLineGraph_k1, FnExactLineGraph_k2, FnExactLineGraph_k3, FnExactLineGraph_k4, head_enter, head_lifts, head_make]
  show (_ : Bool) = true
  kernel_rfl


theorem FnExactLineGraph_holds : Rows.FnExactLineGraphSaid :=
  OpenClaim.holds_of_wide 8 Try.f8 rfl rfl rfl rfl rfl rfl rfl ⟨rfl, rfl, rfl, rfl, rfl⟩ rfl rfl rfl rfl rfl (by kernel_rfl) Try.func8 FnExactLineGraph_closed
    (of_decide_eq_true (by kernel_rfl)) (by unfold Func.isWrapper; first | (rw [if_pos (by decide +kernel)]; kernel_rfl) | (rw [if_neg (by decide +kernel)]; exact ⟨rfl, rfl⟩))
    (fun os started H enc _ => FnExactLineGraph_lifted os started H enc)


end Go.Proofs.Ytebgbplhcaocoaa
