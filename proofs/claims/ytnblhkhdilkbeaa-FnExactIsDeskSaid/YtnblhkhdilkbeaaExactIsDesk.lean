/- FnExactIsDesk: for all arguments the program's function answers as the model's, leaves its arguments alone, and its answers own their memory. No condition. -/
import Derived.Test.YtnblhkhdilkbeaaDkIs
import Derived.Test.YtnblhkhdilkbeaaHead
import Derived.Test.YtnblhkhdilkbeaaRowD
import Derived.Deep.RegionHeld3
set_option linter.unusedSimpArgs false
set_option linter.unusedVariables false
set_option maxRecDepth 100000
namespace Go.Proofs.Ytnblhkhdilkbeaa
open Go.RowKit Go.ChangeShapes Go.WideShapes Go.ChangeAt

set_option maxHeartbeats 4000000 in
theorem FnExactIsDesk_walk (s0 : Int) (a0 : Option Addr) (n0 c0 : Nat) (xs0 : List (List Int)) (sa0 : Option Addr) (sn0 sc0 : Nat) (ss0 : List Int) (ta0 : Option Addr) (tn0 tc0 : Nat) (ts0 : List Int) (w : World) (h0 : RdR 0 w.heap.size w (.slice a0 n0 c0) xs0) (l0 : xs0.length = n0) (is0 : I64 s0) (h0s : RdI 0 w.heap.size w (.slice sa0 sn0 sc0) ss0) (l0s : ss0.length = sn0) (h0t : RdI 0 w.heap.size w (.slice ta0 tn0 tc0) ts0) (l0t : ts0.length = tn0) :
    Calls Try.prog 3 #[.agg #[.int .i64 s0, .slice a0 n0 c0, .slice sa0 sn0 sc0, .slice ta0 tn0 tc0]] w fun e w' => e = .returned (.bool true) ∧ Below w.heap.size w w' := by
  have S0 := Lib.hid is0
  clear is0
  have L0 := Lib.hid l0
  clear l0
  have L0s := Lib.hid l0s
  clear l0s
  have L0t := Lib.hid l0t
  clear l0t
  have hB : Below w.heap.size w w := Below.refl _ _
  obtain ⟨y0, hy0⟩ : ∃ y, y = (dkOf s0 xs0 ss0 ts0) := ⟨_, rfl⟩
  have Hy0 := Lib.hid hy0
  clear hy0
  have hne0 : (y0 != y0) = false := by cases y0 <;> rfl
  go_enter Try.func3, Try.ntmps3
  go_wp2_with fail
  refine calls_gen (fun W => Below w.heap.size w W ∧ w.heap.size < W.heap.size ∧ W.cell? ⟨w.heap.size, 0, none⟩ = some (.int .i64 s0) ∧ W.cell? ⟨w.heap.size, 1, none⟩ = some (.slice a0 n0 c0) ∧ W.cell? ⟨w.heap.size, 2, none⟩ = some (.slice sa0 sn0 sc0) ∧ W.cell? ⟨w.heap.size, 3, none⟩ = some (.slice ta0 tn0 tc0)) ⟨(Below.refl _ _).alloc (Nat.le_refl _) _, by simp, by go_simp, by go_simp, by go_simp, by go_simp⟩ ?_
  rintro W0 ⟨hB0, hz0, k0, k1, k2, k3⟩
  replace hB := hB.next hB0
  clear hB0
  refine (szD s0 a0 n0 c0 xs0 sa0 sn0 sc0 ss0 ta0 tn0 tc0 ts0 _ (by omega) (by omega) _ (h0.below hB) L0.out (h0s.below hB) (h0t.below hB)).mono ?_
  rintro e w1 ⟨⟨r1, hr1, rfl⟩, b1⟩
  replace k0 := b1.keep k0
  replace k1 := b1.keep k1
  replace k2 := b1.keep k2
  replace k3 := b1.keep k3
  replace hB := hB.next b1
  have hzb1 := b1.size
  clear b1
  rcases hr1 with rfl | ⟨hr1, hq1⟩
  · go_wp2
    go_ret
    exact ⟨rfl, hB⟩
  have hl0 : lens xs0 ≤ 1048576 := by omega
  have HR1 := Lib.hid hq1
  clear hq1
  have hp1 : ¬ r1 < 0 := by omega
  have hpp1 : r1 ≤ 1048576 := by have := HR1.out; omega
  go_wp2_with fail
  refine (toD s0 a0 n0 c0 xs0 sa0 sn0 sc0 ss0 ta0 tn0 tc0 ts0 _ (h0.below hB) (by have := hB.size; omega) (h0s.below hB) (h0t.below hB)).mono ?_
  rintro e w2 ⟨a_2, c_2, sa_2, sc_2, ta_2, tc_2, mm2, rfl, hm2a, hm2b, o2, o2s, o2t, b2⟩
  replace k0 := b2.keep k0
  replace k1 := b2.keep k1
  replace k2 := b2.keep k2
  replace k3 := b2.keep k3
  replace hB := hB.next b2
  have hzb2 := b2.size
  clear b2
  go_wp2_with fail
  refine (specDk s0 _ _ _ xs0 _ _ _ ss0 _ _ _ ts0 _ o2.rd rfl o2s.rd rfl o2t.rd rfl).mono ?_
  rw [← Hy0.out]
  rintro e w3 ⟨rfl, b3⟩
  replace k0 := b3.keep k0
  replace k1 := b3.keep k1
  replace k2 := b3.keep k2
  replace k3 := b3.keep k3
  replace o2 := o2.below b3
  replace o2s := o2s.below b3
  replace o2t := o2t.below b3
  replace hB := hB.next b3
  have hzb3 := b3.size
  clear b3
  clear o2 o2s o2t
  go_wp2_with fail
  refine (toD s0 a0 n0 c0 xs0 sa0 sn0 sc0 ss0 ta0 tn0 tc0 ts0 _ (h0.below hB) (by have := hB.size; omega) (h0s.below hB) (h0t.below hB)).mono ?_
  rintro e w4 ⟨a_4, c_4, sa_4, sc_4, ta_4, tc_4, mm4, rfl, hm4a, hm4b, o4, o4s, o4t, b4⟩
  replace k0 := b4.keep k0
  replace k1 := b4.keep k1
  replace k2 := b4.keep k2
  replace k3 := b4.keep k3
  replace hB := hB.next b4
  have hzb4 := b4.size
  clear b4
  go_wp2_with fail
  refine calls_gen (fun W => Below w4.heap.size w4 W ∧ w4.heap.size < W.heap.size ∧ W.cell? ⟨w4.heap.size, 0, none⟩ = some (.int .i64 s0) ∧ W.cell? ⟨w4.heap.size, 1, none⟩ = some (.slice a_4 xs0.length c_4) ∧ W.cell? ⟨w4.heap.size, 2, none⟩ = some (.slice sa_4 ss0.length sc_4) ∧ W.cell? ⟨w4.heap.size, 3, none⟩ = some (.slice ta_4 ts0.length tc_4)) ⟨(Below.refl _ _).alloc (Nat.le_refl _) _, by simp, by go_simp, by go_simp, by go_simp, by go_simp⟩ ?_
  rintro W4 ⟨bb, hzz4, j0, j1, j2, j3⟩
  replace k0 := bb.keep k0
  replace k1 := bb.keep k1
  replace k2 := bb.keep k2
  replace k3 := bb.keep k3
  replace o4 := o4.below bb
  replace o4s := o4s.below bb
  replace o4t := o4t.below bb
  replace hB := hB.next bb
  have hzbb := bb.size
  clear bb
  refine (implDk s0 _ _ _ xs0 _ _ _ ss0 _ _ _ ts0 _ o4.rd rfl o4s.rd rfl o4t.rd rfl).mono ?_
  rw [← Hy0.out]
  rintro e w5 ⟨rfl, b5⟩
  replace k0 := b5.keep k0
  replace k1 := b5.keep k1
  replace k2 := b5.keep k2
  replace k3 := b5.keep k3
  replace j0 := b5.keep j0
  replace j1 := b5.keep j1
  replace j2 := b5.keep j2
  replace j3 := b5.keep j3
  replace o4 := o4.below b5
  replace o4s := o4s.below b5
  replace o4t := o4t.below b5
  replace hB := hB.next b5
  have hzb5 := b5.size
  clear b5
  go_wp2
  have hsB := hB.size
  go_region_held3 (fun W' => Below w5.heap.size w5 W' ∧ W'.cell? ⟨w.heap.size, 0, none⟩ = some (.int .i64 s0) ∧ W'.cell? ⟨w.heap.size, 1, none⟩ = some (.slice a0 n0 c0) ∧ W'.cell? ⟨w.heap.size, 2, none⟩ = some (.slice sa0 sn0 sc0) ∧ W'.cell? ⟨w.heap.size, 3, none⟩ = some (.slice ta0 tn0 tc0) ∧ W'.cell? ⟨w4.heap.size, 0, none⟩ = some (.int .i64 s0) ∧ W'.cell? ⟨w4.heap.size, 1, none⟩ = some (.slice a_4 xs0.length c_4) ∧ W'.cell? ⟨w4.heap.size, 2, none⟩ = some (.slice sa_4 ss0.length sc_4) ∧ W'.cell? ⟨w4.heap.size, 3, none⟩ = some (.slice ta_4 ts0.length tc_4))
    (first | (exact ⟨(Below.refl _ _).drew, k0, k1, k2, k3, j0, j1, j2, j3⟩) | (go_split_ands; exact ⟨Below.next (by assumption) bx, bx.keep (by assumption), bx.keep (by assumption), bx.keep (by assumption), bx.keep (by assumption), bx.keep (by assumption), bx.keep (by assumption), bx.keep (by assumption), bx.keep (by assumption)⟩) | (go_split_ands; exact ⟨Below.next (by assumption) by1, by1.keep (by assumption), by1.keep (by assumption), by1.keep (by assumption), by1.keep (by assumption), by1.keep (by assumption), by1.keep (by assumption), by1.keep (by assumption), by1.keep (by assumption)⟩))
    (first | (go_at_call 15; go_split_ands; refine (toD' s0 a0 n0 c0 xs0 sa0 sn0 sc0 ss0 ta0 tn0 tc0 ts0 w5 _ (by assumption) (h0.below hB) hsB (h0s.below hB) (h0t.below hB)).mono ?_; rintro e wx ⟨ax, cx, sax, scx, tax, tcx, mx, rfl, hmx, hmy, ox, oxs, oxt, bx⟩) | (go_at_call 17; go_split_ands; refine (eqD1 s0 _ _ _ _ _ _ xs0 _ _ _ _ _ _ ss0 _ _ _ _ _ _ ts0 w5 _ (by assumption) o4.rd o4s.rd o4t.rd ox.rd oxs.rd oxt.rd).mono ?_; rintro e wy ⟨rfl, by1⟩))
  go_split_ands
  have bS : Below w5.heap.size w5 wy := by assumption
  clear ox oxs oxt bx by1
  replace k0 := bS.keep k0
  replace k1 := bS.keep k1
  replace k2 := bS.keep k2
  replace k3 := bS.keep k3
  replace j0 := bS.keep j0
  replace j1 := bS.keep j1
  replace j2 := bS.keep j2
  replace j3 := bS.keep j3
  replace o4 := o4.below bS
  replace o4s := o4s.below bS
  replace o4t := o4t.below bS
  replace hB := hB.next bS
  have hzbS := bS.size
  clear bS
  go_wp2
  go_ret
  exact ⟨rfl, hB⟩
  
set_option maxRecDepth 100000 in
theorem FnExactIsDesk_lifted (os : Os) (started : os.Started) (H : Type) (enc : TypeId × Value → H) :
    ReturnsInHanded {} Try.checked os 3 .any (Rows.fnExactIsDeskSpec.pre6 enc Try.prog Try.f3 Rows.fnExactIsDeskRow.domain false) (Rows.fnExactIsDeskSpec.post enc Try.prog Try.f3 false true false false) := by
  refine returnsInHanded_of_change_sized (C := Try.checked) own started (by kernel_rfl) Try.func3
    (ChangeSpec.witness6 (enc := enc) (C := Try.checked) false ⟨#[], #[.agg #[.int .i64 0, .slice none 0 0, .slice none 0 0, .slice none 0 0]], []⟩ 8 (by kernel_rfl) (by kernel_rfl) (by kernel_rfl) (by kernel_rfl)) ?_
  intro W base args ds gs before hval0 hW _ hsz0 _
  have hsz : (DataW.weightsEach Try.prog (Try.f3.params.toList ++ Rows.fnExactIsDeskSpec.plain.varTypes Try.prog) (ds ++ gs)).all (· ≤ reachBytes) = true := hsz0
  clear hsz0
  have hval : ∀ (j : Nat) t v, Try.f3.params[j]? = some t → args[j]? = some v → Value.okWide Try.prog W .any base t v := hval0
  have hW' := hW
  obtain ⟨p, q, hA0, hV, rfl, _, _⟩ := hW
  have hA : DataW.TrodAll enc Try.prog W 0 (fun _ => true) true Try.f3.params.toList args.toList ds p := hA0
  rw [Try.params3] at hA hval hsz
  clear hA0 hval0
  obtain ⟨v0, vs0, d0, ds0, p0, q0, hargs0, rfl, rfl, h0, r0⟩ := trodAll_cons hA
  obtain ⟨rfl, rfl, rfl⟩ := trodAll_nil r0
  obtain rfl : args = #[v0] := by cases args; simp_all
  obtain ⟨rfl, rfl⟩ := trodVars_none hV
  simp only [List.append_nil] at hW'
  have hltW := hW'.lt
  have hlt0 : ∀ x ∈ p0, x.block < W.heap.size := fun x hx => by have := hW'.lt x (by simp [hx]); simpa using this
  have hwt0 : ∀ n ∈ d0.weights Try.prog 27, n ≤ reachBytes := fun n hn => by simpa using List.all_eq_true.1 hsz n (DataW.weights_mem_each (j := 0) rfl rfl n hn)
  obtain ⟨s0, a0, n0, c0, xs0, sa0, sn0, sc0, ss0, ta0, tn0, tc0, ts0, hv0, l0, rd0, is0, l0s, rd0s, l0t, rd0t⟩ := openD (hval 0 27 v0 rfl rfl) h0 hwt0
  have keepA0 : ∀ (W' : World), Below W.heap.size W W' → DataW.Trod enc Try.prog W' 0 (fun b => decide (b < W.heap.size)) true 27 v0 d0 p0 := fun W' hn => Below.trod laidOut (by kernel_rfl) (of_decide_eq_true (by kernel_rfl)) h0 hn hlt0
  subst hv0
  refine (FnExactIsDesk_walk s0 a0 n0 c0 xs0 sa0 sn0 sc0 ss0 ta0 tn0 tc0 ts0 W rd0 l0 is0 rd0s l0s rd0t l0t).mono fun e W' ⟨he, hb⟩ => ?_
  subst he
  exact ⟨_, rfl, _, _, _, [], _, [], hW', trodAll_mk1 (shut_bool Try.underlying4 _), (trodAll_cons_mk (keepA0 _ hb) trodAll_mk0), rfl, hb.frame _, fun h => by cases h⟩

theorem FnExactIsDesk_k1 : (Rows.fnExactIsDeskRow.inPlace == Try.prog.inPlace 3) = true := by kernel_rfl
theorem FnExactIsDesk_k2 : (Rows.fnExactIsDeskRow.unfollowed == Try.prog.unfollowed 3) = true := by kernel_rfl
theorem FnExactIsDesk_k3 : (Rows.fnExactIsDeskRow.recurses == Try.prog.recurses 3) = true := by kernel_rfl
theorem FnExactIsDesk_k4 : (Rows.fnExactIsDeskRow.named == Try.prog.varsNamed 3) = true := by kernel_rfl
set_option maxRecDepth 100000 in
theorem FnExactIsDesk_closed : joinedFacts Try.prog 3 Try.f3 Rows.fnExactIsDeskSpec Rows.fnExactIsDeskRow = true := by
  unfold joinedFacts
  rw [FnExactIsDesk_k1, FnExactIsDesk_k2, FnExactIsDesk_k3, FnExactIsDesk_k4, head_enter, head_lifts, head_make]
  show (_ : Bool) = true
  kernel_rfl


theorem FnExactIsDesk_holds : Rows.FnExactIsDeskSaid :=
  OpenClaim.holds_of_wide 3 Try.f3 rfl rfl rfl rfl rfl rfl rfl ⟨rfl, rfl, rfl, rfl, rfl⟩ rfl rfl rfl rfl rfl (by kernel_rfl) Try.func3 FnExactIsDesk_closed
    (of_decide_eq_true (by kernel_rfl)) (by unfold Func.isWrapper; first | (rw [if_pos (by decide +kernel)]; kernel_rfl) | (rw [if_neg (by decide +kernel)]; exact ⟨rfl, rfl⟩))
    (fun os started H enc _ => FnExactIsDesk_lifted os started H enc)


end Go.Proofs.Ytnblhkhdilkbeaa
