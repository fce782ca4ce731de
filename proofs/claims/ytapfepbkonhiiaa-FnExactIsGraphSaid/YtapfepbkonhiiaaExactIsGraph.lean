/- FnExactIsGraph: for every graph value the program's IsGraph answers as the model's, and leaves its argument alone. No condition. -/
import Derived.Test.YtapfepbkonhiiaaIsGraph3
import Derived.Test.YtapfepbkonhiiaaRowG
import Derived.Deep.RegionHeld3
set_option linter.unusedSimpArgs false
set_option linter.unusedVariables false
namespace Go.Proofs.Ytapfepbkonhiiaa
open Go.RowKit Go.ChangeShapes Go.WideShapes Go.ChangeAt

set_option maxHeartbeats 1000000 in
theorem FnExactIsGraph_walk (s : Int) (a : Option Addr) (n c : Nat) (xss : List (List Int)) (w : World) (h : RdR 0 w.heap.size w (.slice a n c) xss) (hn : xss.length = n) (hs : I64 s) :
    Calls Try.prog 3 #[.agg #[.int .i64 s, .slice a n c]] w fun e w' => e = .returned (.bool true) ∧ Below w.heap.size w w' := by
  have HN := Lib.hid hn
  have HS := Lib.hid hs
  clear hn hs
  have hb0 : ∀ o, Below w.heap.size w (w.alloc o) := fun o => (Below.refl _ _).alloc (Nat.le_refl _) o
  go_enter Try.func3, Try.ntmps3
  go_wp2_with fail
  -- the box of the argument stays as it is
  refine calls_gen (fun W => Below w.heap.size w W ∧ w.heap.size < W.heap.size ∧ W.cell? ⟨w.heap.size, 0, none⟩ = some (.int .i64 s) ∧ W.cell? ⟨w.heap.size, 1, none⟩ = some (.slice a n c)) ⟨hb0 _, by simp, by go_simp, by go_simp⟩ ?_
  rintro W ⟨hbW, hsz, k1, k2⟩
  refine (szG s a n c xss _ (by omega) (by omega) W (h.below hbW) HN.out).mono ?_
  rintro e w1 ⟨⟨r, hr, rfl⟩, hb1'⟩
  have hb1 := hbW.next hb1'
  have k1 := hb1'.keep k1
  have k2 := hb1'.keep k2
  have hsz1 : w.heap.size < w1.heap.size := by have := hb1'.size; omega
  rcases hr with rfl | ⟨hr, hr2⟩
  · go_wp2
    go_ret
    exact ⟨rfl, hb1⟩
  · have HR := Lib.hid hr2
    clear hr2 hb1' hbW
    go_wp2_with fail
    refine (toG s a n c xss w1 (h.below hb1) (by omega)).mono ?_
    rintro e w2 ⟨a2, c2, rfl, o2, b2⟩
    have hb2 := hb1.next b2
    replace k1 := b2.keep k1
    replace k2 := b2.keep k2
    go_wp2_with fail
    refine (specIsGraph _ _ _ _ _ _ o2.rd rfl).mono ?_
    rintro e w3 ⟨rfl, b3⟩
    have hb3 := hb2.next b3
    replace k1 := b3.keep k1
    replace k2 := b3.keep k2
    have hs3 : w.heap.size < w3.heap.size := by have := b2.size; have := b3.size; omega
    clear o2 b2 hb1 hb2
    go_wp2_with fail
    refine (toG s a n c xss w3 (h.below hb3) (by have := hb3.size; omega)).mono ?_
    rintro e w4 ⟨a4, c4, rfl, o4, b4⟩
    have hb4 := hb3.next b4
    replace k1 := b4.keep k1
    replace k2 := b4.keep k2
    have hs4 : w.heap.size < w4.heap.size := by have := b4.size; omega
    clear b3 b4 hb3
    go_wp2_with fail
    refine calls_gen (fun W => Below w4.heap.size w4 W ∧ w4.heap.size < W.heap.size ∧ W.cell? ⟨w4.heap.size, 0, none⟩ = some (.int .i64 s) ∧ W.cell? ⟨w4.heap.size, 1, none⟩ = some (.slice a4 xss.length c4)) ⟨(Below.refl _ _).alloc (Nat.le_refl _) _, by simp, by go_simp, by go_simp⟩ ?_
    rintro W4 ⟨b5, hsz5, j1, j2⟩
    have hb5 := hb4.next b5
    replace k1 := b5.keep k1
    replace k2 := b5.keep k2
    have o5 := o4.below b5
    clear b5 o4 hb4
    refine (implIsGraph _ _ _ _ _ _ o5.rd rfl).mono ?_
    rintro e w6 ⟨rfl, b6⟩
    have hb6 := hb5.next b6
    replace k1 := b6.keep k1
    replace k2 := b6.keep k2
    replace j1 := b6.keep j1
    replace j2 := b6.keep j2
    have o6 := (o5.below b6).rd
    have hs6 : w.heap.size < w6.heap.size := by have := b6.size; omega
    clear b6 o5 hb5
    have hne : ∀ b : Bool, (b != b) = false := fun b => by cases b <;> rfl
    generalize grB s xss = wb
    have hne' := hne wb
    clear hne
    have h6 := h.below hb6
    have hs6' := hb6.size
    go_wp2
    go_region_held3 (fun W' => Below w6.heap.size w6 W' ∧ W'.cell? ⟨w.heap.size, 0, none⟩ = some (.int .i64 s) ∧ W'.cell? ⟨w.heap.size, 1, none⟩ = some (.slice a n c) ∧ W'.cell? ⟨w4.heap.size, 0, none⟩ = some (.int .i64 s) ∧ W'.cell? ⟨w4.heap.size, 1, none⟩ = some (.slice a4 xss.length c4))
      (first
        | (exact ⟨(Below.refl _ _).drew, k1, k2, j1, j2⟩)
        | (go_split_ands; exact ⟨Below.next (by assumption) b7, b7.keep (by assumption), b7.keep (by assumption), b7.keep (by assumption), b7.keep (by assumption)⟩)
        | (go_split_ands; exact ⟨Below.next (by assumption) b8, b8.keep (by assumption), b8.keep (by assumption), b8.keep (by assumption), b8.keep (by assumption)⟩))
      (first
        | (go_at_call 15; go_split_ands; refine (toG' s a n c xss w6 _ (by assumption) h6 hs6').mono ?_; rintro e w7 ⟨a7, c7, rfl, o7, b7⟩)
        | (go_at_call 17; go_split_ands; refine (eqG1 s _ _ _ _ _ _ xss w6 _ (by assumption) o6 o7.rd).mono ?_; rintro e w8 ⟨rfl, b8⟩))
    go_split_ands
    go_wp2
    go_ret
    exact ⟨rfl, hb6.next (by assumption)⟩

set_option maxRecDepth 100000 in
theorem FnExactIsGraph_lifted (os : Os) (started : os.Started) (H : Type) (enc : TypeId × Value → H) :
    ReturnsInHanded {} Try.checked os 3 .any (Rows.fnExactIsGraphSpec.pre6 enc Try.prog Try.f3 Rows.fnExactIsGraphRow.domain false) (Rows.fnExactIsGraphSpec.post enc Try.prog Try.f3 false true false false) := by
  refine returnsInHanded_of_change_sized (C := Try.checked) own started (by kernel_rfl) Try.func3
    (ChangeSpec.witness6 (enc := enc) (C := Try.checked) false ⟨#[], #[.agg #[.int .i64 0, .slice none 0 0]], []⟩ 8 (by kernel_rfl) (by kernel_rfl) (by kernel_rfl) (by kernel_rfl)) ?_
  intro W base args ds gs before hval0 hW _ hsz0 _
  have hsz : (DataW.weightsEach Try.prog (Try.f3.params.toList ++ Rows.fnExactIsGraphSpec.plain.varTypes Try.prog) (ds ++ gs)).all (· ≤ reachBytes) = true := hsz0
  clear hsz0
  have hval : ∀ (j : Nat) t v, Try.f3.params[j]? = some t → args[j]? = some v → Value.okWide Try.prog W .any base t v := hval0
  have hW' := hW
  obtain ⟨p, q, hA0, hV, rfl, _, _⟩ := hW
  have hA : DataW.TrodAll enc Try.prog W 0 (fun _ => true) true Try.f3.params.toList args.toList ds p := hA0
  rw [Try.params3] at hA hval hsz
  clear hA0 hval0
  obtain ⟨v0, vs0, d0, ds0, p0, q0, hargs0, rfl, rfl, h0, r0⟩ := trodAll_cons hA
  obtain ⟨rfl, rfl, rfl⟩ := trodAll_nil r0
  obtain rfl : args = #[v0] := by cases args; simp_all
  obtain ⟨rfl, rfl⟩ := trodVars_none hV
  simp only [List.append_nil] at hW'
  have hltW := hW'.lt
  have hlt0 : ∀ x ∈ p0, x.block < W.heap.size := fun x hx => by have := hW'.lt x (by simp [hx]); simpa using this
  have hwt0 : ∀ n ∈ d0.weights Try.prog 24, n ≤ reachBytes := fun n hn => by simpa using List.all_eq_true.1 hsz n (DataW.weights_mem_each (j := 0) rfl rfl n hn)
  obtain ⟨s0, a0, n0, c0, xs0, hv0, l0, rd0, is0⟩ := openG (hval 0 24 v0 rfl rfl) h0 hwt0
  have hargs0 : ∀ (W' : World), Below W.heap.size W W' → DataW.Trod enc Try.prog W' 0 (fun b => decide (b < W.heap.size)) true 24 v0 d0 p0 := fun W' hn => Below.trod laidOut (by kernel_rfl) (of_decide_eq_true (by kernel_rfl)) h0 hn hlt0
  subst hv0
  refine (FnExactIsGraph_walk s0 a0 n0 c0 xs0 W rd0 l0 is0).mono fun e W' ⟨he, hb⟩ => ?_
  subst he
  exact ⟨_, rfl, _, _, _, [], _, [], hW', trodAll_mk1 (shut_bool Try.underlying4 _), (trodAll_cons_mk (hargs0 _ hb) trodAll_mk0), rfl, hb.frame _, fun h => by cases h⟩

theorem FnExactIsGraph_holds : Rows.FnExactIsGraphSaid :=
  OpenClaim.holds_of_wide 3 Try.f3 rfl rfl rfl rfl rfl rfl rfl ⟨rfl, rfl, rfl, rfl, rfl⟩ rfl rfl rfl rfl rfl (by kernel_rfl) Try.func3 (by kernel_rfl)
    (of_decide_eq_true (by kernel_rfl)) (by unfold Func.isWrapper; first | (rw [if_pos (by decide +kernel)]; kernel_rfl) | (rw [if_neg (by decide +kernel)]; exact ⟨rfl, rfl⟩))
    (fun os started H enc _ => FnExactIsGraph_lifted os started H enc)


end Go.Proofs.Ytapfepbkonhiiaa
