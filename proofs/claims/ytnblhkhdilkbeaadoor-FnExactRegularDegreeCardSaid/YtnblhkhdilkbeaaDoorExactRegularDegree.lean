/- FnExactRegularDegree: for all arguments the program's function answers as the model's, leaves its arguments alone, and its answers own their memory. No condition. -/
import Derived.Test.YtnblhkhdilkbeaaDoorRgI
import Derived.Test.YtnblhkhdilkbeaaDoorTie
import Derived.Test.YtnblhkhdilkbeaaDoorCards
import Derived.LaidLaws
import Derived.LaidMore
import Derived.Stop.ErrReads
import Derived.Stop.Joined
import Derived.ChangeVars
import Derived.RowKitTokens
import Derived.SevenTiedAt
import Derived.Test.YtnblhkhdilkbeaaDoorCoreA
import Derived.Test.YtnblhkhdilkbeaaDoorHead
import Derived.Deep.RegionHeld3
set_option linter.unusedSimpArgs false
set_option linter.unusedVariables false
set_option maxRecDepth 100000
namespace Go.Proofs.YtnblhkhdilkbeaaDoor
open Go.RowKit Go.ChangeShapes Go.WideShapes Go.ChangeAt

set_option maxHeartbeats 4000000 in
theorem FnExactRegularDegree_walk (s0 : Int) (a0 : Option Addr) (n0 c0 : Nat) (xs0 : List (List Int)) (a9 : Addr) (w : World) (h0 : RdR 0 w.heap.size w (.slice a0 n0 c0) xs0) (l0 : xs0.length = n0) (is0 : I64 s0) (kE : w.cell? ⟨1, 0, none⟩ = some (.iface 165 (.pointer (some a9)))) :
    Calls Tryd.prog 6 #[.agg #[.int .i64 s0, .slice a0 n0 c0]] w fun e w' => e = .returned (.bool true) ∧ Below w.heap.size w w' := by
  have L0 := Lib.hid l0
  clear l0
  have S0 := Lib.hid is0
  clear is0
  have hB : Below w.heap.size w w := Below.refl _ _
  obtain ⟨y0, hy0⟩ : ∃ y, y = ((rdOf s0 xs0).1) := ⟨_, rfl⟩
  have Hy0 := Lib.hid hy0
  clear hy0
  obtain ⟨y1, hy1⟩ : ∃ y, y = ((rdOf s0 xs0).2) := ⟨_, rfl⟩
  have Hy1 := Lib.hid hy1
  clear hy1
  go_enter Tryd.func6, Tryd.ntmps6
  go_wp2_with fail
  refine calls_gen (fun W => Below w.heap.size w W ∧ w.heap.size < W.heap.size ∧ W.cell? ⟨w.heap.size, 0, none⟩ = some (.int .i64 s0) ∧ W.cell? ⟨w.heap.size, 1, none⟩ = some (.slice a0 n0 c0)) ⟨(Below.refl _ _).alloc (Nat.le_refl _) _, by simp, by go_simp, by go_simp⟩ ?_
  rintro W0 ⟨hB0, hz0, k0, k1⟩
  replace kE := hB0.keep kE
  replace hB := hB.next hB0
  clear hB0
  refine (szG s0 a0 n0 c0 xs0 _ (by omega) (by omega) _ (h0.below hB) L0.out).mono ?_
  rintro e w1 ⟨⟨r1, hr1, rfl⟩, b1⟩
  replace kE := b1.keep kE
  replace k0 := b1.keep k0
  replace k1 := b1.keep k1
  replace hB := hB.next b1
  have hz1 := b1.size
  clear b1
  rcases hr1 with rfl | ⟨hr1, hq1⟩
  · go_wp2
    go_ret
    exact ⟨rfl, hB⟩
  have hl0 : lens xs0 ≤ 1048576 := by omega
  have HR1 := Lib.hid hq1
  clear hq1
  have hp1 : ¬ r1 < 0 := by omega
  have hpp1 : r1 ≤ 1048576 := by have := HR1.out; omega
  go_wp2_with fail
  refine (toG s0 a0 n0 c0 xs0 _ (h0.below hB) (by have := hB.size; omega)).mono ?_
  rintro e w2 ⟨a_2, c_2, rfl, o2, b2⟩
  replace kE := b2.keep kE
  replace k0 := b2.keep k0
  replace k1 := b2.keep k1
  replace hB := hB.next b2
  have hz2 := b2.size
  clear b2
  go_wp2_with fail
  refine (specRd s0 _ _ _ xs0 _ o2.rd rfl).mono ?_
  rw [← Hy0.out, ← Hy1.out]
  rintro e w3 ⟨rfl, b3⟩
  replace kE := b3.keep kE
  replace k0 := b3.keep k0
  replace k1 := b3.keep k1
  replace o2 := o2.below b3
  replace hB := hB.next b3
  have hz3 := b3.size
  clear b3
  clear o2
  go_wp2_with fail
  refine (toG s0 a0 n0 c0 xs0 _ (h0.below hB) (by have := hB.size; omega)).mono ?_
  rintro e w4 ⟨a_4, c_4, rfl, o4, b4⟩
  replace kE := b4.keep kE
  replace k0 := b4.keep k0
  replace k1 := b4.keep k1
  replace hB := hB.next b4
  have hz4 := b4.size
  clear b4
  go_wp2_with fail
  refine calls_gen (fun W => Below w4.heap.size w4 W ∧ w4.heap.size < W.heap.size ∧ W.cell? ⟨w4.heap.size, 0, none⟩ = some (.int .i64 s0) ∧ W.cell? ⟨w4.heap.size, 1, none⟩ = some (.slice a_4 xs0.length c_4)) ⟨(Below.refl _ _).alloc (Nat.le_refl _) _, by simp, by go_simp, by go_simp⟩ ?_
  rintro W4 ⟨bb, hzz4, j0, j1⟩
  replace kE := bb.keep kE
  replace k0 := bb.keep k0
  replace k1 := bb.keep k1
  replace o4 := o4.below bb
  replace hB := hB.next bb
  have hz4 := bb.size
  clear bb
  refine (implRd s0 _ _ _ xs0 _ o4.rd rfl a9 kE).mono ?_
  rw [← Hy0.out, ← Hy1.out]
  rintro e w5 ⟨rfl, b5⟩
  replace kE := b5.keep kE
  replace k0 := b5.keep k0
  replace k1 := b5.keep k1
  replace j0 := b5.keep j0
  replace j1 := b5.keep j1
  replace o4 := o4.below b5
  replace hB := hB.next b5
  have hz5 := b5.size
  clear b5
  go_wp2
  have hsB := hB.size
  go_region_held3 (fun W' => Below w5.heap.size w5 W' ∧ W'.cell? ⟨w.heap.size, 0, none⟩ = some (.int .i64 s0) ∧ W'.cell? ⟨w.heap.size, 1, none⟩ = some (.slice a0 n0 c0) ∧ W'.cell? ⟨w4.heap.size, 0, none⟩ = some (.int .i64 s0) ∧ W'.cell? ⟨w4.heap.size, 1, none⟩ = some (.slice a_4 xs0.length c_4))
    (first | (exact ⟨(Below.refl _ _).drew, k0, k1, j0, j1⟩) | (go_split_ands; exact ⟨Below.next (by assumption) bx, bx.keep (by assumption), bx.keep (by assumption), bx.keep (by assumption), bx.keep (by assumption)⟩) | (go_split_ands; exact ⟨Below.next (by assumption) by1, by1.keep (by assumption), by1.keep (by assumption), by1.keep (by assumption), by1.keep (by assumption)⟩))
    (first | (go_at_call 14; go_split_ands; refine (toG' s0 a0 n0 c0 xs0 w5 _ (by assumption) (h0.below hB) hsB).mono ?_; rintro e wx ⟨ax, cx, rfl, ox, bx⟩) | (go_at_call 17; go_split_ands; refine (eqG1 s0 _ _ _ _ _ _ xs0 w5 _ (by assumption) o4.rd ox.rd).mono ?_; rintro e wy ⟨rfl, by1⟩))
  go_split_ands
  have bS : Below w5.heap.size w5 wy := by assumption
  clear ox bx by1
  replace kE := bS.keep kE
  replace k0 := bS.keep k0
  replace k1 := bS.keep k1
  replace j0 := bS.keep j0
  replace j1 := bS.keep j1
  replace o4 := o4.below bS
  replace hB := hB.next bS
  have hz6 := bS.size
  clear bS
  go_wp2
  go_ret
  exact ⟨rfl, hB⟩


theorem gE : Tryd.prog.globalNamed "loop.example/g01298/impl.errNotRegular" = some 1 := by kernel_rfl
theorem tE : (Tryd.prog.globals[1]?).map (·.type) = some 56 := by kernel_rfl
theorem nameE : Tryd.prog.typeName? 3 165 = some "*errors.errorString" := by kernel_rfl
theorem cellsE : Tryd.prog.cellsOf 167 = 1 := by kernel_rfl
theorem cellsStr : Tryd.prog.cellsOf 9 = 1 := by kernel_rfl
theorem starE : "*" ++ "errors.errorString" = "*errors.errorString" := by decide
theorem rowE (u : TypeId) (h : Tryd.prog.typeName? 3 u = some "*errors.errorString") : u = 165 :=
  typeName_ptr_named (nm := "errors.errorString") (by rw [starE]; kernel_rfl) (by kernel_rfl) (by decide) u (by rw [starE]; exact h)

/-- what the condition gives the walk: the sentinel's cell -/
theorem sentinel_of_laid {W : World} (h : laidMetH Tryd.prog Rows.fnExactRegularDegreeRow.laid W) :
    ∃ a0 : Addr, W.var? Tryd.prog "loop.example/g01298/impl.errNotRegular" = some #[.iface 165 (.pointer (some a0))] := by
  rw [MakeChecks.laidMetH_plain _ _ _ (by kernel_rfl)] at h
  obtain ⟨ps, ⟨g0, t0, cs0, f0, p0, q0, hg0, ht0, hv0, hd0, hq0, e0⟩, hnd, hrows⟩ := h
  obtain rfl := Option.some.inj (gE.symm.trans hg0)
  obtain rfl := Option.some.inj (tE.symm.trans ht0)
  have hq0' : q0 = [] := hq0
  subst hq0'
  subst e0
  obtain ⟨l0⟩ := cs0
  have ok0 : ∀ u v, l0 = [.iface u v] → Value.okWide Tryd.prog W .any 0 u v := fun u v e => by
    subst e
    exact (hrows 1 0 (by simp [MemPlace.row])).2 u v (by simpa using World.var?_cell hg0 hv0 0)
  obtain ⟨a0, s0, rfl, hc0, hs0, hz0, rfl⟩ := errorString_of_trod Tryd.underlying56 rowE Tryd.underlying165 Tryd.underlying167 rfl rfl Tryd.underlying9 cellsE cellsStr hd0 ok0
  exact ⟨a0, hv0⟩
theorem var_below {W W' : World} {n : String} {cs : Array Value} (hb : Below W.heap.size W W') (h : W.var? Tryd.prog n = some cs) : W'.var? Tryd.prog n = some cs := by
  unfold World.var? at h ⊢
  cases hg : Tryd.prog.globalNamed n with
  | none => simp [hg] at h
  | some g =>
    simp only [hg, Option.bind_some] at h ⊢
    have hlt : g < W.heap.size := by
      rcases Nat.lt_or_ge g W.heap.size with h' | h'
      · exact h'
      · simp [Array.getElem?_eq_none h'] at h
    rw [hb.block g hlt]
    exact h
theorem vars_read {H : Type} (enc : TypeId × Value → H) {W : World} {x0 : Value} (h0 : W.var? Tryd.prog "loop.example/g01298/impl.errNotRegular" = some #[x0]) (i0 : IsIface x0) (sp : Nat → Bool) :
    DataW.TrodVars enc Tryd.prog W sp ["loop.example/g01298/impl.errNotRegular"] [tok enc x0] [.cell 1 0] :=
  ⟨1, 56, #[x0], 1, [], [], gE, tE, h0, trod_held Tryd.underlying56 i0 0, rfl, rfl⟩
theorem door_met (os : Os) (args : Array Value) : laidMetH Tryd.prog Rows.fnExactRegularDegreeRow.laid ((World.doorLaid Tryd.prog 400 os).forCall (fun _ _ => 0) ⟨#[], args, []⟩).memory := by
  rw [MakeChecks.laidMetH_plain _ _ _ (by kernel_rfl)]
  exact laidMet_of_run' 8 (by kernel_rfl) (by kernel_rfl)

set_option maxRecDepth 100000 in
theorem FnExactRegularDegree_lifted (os : Os) (started : os.Started) (H : Type) (enc : TypeId × Value → H) :
    ReturnsInHanded {} Tryd.checked os 6 .any (fun w args => (Rows.fnExactRegularDegreeSpec.pre enc Tryd.prog Tryd.f6 [] false w args ∧ laidMetH Tryd.prog Rows.fnExactRegularDegreeRow.laid w) ∧ sizedMet enc Tryd.prog Tryd.f6 (OpenSpec.ofChange Rows.fnExactRegularDegreeSpec) false w args) (Rows.fnExactRegularDegreeSpec.post enc Tryd.prog Tryd.f6 false true false false) := by
  refine returnsInHanded_of_change_and (C := Tryd.checked) (X := fun w _ => laidMetH Tryd.prog Rows.fnExactRegularDegreeRow.laid w) (fun _ _ _ hh h => h.of_heap hh) own started (by kernel_rfl) Tryd.func6
    (ChangeSpec.witness_shaped (enc := enc) (C := Tryd.checked) (os := os) (X := fun w _ => laidMetH Tryd.prog Rows.fnExactRegularDegreeRow.laid w) false (World.doorLaid Tryd.prog 400 os) #[.agg #[.int .i64 0, .slice none 0 0]] 8 rfl (World.shaped_of_RefB (by kernel_rfl) (by kernel_rfl)) (by kernel_rfl) (by kernel_rfl) (by kernel_rfl) (door_met os _)) ?_
  intro W base args ds gs before hval0 hW _ hsz0 hL _
  have hsz : (DataW.weightsEach Tryd.prog (Tryd.f6.params.toList ++ Rows.fnExactRegularDegreeSpec.plain.varTypes Tryd.prog) (ds ++ gs)).all (· ≤ reachBytes) = true := hsz0
  clear hsz0
  have hval : ∀ (j : Nat) t v, Tryd.f6.params[j]? = some t → args[j]? = some v → Value.okWide Tryd.prog W .any base t v := hval0
  have hW' := hW
  obtain ⟨p, q, hA0, hV0, rfl, _, _⟩ := hW
  have hV : DataW.TrodVars enc Tryd.prog W (fun _ => true) ["loop.example/g01298/impl.errNotRegular"] gs q := hV0
  have hA : DataW.TrodAll enc Tryd.prog W 0 (fun _ => true) true Tryd.f6.params.toList args.toList ds p := hA0
  rw [Tryd.params6] at hA hval hsz
  clear hA0 hval0
  obtain ⟨v0, vs0, d0, ds0, p0, q0, hargs0, rfl, rfl, h0, r0⟩ := trodAll_cons hA
  obtain ⟨rfl, rfl, rfl⟩ := trodAll_nil r0
  obtain rfl : args = #[v0] := by cases args; simp_all
  obtain ⟨a9, hv9⟩ := sentinel_of_laid hL
  obtain ⟨rfl, rfl⟩ := hV.unique (vars_read enc hv9 trivial _)
  have kE : W.cell? ⟨1, 0, none⟩ = some (.iface 165 (.pointer (some a9))) := by simpa using World.var?_cell gE hv9 0
  have hltW := hW'.lt
  have hlt0 : ∀ x ∈ p0, x.block < W.heap.size := fun x hx => by have := hW'.lt x (by simp [hx]); simpa using this
  have hwt0 : ∀ n ∈ d0.weights Tryd.prog 32, n ≤ reachBytes := fun n hn => by simpa using List.all_eq_true.1 hsz n (DataW.weights_mem_each (j := 0) rfl rfl n hn)
  obtain ⟨s0, a0, n0, c0, xs0, hv0, l0, rd0, is0⟩ := openG (hval 0 32 v0 rfl rfl) h0 hwt0
  have keepA0 : ∀ (W' : World), Below W.heap.size W W' → DataW.Trod enc Tryd.prog W' 0 (fun b => decide (b < W.heap.size)) true 32 v0 d0 p0 := fun W' hn => Below.trod laidOut (by kernel_rfl) (of_decide_eq_true (by kernel_rfl)) h0 hn hlt0
  subst hv0
  refine (FnExactRegularDegree_walk s0 a0 n0 c0 xs0 a9 W rd0 l0 is0 kE).mono fun e W' ⟨he, hb⟩ => ?_
  subst he
  exact ⟨_, rfl, _, _, _, [], _, [.cell 1 0], hW', trodAll_mk1 (shut_bool Tryd.underlying4 _), (trodAll_cons_mk (keepA0 _ hb) trodAll_mk0), vars_read enc (var_below hb hv9) trivial _, hb.frame _, fun h => by cases h⟩

theorem FnExactRegularDegree_k1 : (Rows.fnExactRegularDegreeRow.inPlace == Tryd.prog.inPlace 6) = true := by kernel_rfl
theorem FnExactRegularDegree_k2 : (Rows.fnExactRegularDegreeRow.unfollowed == Tryd.prog.unfollowed 6) = true := by kernel_rfl
theorem FnExactRegularDegree_k3 : (Rows.fnExactRegularDegreeRow.recurses == Tryd.prog.recurses 6) = true := by kernel_rfl
theorem FnExactRegularDegree_k4 : (Rows.fnExactRegularDegreeRow.named == Tryd.prog.varsNamed 6) = true := by kernel_rfl
set_option maxRecDepth 100000 in
theorem FnExactRegularDegree_closed : joinedFacts Tryd.prog 6 Tryd.f6 Rows.fnExactRegularDegreeSpec Rows.fnExactRegularDegreeRow = true := by
  unfold joinedFacts
  rw [FnExactRegularDegree_k1, FnExactRegularDegree_k2, FnExactRegularDegree_k3, FnExactRegularDegree_k4, head_enter, head_lifts, head_make]
  show (_ : Bool) = true
  kernel_rfl


theorem FnExactRegularDegree_holds : Rows.FnExactRegularDegreeSaid :=
  OpenClaim.holds_of_wide 6 Tryd.f6 rfl rfl rfl rfl rfl rfl rfl ⟨rfl, rfl, rfl, rfl, rfl⟩ rfl rfl rfl rfl rfl (by kernel_rfl) Tryd.func6 FnExactRegularDegree_closed
    (of_decide_eq_true (by kernel_rfl)) (by unfold Func.isWrapper; first | (rw [if_pos (by decide +kernel)]; kernel_rfl) | (rw [if_neg (by decide +kernel)]; exact ⟨rfl, rfl⟩))
    (fun os started H enc _ => FnExactRegularDegree_lifted os started H enc)


theorem FnExactRegularDegree_card : Rows.FnExactRegularDegreeCardSaid :=
  Claim7.holds_tied_plain_at .later [] [.sentinel] true (true, "450085890334e1540906e34d31a7231a260b20f1ae71f21da15f7f1db42c0029") true
    FnExactRegularDegree_holds (fun _ h => by cases h) (by kernel_rfl) (fun _ h => by cases h) fnExactRegularDegree_row_tie rfl ⟨rfl, rfl⟩ (by kernel_rfl) rfl
    (fun f fn hf hfn => by
      obtain rfl : f = 6 := Option.some.inj ((show Tryd.prog.funcNamed "loop.example/g01298/laws.FnExactRegularDegree" = some 6 by kernel_rfl).symm.trans hf) |>.symm
      obtain rfl : fn = Tryd.f6 := (Option.some.inj (Tryd.func6.symm.trans hfn)).symm
      exact ⟨by kernel_rfl, fun j t ht => by
        rw [Tryd.params6] at ht
        have h3 : t ∈ [32] := by
          rcases j with _ | _ | _ | _ | j <;> simp at ht <;> simp [← ht]
        simp only [List.mem_cons, List.mem_nil_iff, or_false] at h3
        rcases h3 with rfl
        all_goals (first | exact (show Tryd.prog.wantsStandIn _ = false by kernel_rfl))⟩)
    (by kernel_rfl)

end Go.Proofs.YtnblhkhdilkbeaaDoor
