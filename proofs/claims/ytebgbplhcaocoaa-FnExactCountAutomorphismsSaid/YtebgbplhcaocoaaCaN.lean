/- CountAutomorphisms, by the program. -/
import Derived.Test.YtebgbplhcaocoaaCoreN
import Derived.Test.YtebgbplhcaocoaaCoreM
import Derived.Test.YtebgbplhcaocoaaLtn
set_option linter.unusedSimpArgs false
set_option linter.unusedVariables false
set_option maxRecDepth 100000
namespace Go.Proofs.Ytebgbplhcaocoaa
open Go Go.RowKit Go.Shelf
attribute [local go_sem] Oper.semAt_some

/-- what the count's range keeps -/
def CaI (T : Nat) (w : World) (pre : List (Nat × Nat × List Int)) (V : World) : Prop := Below w.heap.size w V ∧ V.cell? ⟨T, 0, none⟩ = some (.int .i64 (wrap64 pre.length)) ∧ V.frozen? ⟨T, 0, none⟩ = false
theorem CaI.holds {T B : Nat} {w : World} (hT : T < B) (hB : w.heap.size ≤ B) : HoldsBelow B (CaI T w) := fun s W W' row hs hg hr => by
  have hb := hg.block T (World.block_lt_of_cell? W _ hs.2.1) (fun e => by have := hr T e.symm; omega)
  exact ⟨hs.1.grown hg hs.1.size (fun k e => Nat.le_trans hB (hr k e)), (World.cell?_of_block hb).trans hs.2.1, (World.frozen?_of_block hb).trans hs.2.2⟩
theorem wrap_next (k : Nat) : IntKind.i64.wrap (wrap64 (k : Int) + 1) = wrap64 ((k + 1 : Nat) : Int) := by
  rw [IntWalk.i64_left]
  unfold wrap64
  push_cast
  omega
theorem wrap_next' (k : Nat) : wrap64 (wrap64 (k : Int) + 1) = wrap64 ((k + 1 : Nat) : Int) := by
  unfold wrap64
  push_cast
  omega
theorem KeepX.put {T : Nat} {V : World} {l : Nat} {o o' : Obj} (h : V.heap[l]? = some o) (ho : o.isCells = false) : KeepX T none V (V.putObj l o') := by
  refine ⟨by simp [World.putObj], fun k ob _ _ h3 h4 => ?_⟩
  have hkl : k ≠ l := fun e => by subst e; rw [h] at h3; cases h3; rw [ho] at h4; cases h4
  exact (World.putObj_heap_other hkl).trans h3
theorem KeepX.cellSet {T : Nat} {V : World} {v : Value} : KeepX T none V (V.setCell ⟨T, 0, none⟩ v) :=
  ⟨by rw [World.size_setCell]; exact Nat.le_refl _, fun k ob h1 _ h3 _ => (Below.heap_setCell _ _ _ _ (fun e => h1 e)).trans h3⟩

set_option maxHeartbeats 4000000 in
theorem countIn {lo hi : Nat} (S : Nat) (hS : 1 ≤ S ∧ S ≤ 8) (a : Option Addr) (n c : Nat) (xss : List (List Int)) (w : World) (h : RdR lo hi w (.slice a n c) xss) (hn : xss.length = n) (hg : grB (S : Int) xss = true) :
    CallsIn Fence.wide 6 Try.prog 44 #[.agg #[.int .i64 (S : Int), .slice a n c]] w fun e w' => e = .returned (.tuple #[.int .i64 (cntL S (adF xss) (adF xss) true S []).1, .int .i64 0]) ∧ Below w.heap.size w w' := by
  have HCW := Lib.hid (fun W (hB : Below w.heap.size w W) => implIsGraph (S : Int) a n c xss W (h.below hB) hn)
  rw [hg] at HCW
  have HIS := Lib.hid (fun W (hB : Below w.heap.size w W) => isosOf S a n c xss a n c xss W (h.below hB) hn (h.below hB) hn hg hg)
  have HLE := Lib.hid (isoL_len S (adF xss) (adF xss) S [])
  have HSM := Lib.hid (cntL_small (f := adF xss) (h := adF xss) (all := true) hS.2 hS.2 [])
  generalize adF xss = f at HIS HLE HSM ⊢
  clear h hn hg
  refine callsIn_of_wp_marks Try.func44 rfl trivial ?_ rfl
  simp only [Try.ntmps44, List.size_toArray, List.length_cons, List.length_nil, Nat.reduceAdd, Nat.reduceSub, Array.replicate_succ, Array.replicate_zero, List.push_toArray, List.append_toArray, List.nil_append, List.cons_append]
  have hF1 : Fence.wide.fn 61 := trivial
  have hF2 : Fence.wide.fn 96 := trivial
  gi_wp2
  obtain ⟨V0, hV0⟩ : ∃ V, V = w.alloc (.cells #[.int .i64 (S : Int), .slice a n c] 28) := ⟨_, rfl⟩
  have hB0 : Below w.heap.size w V0 := by rw [hV0]; exact (Below.refl _ _).alloc (Nat.le_refl _) _
  have k0 : V0.cell? ⟨w.heap.size, 0, none⟩ = some (.int .i64 (S : Int)) := by rw [hV0]; go_simp
  have k1 : V0.cell? ⟨w.heap.size, 1, none⟩ = some (.slice a n c) := by rw [hV0]; go_simp
  rw [← hV0]
  clear hV0
  refine (callsIn_wide.2 (HCW.out V0 hB0)).mono ?_
  rintro e w1 ⟨rfl, b1'⟩
  replace hB0 := hB0.next b1'
  replace k0 := b1'.keep k0
  replace k1 := b1'.keep k1
  have HB1 := Lib.hid hB0
  have hb1 := (Below.refl w1.heap.size w1).alloc (Nat.le_refl _) (.cells #[.int .i64 0] 2)
  have k0d := hb1.keep k0
  have k1d := hb1.keep k1
  clear b1' HCW hB0
  gi_wp2
  obtain ⟨T, hT⟩ : ∃ T, T = w1.heap.size := ⟨_, rfl⟩
  obtain ⟨V1, hV1⟩ : ∃ V, V = w1.alloc (.cells #[.int .i64 0] 2) := ⟨_, rfl⟩
  have t0 : V1.cell? ⟨T, 0, none⟩ = some (.int .i64 0) := by rw [hV1, hT]; go_simp
  have tf : V1.frozen? ⟨T, 0, none⟩ = false := by rw [hV1, hT]; go_simp
  have hTs : T < V1.heap.size := by rw [hV1, hT]; simp
  rw [← hV1] at hb1 ⊢
  rw [← hT]
  have HB3 := Lib.hid (HB1.out.next hb1)
  have hTw : w.heap.size ≤ T := by rw [hT]; exact HB1.out.size
  clear hV1 hb1 hT HB1 k0 k1 k0d k1d
  refine (callsIn_wide.2 (HIS.out V1 HB3.out)).mono ?_
  rintro e V2 ⟨q1, q2, q3, q4, hi4, Bx, a3, c3, a4, c4, rfl, hb2, hq, hhi, hEn, x0, x1⟩
  replace t0 := hb2.keep t0
  replace tf := hb2.keepf hTs tf
  have HB4 := Lib.hid (HB3.out.next hb2)
  have hTV : T < V2.heap.size := Nat.lt_of_lt_of_le hTs hb2.size
  have HEN := Lib.hid (⟨hq, hhi, hEn, x0, x1, hTs⟩ : _ ∧ _ ∧ _ ∧ _ ∧ _ ∧ T < V1.heap.size)
  clear hq hhi hEn x0 x1 hb2 HB3 HIS
  gi_wp2
  refine range_own (GdM S V2.heap.size) (fun x V l o o' h1 h2 hgd => ⟨hgd.1, hgd.2.1, fun j hj => cell_put o' h1 h2 (hgd.2.2 j hj)⟩) rfl (by omega) (gf := 173) (lb := #[.pointer (some ⟨Bx, 0, none⟩)]) rfl trivial (enters_of Try.func173 (by kernel_rfl) rfl)
    (foundRun 4 S hS f f T Bx q1 q2 q3 q4 V2 hTV (EnvI S f f q1 q2 q3 q4 V1.heap.size hi4 a3 c3 a4 c4)
      (fun A B hA hk => hA.keep HEN.out.2.2.2.2.2 HEN.out.1 HEN.out.2.1 hk) (fun W g cg m lst hE hl hm hc => fitRun S hS f f q1 q2 q3 q4 a3 c3 a4 c4 W g cg m lst hE hl hm hc)
      HEN.out.2.2.1 HEN.out.2.2.2.1 HEN.out.2.2.2.2.1)
    (Below.refl _ _) (fun _ => rfl) (fun h k => KeepX.trans h k) (fun V l o o' _ h ho _ => KeepX.put h ho)
    (CaI T w) (fun _ => False) (CaI.holds hTV HB4.out.size) (fun _ _ _ _ h _ _ => h) ⟨HB4.out, t0.trans (congrArg some (congrArg (Value.int .i64) (show (0 : Int) = wrap64 ((0 : Nat) : Int) by unfold wrap64; omega))), tf⟩
    (fun x => { tmps := #[.agg #[.int .i64 (S : Int), .slice a n c], .pointer (some ⟨w.heap.size, 0, none⟩), .int .i64 0, .int .i64 0, .pointer (some ⟨T, 0, none⟩), .agg #[.int .i64 (S : Int), .slice a n c], .bool true, .bool false, .agg #[.int .i64 (S : Int), .slice a n c], .agg #[.int .i64 (S : Int), .slice a n c], .func (.func 173) #[] #[.pointer (some ⟨Bx, 0, none⟩)], .slice (some ⟨x.1, 0, none⟩) S x.2.1, undef, undef, undef], defers := [] }) ?assign ?body ?done ?stop
  case assign =>
    intro l x W K hK
    simp only [encM]
    gi_wp2
    have e : ∀ (t : Array Value) (v : Value), Array.foldl (fun (t : Array Value) (y : Tmp × Value) => t.setIfInBounds y.1 y.2) t (#[11].zip #[v]) = t.setIfInBounds 11 v := fun t v => by simp
    simp only [e]
    exact hK
  case body =>
    rintro l pre x V ⟨hb, hc, hf⟩ hgd
    have hw := wrap_next pre.length
    have hw2 : wrap64 (wrap64 (pre.length : Int) + 1) = wrap64 ((pre.length + 1 : Nat) : Int) := wrap_next' pre.length
    have HF := Lib.hid (show KeepsOthers V (V.setCell ⟨T, 0, none⟩ (.int .i64 (wrap64 ((pre.length + 1 : Nat) : Int)))) ∧ KeepX T none V (V.setCell ⟨T, 0, none⟩ (.int .i64 (wrap64 ((pre.length + 1 : Nat) : Int)))) ∧ CaI T w (pre ++ [x]) (V.setCell ⟨T, 0, none⟩ (.int .i64 (wrap64 ((pre.length + 1 : Nat) : Int)))) from
      ⟨KeepsOthers.setCell V _ _, KeepX.cellSet, hb.setCell (p := ⟨T, 0, none⟩) hTw _, by rw [World.cell?_setCell_same _ _ _ hc, List.length_append]; rfl, by rw [World.frozen?_setCell]; exact hf⟩)
    generalize wrap64 ((pre.length + 1 : Nat) : Int) = y1 at hw hw2 HF
    generalize wrap64 (pre.length : Int) = y0 at hw hw2 hc
    clear hgd hb
    gi_wp2
    exact HF.out
  case done =>
    rintro D xs V hD hS2 ⟨hb, hc, hf⟩ hK
    have hlen : wrap64 (xs.length : Int) = (cntL S f f true S []).1 := by
      have h1 : xs.length = (isoL S f f S []).length := by rw [← hS2, List.length_map]
      rw [h1, HLE.out]
      exact IntWalk.wrap64_in _ (by have := HSM.out; omega)
    rw [hlen] at hc
    obtain ⟨R, hR⟩ : ∃ R, R = (cntL S f f true S []).1 := ⟨_, rfl⟩
    rw [← hR] at hc
    have HRR := Lib.hid hR
    clear hR
    have HH := Lib.hid (⟨hb, hK⟩ : _ ∧ _)
    clear hS2 hb hlen HLE HSM hK
    gi_wp2
    refine ⟨by simp, .inl ⟨_, _, rfl, run_takeDeferred HH.out.2, ?_⟩⟩
    refine ⟨_, ?_, rfl, HH.out.1.trans (belowK_b (w := w) (Nat.le_refl _) V D _ _ (by have := HB4.out.size; omega) HH.out.2 rfl rfl)⟩
    simp [results, Try.results44, go_sem]
    exact HRR.out
  case stop =>
    rintro D V _ h _
    exact h.elim

theorem implCa {lo hi : Nat} (s : Int) (a : Option Addr) (n c : Nat) (xss : List (List Int)) (w : World) (h : RdR lo hi w (.slice a n c) xss) (hn : xss.length = n) :
    Calls Try.prog 44 #[.agg #[.int .i64 s, .slice a n c]] w fun e w' => e = .returned (.tuple #[.int .i64 (caOf s xss).1, .int .i64 (caOf s xss).2]) ∧ Below w.heap.size w w' := by
  have hb0 : ∀ o, Below w.heap.size w (w.alloc o) := fun o => (Below.refl _ _).alloc (Nat.le_refl _) o
  cases hg : grB s xss with
  | true =>
    have hg4 := grB_iff hg
    obtain ⟨S, hS⟩ : ∃ S : Nat, s = (S : Int) := ⟨s.toNat, by omega⟩
    subst hS
    rw [caOf_yes hg]
    exact callsIn_wide.1 (countIn S (by omega) a n c xss w h hn hg)
  | false =>
    have HI := Lib.hid (fun W (hB : Below w.heap.size w W) => implIsGraph s a n c xss W (h.below hB) hn)
    rw [hg] at HI
    rw [caOf_no hg]
    clear h hn hg
    go_enter Try.func44, Try.ntmps44
    go_wp2_with fail
    refine calls_gen (fun W => Below w.heap.size w W) (hb0 _) ?_
    rintro W hB
    refine (HI.out W hB).mono ?_
    rintro e w0 ⟨rfl, b0⟩
    replace hB := hB.next b0
    clear b0 HI
    go_wp2
    go_ret2
    exact ⟨rfl, hB⟩

end Go.Proofs.Ytebgbplhcaocoaa
