/- IsPrimeWalk of the program. -/
import Derived.Test.YtebgbplhcaocoaaLtn
set_option linter.unusedSimpArgs false
set_option linter.unusedVariables false
namespace Go.Proofs.Ytebgbplhcaocoaa
open Go Go.RowKit Go.Shelf
attribute [local go_sem] Oper.semAt_some

/-- no turn is the walk itself -/
def prB (ws : List Int) : Bool := (List.range (ws.length - 1)).all (fun k => !decide (turnL ws (k + 1) = ws))
theorem prB_no {ws : List Int} {k : Nat} (h1 : 1 ≤ k) (h2 : k < ws.length) (h : turnL ws k = ws) : prB ws = false := by
  unfold prB
  rw [List.all_eq_false]
  refine ⟨k - 1, List.mem_range.2 (by omega), ?_⟩
  rw [show k - 1 + 1 = k by omega]
  simp [h]
theorem prB_yes {ws : List Int} (h : ∀ k, 1 ≤ k → k < ws.length → turnL ws k ≠ ws) : prB ws = true := by
  unfold prB
  rw [List.all_eq_true]
  intro k hk
  have := List.mem_range.1 hk
  simpa using h (k + 1) (by omega) (by omega)
def ipOf (s : Int) (xss : List (List Int)) (ws : List Int) : Bool × Int := if wcode s xss ws = 0 then (clB (dirE (pairs xss)) ws && prB ws, 0) else (false, wcode s xss ws)
theorem ipOf_code {s : Int} {xss : List (List Int)} {ws : List Int} (h : ¬ wcode s xss ws = 0) : ipOf s xss ws = (false, wcode s xss ws) := by unfold ipOf; rw [if_neg h]
theorem ipOf_open {s : Int} {xss : List (List Int)} {ws : List Int} (h : wcode s xss ws = 0) (h2 : clB (dirE (pairs xss)) ws = false) : ipOf s xss ws = (false, 0) := by unfold ipOf; rw [if_pos h, h2]; rfl
theorem ipOf_yes {s : Int} {xss : List (List Int)} {ws : List Int} (h : wcode s xss ws = 0) (h2 : clB (dirE (pairs xss)) ws = true) : ipOf s xss ws = (prB ws, 0) := by unfold ipOf; rw [if_pos h, h2]; rfl

/-- the result's two boxes -/
structure ResI (R : Nat) (v : Bool) (w W : World) : Prop where
  below : Below w.heap.size w W
  r0 : W.cell? ⟨R, 0, none⟩ = some (.bool v)
  r1 : W.cell? ⟨R + 1, 0, none⟩ = some (.int .i64 0)
  f0 : W.frozen? ⟨R, 0, none⟩ = false
  f1 : W.frozen? ⟨R + 1, 0, none⟩ = false
theorem ResI.grown {R B : Nat} {v : Bool} {w W W' : World} {row : Option Nat} (hB : w.heap.size ≤ B) (h : ResI R v w W) (hg : W.grownBy W' row) (hr : ∀ r, row = some r → B ≤ r ∧ ∃ o : Obj, W.heap[r]? = some o ∧ o.isCells = false) : ResI R v w W' :=
  ⟨h.below.grown hg h.below.size (fun k e => Nat.le_trans hB (hr k e).1), cell_grown hg hr h.r0, cell_grown hg hr h.r1, frozen_grown hg hr h.r0 h.f0, frozen_grown hg hr h.r1 h.f1⟩
theorem ResI.next {R : Nat} {v : Bool} {w W W' : World} (h : ResI R v w W) (b : Below W.heap.size W W') : ResI R v w W' :=
  ⟨h.below.next b, b.keep h.r0, b.keep h.r1, b.keepf (World.block_lt_of_cell? W _ h.r0) h.f0, b.keepf (World.block_lt_of_cell? W _ h.r1) h.f1⟩
theorem ResI.put {R : Nat} {v u : Bool} {w W : World} (h : ResI R v w W) (hR : w.heap.size ≤ R) : ResI R u w ((W.setCell ⟨R, 0, none⟩ (.bool u)).setCell ⟨R + 1, 0, none⟩ (.int .i64 0)) := by
  refine ⟨(h.below.setCell (p := ⟨R, 0, none⟩) hR _).setCell (p := ⟨R + 1, 0, none⟩) (by show _ ≤ R + 1; omega) _, ?_, ?_, ?_, ?_⟩
  · rw [World.cell?_setCell_other _ _ _ _ (by simp), World.cell?_setCell_same _ _ _ h.r0]
  · rw [World.cell?_setCell_same _ _ _ (by rw [World.cell?_setCell_other _ _ _ _ (by simp)]; exact h.r1)]
  · rw [World.frozen?_setCell, World.frozen?_setCell]; exact h.f0
  · rw [World.frozen?_setCell, World.frozen?_setCell]; exact h.f1
/-- what the loop keeps -/
structure PrI (ws : List Int) (R X : Nat) (v : Value) (w : World) (pre : List (Nat × Nat)) (W : World) : Prop where
  res : ResI R false w W
  bx : W.cell? ⟨X, 0, none⟩ = some v
  ne : ∀ x ∈ pre, turnL ws x.2 ≠ ws
theorem PrI.own {ws : List Int} {R X B : Nat} {v : Value} {w : World} (hB : w.heap.size ≤ B) : OwnFrom B (PrI ws R X v w) := fun pre W W' row h hg hr =>
  ⟨h.res.grown hB hg hr, cell_grown hg hr h.bx, h.ne⟩
/-- how it is left early -/
def PrX (ws : List Int) (R : Nat) (w W : World) : Prop := ResI R false w W ∧ prB ws = false
theorem PrX.own {ws : List Int} {R B : Nat} {w : World} (hB : w.heap.size ≤ B) : OwnFrom B (fun (_ : Unit) => PrX ws R w) := fun _ W W' row h hg hr => ⟨h.1.grown hB hg hr, h.2⟩

set_option maxRecDepth 100000 in
set_option maxHeartbeats 4000000 in
theorem primeIn {lo hi lo1 hi1 : Nat} (s : Int) (a : Option Addr) (n c : Nat) (xss : List (List Int)) (b1 o1 n1 c1 : Nat) (ws : List Int) (w : World) (h : RdR lo hi w (.slice a n c) xss) (hn : xss.length = n) (h1 : RdI lo1 hi1 w (.slice (some ⟨b1, o1, none⟩) n1 c1) ws) (hl : ws.length = n1) (hcap : n1 ≤ c1) (hw : wcode s xss ws = 0) (hcl : clB (dirE (pairs xss)) ws = true) :
    CallsIn Fence.wide 6 Try.prog 56 #[.agg #[.int .i64 s, .slice a n c], .slice (some ⟨b1, o1, none⟩) n1 c1] w fun e w' => e = .returned (.tuple #[.bool (prB ws), .int .i64 0]) ∧ Below w.heap.size w w' := by
  obtain ⟨hg, hwk⟩ := wcode_ok hw
  obtain ⟨hz1, hz2, _, _⟩ := wkB_iff.1 hwk
  rw [hl] at hz1 hz2
  have HCW := Lib.hid (fun W (hB : Below w.heap.size w W) => checkWalk s a n c xss (some ⟨b1, o1, none⟩) n1 c1 ws W (h.below hB) hn (h1.below hB) hl hcap)
  have HCL := Lib.hid (fun W (hB : Below w.heap.size w W) => isClosed s a n c xss (some ⟨b1, o1, none⟩) n1 c1 ws W (h.below hB) hn hg (h1.below hB) hl hcap hwk)
  rw [hw] at HCW
  rw [hcl] at HCL
  have HRD := Lib.hid (fun W (hB : Below w.heap.size w W) => h1.below hB)
  have HC := Lib.hid (fun W (hB : Below w.heap.size w W) j (hj : j < n1) => show W.cell? ⟨b1, o1 + j, none⟩ = some (.int .i64 (ws.getD j 0)) by
    obtain ⟨b2, o2, e, g⟩ := (h1.below hB).at hl j hj
    simp only [Option.some.injEq, Addr.mk.injEq, and_true] at e
    obtain ⟨rfl, rfl⟩ := e
    exact g)
  have hbl : b1 < w.heap.size := World.block_lt_of_cell? w _ (HC.out w (Below.refl _ _) 0 (by omega))
  have HI := Lib.hid h1.2.1
  have HL := Lib.hid hl
  clear h h1 hn hw hcl hg hwk hl hcap
  refine callsIn_of_wp_marks Try.func56 rfl trivial ?_ rfl
  simp only [Try.ntmps56, List.size_toArray, List.length_cons, List.length_nil, Nat.reduceAdd, Nat.reduceSub, Array.replicate_succ, Array.replicate_zero, List.push_toArray, List.append_toArray, List.nil_append, List.cons_append]
  have hF1 : Fence.wide.fn 114 := trivial
  have hF2 : Fence.wide.fn 115 := trivial
  have hF3 : Fence.wide.fn 116 := trivial
  gi_wp2
  obtain ⟨V0, hV0⟩ : ∃ V, V = (((w.alloc (.cells #[.int .i64 s, .slice a n c] 28)).alloc (.cells #[.slice (some ⟨b1, o1, none⟩) n1 c1] 37)).alloc (.cells #[.bool false] 4)).alloc (.cells #[.int .i64 0] 2) := ⟨_, rfl⟩
  have hB0 : Below w.heap.size w V0 := by rw [hV0]; exact ((((Below.refl _ _).alloc (Nat.le_refl _) _).alloc (by simp) _).alloc (by simp; omega) _).alloc (by simp; omega) _
  have k0 : V0.cell? ⟨w.heap.size, 0, none⟩ = some (.int .i64 s) := by rw [hV0]; go_simp
  have k1 : V0.cell? ⟨w.heap.size, 1, none⟩ = some (.slice a n c) := by rw [hV0]; go_simp
  have x0 : V0.cell? ⟨w.heap.size + 1, 0, none⟩ = some (.slice (some ⟨b1, o1, none⟩) n1 c1) := by rw [hV0]; go_simp
  have hR0 : ResI (w.heap.size + 1 + 1) false w V0 := ⟨hB0, by rw [hV0]; go_simp, by rw [hV0]; go_simp, by rw [hV0]; go_simp, by rw [hV0]; go_simp⟩
  obtain ⟨R, hR⟩ : ∃ R, R = w.heap.size + 1 + 1 := ⟨_, rfl⟩
  obtain ⟨X, hX⟩ : ∃ X, X = w.heap.size + 1 := ⟨_, rfl⟩
  rw [← hV0]
  rw [← hR] at hR0 ⊢
  rw [← hX] at x0 ⊢
  have hwR : w.heap.size < X ∧ X < R := by omega
  clear hV0 hB0 hR hX
  refine (callsIn_wide.2 (HCW.out V0 hR0.below)).mono ?_
  rintro e w1 ⟨rfl, b1'⟩
  replace hR0 := hR0.next b1'
  replace k0 := b1'.keep k0
  replace k1 := b1'.keep k1
  replace x0 := b1'.keep x0
  have HB1 := Lib.hid hR0
  clear b1' HCW hR0
  gi_wp2
  refine (callsIn_wide.2 (HCL.out w1 HB1.out.below)).mono ?_
  rintro e w2 ⟨rfl, b2⟩
  have HB2 := Lib.hid (HB1.out.next b2)
  replace x0 := b2.keep x0
  clear b2 HB1 HCL k0 k1
  gi_wp2
  refine (callsIn_wide.2 (turnsOfV _ n1 c1 w2)).mono ?_
  rintro e V2 ⟨rfl, hV2⟩
  have hb2 : Below w2.heap.size w2 V2 := by rw [hV2]; exact (Below.refl _ _).alloc (Nat.le_refl _) _
  have y0 : V2.cell? ⟨w2.heap.size, 0, none⟩ = some (.slice (some ⟨b1, o1, none⟩) n1 c1) := by rw [hV2]; go_simp
  have hXs : w2.heap.size < V2.heap.size := by rw [hV2]; simp
  replace x0 := hb2.keep x0
  have HB4 := Lib.hid (HB2.out.next hb2)
  have hRs : R + 1 < w2.heap.size := World.block_lt_of_cell? w2 _ HB2.out.r1
  obtain ⟨Bx, hBx⟩ : ∃ Bx, Bx = w2.heap.size := ⟨_, rfl⟩
  rw [← hBx] at y0 hXs hRs ⊢
  clear hV2 hb2 HB2 hBx
  gi_wp2
  have hRV : R + 1 < V2.heap.size := by omega
  refine range_told (GdT ws n1 V2.heap.size) (fun x V l o o' h1 h2 hgd => ⟨hgd.1, hgd.2.1, hgd.2.2.1, fun j hj => cell_put o' h1 h2 (hgd.2.2.2 j hj)⟩) rfl (by omega) (gf := 165) (lb := #[.pointer (some ⟨Bx, 0, none⟩)]) rfl trivial (enters_of Try.func165 (by kernel_rfl) rfl)
    (turnsRun 5 (by omega) 0 Bx b1 o1 n1 c1 ws V2 HL.out (by omega) hz2 hXs (by have := HB4.out.below.size; omega) y0 (fun j hj => HC.out V2 HB4.out.below j hj))
    (Below.refl _ _) (fun _ => rfl) (fun h k => KeepC.trans h k) (fun V l o o' _ h ho _ => keepC_put V l o o' h ho)
    (PrI ws R X (.slice (some ⟨b1, o1, none⟩) n1 c1) w) (PrX ws R w) (PrI.own HB4.out.below.size) (PrX.own HB4.out.below.size) ⟨HB4.out, x0, fun x hx => by simp at hx⟩
    (fun x => { tmps := #[.agg #[.int .i64 s, .slice a n c], .slice (some ⟨b1, o1, none⟩) n1 c1, .pointer (some ⟨w.heap.size, 0, none⟩), .pointer (some ⟨X, 0, none⟩), .pointer (some ⟨R, 0, none⟩), .pointer (some ⟨R + 1, 0, none⟩), .int .i64 0, .slice (some ⟨x.1, x.2, none⟩) n1 n1, .agg #[.int .i64 s, .slice a n c], .slice (some ⟨b1, o1, none⟩) n1 c1, .int .i64 0, .int .i64 0, .bool false, undef, .agg #[.int .i64 s, .slice a n c], .slice (some ⟨b1, o1, none⟩) n1 c1, .bool true, .bool false, .slice (some ⟨b1, o1, none⟩) n1 c1, .func (.func 165) #[] #[.pointer (some ⟨Bx, 0, none⟩)], .slice (some ⟨x.1, x.2, none⟩) n1 n1, undef, undef, undef], defers := [] }) ?assign ?body ?done ?stop
  case assign =>
    intro l x W K hK
    gi_wp2
    exact hK
  case body =>
    rintro l pre ⟨g, k⟩ V hI ⟨hk1, hk2, hg0, hgc⟩
    dsimp only at hk1 hk2 hg0 hgc
    have hbx := hI.bx
    have hx : RdI 0 V.heap.size V (.slice (some ⟨g, k, none⟩) n1 n1) (turnL ws k) := by
      have hlen : (turnL ws k).length = n1 := by rw [turnL_len, HL.out]
      have hgw := World.block_lt_of_cell? V _ (hgc 0 (by omega))
      exact ⟨by omega, fun z hz => HI.out z (turnL_mem hz), .inr ⟨g, k, n1, by rw [hlen], by omega, Nat.zero_le _, hgw, fun j hj => hgc j (by omega)⟩⟩
    have HCMP := Lib.hid (slEqual _ n1 n1 (turnL ws k) _ c1 ws V hx (by rw [turnL_len, HL.out]) (HRD.out V hI.res.below) HL.out (by omega))
    have heq := eqL_eq (xs := turnL ws k) (ys := ws) (n := n1) (by rw [turnL_len, HL.out]) HL.out
    have hno := fun h => prB_no (ws := ws) (k := k) hk1 (by rw [HL.out]; exact hk2) h
    obtain ⟨r, hr⟩ : ∃ r, r = eqL (turnL ws k) ws n1 0 := ⟨_, rfl⟩
    rw [← hr] at HCMP heq
    have r0 := hI.res.r0
    have r1 := hI.res.r1
    have f0 := hI.res.f0
    have f1 := hI.res.f1
    have HH := Lib.hid hI
    have HE := Lib.hid (⟨heq, hno⟩ : _ ∧ _)
    clear hx hgc hI hr heq hno
    gi_wp2
    refine ⟨trivial, CallsIn.mono (show CallsIn (Fence.wide.inRound l) 3 _ _ _ _ _ from callsIn_wide.2 HCMP.out) ?_⟩
    rintro e W3 ⟨rfl, q3⟩
    have hk3 := keeps_qt q3
    have hR3 := HH.out.res.next q3.below
    have hb3 := q3.cell HH.out.bx
    clear r0 r1 f0 f1 hbx HCMP
    cases r with
    | true =>
      have hp := HE.out.2 (HE.out.1.1 rfl)
      have r0 := hR3.r0
      have r1 := hR3.r1
      have f0 := hR3.f0
      have f1 := hR3.f1
      have HF := Lib.hid (show KeepsOthers V ((W3.setCell ⟨R, 0, none⟩ (.bool false)).setCell ⟨R + 1, 0, none⟩ (.int .i64 0)) ∧ PrX ws R w ((W3.setCell ⟨R, 0, none⟩ (.bool false)).setCell ⟨R + 1, 0, none⟩ (.int .i64 0)) from
        ⟨(hk3.trans (KeepsOthers.setCell W3 _ _)).trans (KeepsOthers.setCell _ _ _), hR3.put (by omega), hp⟩)
      clear hp hk3 hR3 hb3 HE
      gi_wp2
      exact HF.out
    | false =>
      have hp : turnL ws k ≠ ws := fun h => by have := HE.out.1.2 h; cases this
      have HF := Lib.hid (show KeepsOthers V W3 ∧ KeepC V2.heap.size V W3 ∧ PrI ws R X (.slice (some ⟨b1, o1, none⟩) n1 c1) w (pre ++ [(g, k)]) W3 from
        ⟨hk3, fun p v _ hc => q3.cell hc, hR3, hb3, fun x hx => by
          rcases List.mem_append.mp hx with hx | hx
          · exact HH.out.ne x hx
          · simp at hx; rw [hx]; exact hp⟩)
      clear hp hk3 hR3 hb3 HE
      gi_wp2
      exact HF.out
  case done =>
    rintro D xs V hD ⟨g, rfl⟩ hI hK
    have hp : prB ws = true := prB_yes (fun k hk1 hk2 => hI.ne (g, k) (by
      unfold allT
      rw [List.mem_map]
      rw [HL.out] at hk2
      exact ⟨k - 1, List.mem_range.2 (by omega), by rw [show k - 1 + 1 = k by omega]⟩))
    have r0 := hI.res.r0
    have r1 := hI.res.r1
    have f0 := hI.res.f0
    have f1 := hI.res.f1
    have hR5 := hI.res.put (u := true) (show w.heap.size ≤ R by omega)
    have hK5 : ((V.setCell ⟨R, 0, none⟩ (.bool true)).setCell ⟨R + 1, 0, none⟩ (.int .i64 0)).heap[D]? = some (.deferred (some [])) := ((KeepsOthers.setCell V _ _).trans (KeepsOthers.setCell _ _ _)).same _ _ hK rfl
    have HP := Lib.hid hp
    have HR5 := Lib.hid (⟨hR5, hK5⟩ : _ ∧ _)
    clear hp hR5 hK5 hI
    gi_wp2
    obtain ⟨V5, hV5⟩ : ∃ V5, V5 = (V.setCell ⟨R, 0, none⟩ (.bool true)).setCell ⟨R + 1, 0, none⟩ (.int .i64 0) := ⟨_, rfl⟩
    rw [← hV5] at HR5 ⊢
    clear hV5 r0 r1 f0 f1 hK
    have q0 := cell_put (.deferred none) HR5.out.2 rfl HR5.out.1.r0
    have q1 := cell_put (.deferred none) HR5.out.2 rfl HR5.out.1.r1
    have hBe : Below w.heap.size w (V5.putObj D (.deferred none)) := HR5.out.1.below.trans (belowK_b (w := w) (Nat.le_refl _) V5 D _ _ (by have := HB4.out.below.size; omega) HR5.out.2 rfl rfl)
    refine ⟨by simp, .inl ⟨_, _, rfl, run_takeDeferred HR5.out.2, ?_⟩⟩
    refine ⟨.tuple #[.bool true, .int .i64 0], ?_, by rw [HP.out], hBe⟩
    simp [results, Try.results56, go_sem, q0, q1]
  case stop =>
    rintro D V hD ⟨hR5, hp⟩ hK
    gi_wp2
    have q0 := cell_put (.deferred none) hK rfl hR5.r0
    have q1 := cell_put (.deferred none) hK rfl hR5.r1
    have hBe : Below w.heap.size w (V.putObj D (.deferred none)) := hR5.below.trans (belowK_b (w := w) (Nat.le_refl _) V D _ _ (by have := HB4.out.below.size; omega) hK rfl rfl)
    refine ⟨by simp, .inl ⟨_, _, rfl, run_takeDeferred hK, ?_⟩⟩
    refine ⟨.tuple #[.bool false, .int .i64 0], ?_, by rw [hp], hBe⟩
    simp [results, Try.results56, go_sem, q0, q1]

end Go.Proofs.Ytebgbplhcaocoaa
