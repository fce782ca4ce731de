/- LeastTurn of the program. -/
import Derived.Test.YtebgbplhcaocoaaRtn
import Derived.Test.YtebgbplhcaocoaaImplWk2
import Derived.Test.YtebgbplhcaocoaaSlEq
set_option linter.unusedSimpArgs false
set_option linter.unusedVariables false
namespace Go.Proofs.Ytebgbplhcaocoaa
open Go Go.RowKit Go.Shelf
attribute [local go_sem] Oper.semAt_some

def ltStep (ws cur : List Int) (k : Nat) : List Int := if bef (turnL ws k) cur ws.length 0 = true then turnL ws k else cur
def ltK (ws : List Int) : Nat → List Int
  | 0 => ws
  | k + 1 => ltStep ws (ltK ws k) (k + 1)
def ltP (ws : List Int) (pre : List (Nat × Nat)) : List Int := pre.foldl (fun cur x => ltStep ws cur x.2) ws
theorem ltP_s (ws : List Int) (pre : List (Nat × Nat)) (x : Nat × Nat) : ltP ws (pre ++ [x]) = ltStep ws (ltP ws pre) x.2 := by simp [ltP]
theorem ltP_all (ws : List Int) (g : Nat) : ∀ m, ltP ws (allT g m) = ltK ws m
  | 0 => rfl
  | m + 1 => by rw [allT_s, ltP_s, ltP_all ws g m]; rfl
theorem ltStep_len {ws cur : List Int} (h : cur.length = ws.length) (k : Nat) : (ltStep ws cur k).length = ws.length := by
  unfold ltStep; split
  · exact turnL_len ws k
  · exact h
theorem ltP_len (ws : List Int) : ∀ pre : List (Nat × Nat), (ltP ws pre).length = ws.length := fun pre => by
  unfold ltP
  have : ∀ (pre : List (Nat × Nat)) (cur : List Int), cur.length = ws.length → (pre.foldl (fun cur x => ltStep ws cur x.2) cur).length = ws.length := by
    intro pre
    induction pre with
    | nil => intro cur h; exact h
    | cons x r ih => intro cur h; exact ih _ (ltStep_len h x.2)
  exact this pre ws rfl
theorem ltK_len (ws : List Int) (m : Nat) : (ltK ws m).length = ws.length := by rw [← ltP_all ws 0 m]; exact ltP_len ws _
theorem turnL_mem {ws : List Int} {k : Nat} {x : Int} (h : x ∈ turnL ws k) : x ∈ ws := by
  unfold turnL at h
  rcases List.mem_append.mp h with h | h
  · exact List.mem_of_mem_drop h
  · exact List.mem_of_mem_take h
theorem ltK_mem {ws : List Int} : ∀ m, ∀ x ∈ ltK ws m, x ∈ ws
  | 0, x, h => h
  | m + 1, x, h => by
    unfold ltK ltStep at h
    split at h
    · exact turnL_mem h
    · exact ltK_mem m x h
theorem ltP_mem {ws : List Int} (pre : List (Nat × Nat)) : ∀ x ∈ ltP ws pre, x ∈ ws := by
  have : ∀ (pre : List (Nat × Nat)) (cur : List Int), (∀ x ∈ cur, x ∈ ws) → ∀ x ∈ pre.foldl (fun cur x => ltStep ws cur x.2) cur, x ∈ ws := by
    intro pre
    induction pre with
    | nil => intro cur h; exact h
    | cons y r ih =>
      intro cur h
      refine ih _ (fun x hx => ?_)
      unfold ltStep at hx
      dsimp only at hx
      split at hx
      · exact turnL_mem hx
      · exact h x hx
  exact this pre ws (fun x h => h)
def ltOf (s : Int) (xss : List (List Int)) (ws : List Int) : List Int × Int := if wcode s xss ws = 0 then (if clB (dirE (pairs xss)) ws = true then (ltK ws (ws.length - 1), 0) else ([], 5)) else ([], wcode s xss ws)
theorem ltOf_code {s : Int} {xss : List (List Int)} {ws : List Int} (h : ¬ wcode s xss ws = 0) : ltOf s xss ws = ([], wcode s xss ws) := by unfold ltOf; rw [if_neg h]
theorem ltOf_open {s : Int} {xss : List (List Int)} {ws : List Int} (h : wcode s xss ws = 0) (h2 : clB (dirE (pairs xss)) ws = false) : ltOf s xss ws = ([], 5) := by unfold ltOf; rw [if_pos h, h2]; rfl
theorem ltOf_yes {s : Int} {xss : List (List Int)} {ws : List Int} (h : wcode s xss ws = 0) (h2 : clB (dirE (pairs xss)) ws = true) : ltOf s xss ws = (ltK ws (ws.length - 1), 0) := by unfold ltOf; rw [if_pos h, if_pos h2]

theorem ownS_shape {w : World} {base e size n : Nat} {v : Value} {xs : List Value} (h : w.ownsRow base e size v n xs) : ∃ a c, v = .slice a n c := by
  rcases h.2 with ⟨rfl, h1⟩ | ⟨g, cap, cur, rfl, _⟩
  · exact ⟨none, 0, by rw [h1]⟩
  · exact ⟨_, _, rfl⟩
theorem cell_grown {B : Nat} {W W' : World} {row : Option Nat} (hg : W.grownBy W' row) (hr : ∀ r, row = some r → B ≤ r ∧ ∃ o : Obj, W.heap[r]? = some o ∧ o.isCells = false) {p : Addr} {v : Value} (hc : W.cell? p = some v) : W'.cell? p = some v :=
  (World.cell?_of_block (hg.block p.block (World.block_lt_of_cell? W p hc) (fun e => by
    obtain ⟨_, o, h1, h2⟩ := hr _ e.symm
    exact cell_block h1 h2 hc rfl))).trans hc
theorem frozen_grown {B : Nat} {W W' : World} {row : Option Nat} (hg : W.grownBy W' row) (hr : ∀ r, row = some r → B ≤ r ∧ ∃ o : Obj, W.heap[r]? = some o ∧ o.isCells = false) {p : Addr} {v : Value} {f : Bool} (hc : W.cell? p = some v) (hf : W.frozen? p = f) : W'.frozen? p = f :=
  (World.frozen?_of_block (hg.block p.block (World.block_lt_of_cell? W p hc) (fun e => by
    obtain ⟨_, o, h1, h2⟩ := hr _ e.symm
    exact cell_block h1 h2 hc rfl))).trans hf
theorem keeps_qt {W W' : World} (h : Qt W W') : KeepsOthers W W' := ⟨h.below.size, fun k o hk _ => (h.below.block k (Array.getElem?_eq_some_iff.1 hk).1).trans hk⟩

/-- what the loop keeps: where the least one lies -/
structure LsI (ws : List Int) (n T : Nat) (w : World) (pre : List (Nat × Nat)) (W : World) : Prop where
  below : Below w.heap.size w W
  fr : W.frozen? ⟨T, 0, none⟩ = false
  box : ∃ b o c, W.cell? ⟨T, 0, none⟩ = some (.slice (some ⟨b, o, none⟩) n c) ∧ b ≠ T ∧ ∀ j, j < n → W.cell? ⟨b, o + j, none⟩ = some (.int .i64 ((ltP ws pre).getD j 0))
theorem LsI.own {ws : List Int} {n T B : Nat} {w : World} (hB : w.heap.size ≤ B) : OwnFrom B (LsI ws n T w) := fun pre W W' row h hg hr => by
  obtain ⟨b, o, c, h1, h2, h3⟩ := h.box
  exact ⟨h.below.grown hg h.below.size (fun k e => Nat.le_trans hB (hr k e).1), frozen_grown hg hr h1 h.fr, b, o, c, cell_grown hg hr h1, h2, fun j hj => cell_grown hg hr (h3 j hj)⟩

theorem turnsOfV (a : Option Addr) (n c : Nat) (w : World) :
    Calls Try.prog 116 #[.slice a n c] w fun e w' => e = .returned (.func (.func 165) #[] #[.pointer (some ⟨w.heap.size, 0, none⟩)]) ∧ w' = w.alloc (.cells #[.slice a n c] 37) := by
  go_enter Try.func116, Try.ntmps116
  go_wp2
  go_ret
  exact ⟨rfl, rfl⟩

set_option maxRecDepth 100000 in
set_option maxHeartbeats 4000000 in
theorem leastIn {lo hi lo1 hi1 : Nat} (s : Int) (a : Option Addr) (n c : Nat) (xss : List (List Int)) (b1 o1 n1 c1 : Nat) (ws : List Int) (w : World) (h : RdR lo hi w (.slice a n c) xss) (hn : xss.length = n) (h1 : RdI lo1 hi1 w (.slice (some ⟨b1, o1, none⟩) n1 c1) ws) (hl : ws.length = n1) (hcap : n1 ≤ c1) (hw : wcode s xss ws = 0) (hcl : clB (dirE (pairs xss)) ws = true) :
    CallsIn Fence.wide 6 Try.prog 54 #[.agg #[.int .i64 s, .slice a n c], .slice (some ⟨b1, o1, none⟩) n1 c1] w fun e w' => ∃ a' c', e = .returned (.tuple #[.slice a' n1 c', .int .i64 0]) ∧ OwI w.heap.size w'.heap.size w' (.slice a' n1 c') (ltK ws (n1 - 1)) ∧ Below w.heap.size w w' := by
  obtain ⟨hg, hwk⟩ := wcode_ok hw
  obtain ⟨hz1, hz2, _, _⟩ := wkB_iff.1 hwk
  rw [hl] at hz1 hz2
  have HCW := Lib.hid (fun W (hB : Below w.heap.size w W) => checkWalk s a n c xss (some ⟨b1, o1, none⟩) n1 c1 ws W (h.below hB) hn (h1.below hB) hl hcap)
  have HCL := Lib.hid (fun W (hB : Below w.heap.size w W) => isClosed s a n c xss (some ⟨b1, o1, none⟩) n1 c1 ws W (h.below hB) hn hg (h1.below hB) hl hcap hwk)
  rw [hw] at HCW
  rw [hcl] at HCL
  have HC := Lib.hid (fun W (hB : Below w.heap.size w W) j (hj : j < n1) => show W.cell? ⟨b1, o1 + j, none⟩ = some (.int .i64 (ws.getD j 0)) by
    obtain ⟨b2, o2, e, g⟩ := (h1.below hB).at hl j hj
    simp only [Option.some.injEq, Addr.mk.injEq, and_true] at e
    obtain ⟨rfl, rfl⟩ := e
    exact g)
  have hbl : b1 < w.heap.size := World.block_lt_of_cell? w _ (HC.out w (Below.refl _ _) 0 (by omega))
  have HI := Lib.hid h1.2.1
  have HL := Lib.hid hl
  clear h h1 hn hw hcl hg hwk hl hcap
  refine callsIn_of_wp_marks Try.func54 rfl trivial ?_ rfl
  simp only [Try.ntmps54, List.size_toArray, List.length_cons, List.length_nil, Nat.reduceAdd, Nat.reduceSub, Array.replicate_succ, Array.replicate_zero, List.push_toArray, List.append_toArray, List.nil_append, List.cons_append]
  have hF1 : Fence.wide.fn 114 := trivial
  have hF2 : Fence.wide.fn 115 := trivial
  have hF3 : Fence.wide.fn 116 := trivial
  gi_wp2
  obtain ⟨V0, hV0⟩ : ∃ V, V = w.alloc (.cells #[.int .i64 s, .slice a n c] 28) := ⟨_, rfl⟩
  have hB0 : Below w.heap.size w V0 := by rw [hV0]; exact (Below.refl _ _).alloc (Nat.le_refl _) _
  have k0 : V0.cell? ⟨w.heap.size, 0, none⟩ = some (.int .i64 s) := by rw [hV0]; go_simp
  have k1 : V0.cell? ⟨w.heap.size, 1, none⟩ = some (.slice a n c) := by rw [hV0]; go_simp
  rw [← hV0]
  clear hV0
  refine (callsIn_wide.2 (HCW.out V0 hB0)).mono ?_
  rintro e w1 ⟨rfl, b1'⟩
  replace hB0 := hB0.next b1'
  replace k0 := b1'.keep k0
  replace k1 := b1'.keep k1
  have HB1 := Lib.hid hB0
  clear b1' HCW hB0
  gi_wp2
  refine (callsIn_wide.2 (HCL.out w1 HB1.out)).mono ?_
  rintro e w2 ⟨rfl, b2⟩
  have HB2 := Lib.hid (HB1.out.next b2)
  clear b2 HB1 HCL k0 k1
  gi_wp2
  obtain ⟨T, hT⟩ : ∃ T, T = w2.heap.size := ⟨_, rfl⟩
  obtain ⟨V1, hV1⟩ : ∃ V, V = w2.alloc (.cells #[.slice (some ⟨b1, o1, none⟩) n1 c1] 37) := ⟨_, rfl⟩
  have hb1 : Below w2.heap.size w2 V1 := by rw [hV1]; exact (Below.refl _ _).alloc (Nat.le_refl _) _
  have t0 : V1.cell? ⟨T, 0, none⟩ = some (.slice (some ⟨b1, o1, none⟩) n1 c1) := by rw [hV1, hT]; go_simp
  have tf : V1.frozen? ⟨T, 0, none⟩ = false := by rw [hV1, hT]; go_simp
  have hTs : T < V1.heap.size := by rw [hV1, hT]; simp
  rw [← hV1, ← hT]
  have HB3 := Lib.hid (HB2.out.next hb1)
  have hTw : w.heap.size ≤ T := by rw [hT]; exact HB2.out.size
  clear hV1 hb1 hT HB2
  refine (callsIn_wide.2 (turnsOfV _ n1 c1 V1)).mono ?_
  rintro e V2 ⟨rfl, hV2⟩
  have hb2 : Below V1.heap.size V1 V2 := by rw [hV2]; exact (Below.refl _ _).alloc (Nat.le_refl _) _
  have x0 : V2.cell? ⟨V1.heap.size, 0, none⟩ = some (.slice (some ⟨b1, o1, none⟩) n1 c1) := by rw [hV2]; go_simp
  have hXs : V1.heap.size < V2.heap.size := by rw [hV2]; simp
  replace t0 := hb2.keep t0
  replace tf := hb2.keepf hTs tf
  have HB4 := Lib.hid (HB3.out.next hb2)
  have hbs := HB3.out.size
  obtain ⟨Bx, hBx⟩ : ∃ Bx, Bx = V1.heap.size := ⟨_, rfl⟩
  rw [← hBx] at x0 hXs ⊢
  have hTB : T < Bx := by omega
  clear hV2 hb2 HB3 hBx hTs hbs
  gi_wp2
  have hTV : T < V2.heap.size := by omega
  refine range_told (GdT ws n1 V2.heap.size) (fun x V l o o' h1 h2 hgd => ⟨hgd.1, hgd.2.1, hgd.2.2.1, fun j hj => cell_put o' h1 h2 (hgd.2.2.2 j hj)⟩) rfl (by omega) (gf := 165) (lb := #[.pointer (some ⟨Bx, 0, none⟩)]) rfl trivial (enters_of Try.func165 (by kernel_rfl) rfl)
    (turnsRun 5 (by omega) 0 Bx b1 o1 n1 c1 ws V2 HL.out (by omega) hz2 hXs (by have := HB4.out.size; omega) x0 (fun j hj => HC.out V2 HB4.out j hj))
    (Below.refl _ _) (fun _ => rfl) (fun h k => KeepC.trans h k) (fun V l o o' _ h ho _ => keepC_put V l o o' h ho)
    (LsI ws n1 T w) (fun _ => False) (LsI.own HB4.out.size) (fun _ _ _ _ h _ _ => h) ⟨HB4.out, tf, b1, o1, c1, t0, by omega, fun j hj => HC.out V2 HB4.out j hj⟩
    (fun x => { tmps := #[.agg #[.int .i64 s, .slice a n c], .slice (some ⟨b1, o1, none⟩) n1 c1, .pointer (some ⟨w.heap.size, 0, none⟩), undef, .slice none 0 0, .int .i64 0, .int .i64 0, .pointer (some ⟨T, 0, none⟩), .slice (some ⟨x.1, x.2, none⟩) n1 n1, .agg #[.int .i64 s, .slice a n c], .slice (some ⟨b1, o1, none⟩) n1 c1, .int .i64 0, .int .i64 0, .bool false, undef, .agg #[.int .i64 s, .slice a n c], .slice (some ⟨b1, o1, none⟩) n1 c1, .bool true, .bool false, .slice (some ⟨b1, o1, none⟩) n1 c1, .slice (some ⟨b1, o1, none⟩) n1 c1, .func (.func 165) #[] #[.pointer (some ⟨Bx, 0, none⟩)], .slice (some ⟨x.1, x.2, none⟩) n1 n1, undef, undef, undef, undef, undef, undef, undef], defers := [] }) ?assign ?body ?done ?stop
  case assign =>
    intro l x W K hK
    gi_wp2
    exact hK
  case body =>
    rintro l pre ⟨g, k⟩ V hI ⟨hk1, hk2, hg0, hgc⟩
    obtain ⟨b, o, c', h1, h2, h3⟩ := hI.box
    have hf := hI.fr
    dsimp only at hk1 hk2 hg0 hgc
    have hx : RdI 0 V.heap.size V (.slice (some ⟨g, k, none⟩) n1 n1) (turnL ws k) := by
      have hlen : (turnL ws k).length = n1 := by rw [turnL_len, HL.out]
      have hgw := World.block_lt_of_cell? V _ (hgc 0 (by omega))
      exact ⟨by omega, fun z hz => HI.out z (turnL_mem hz), .inr ⟨g, k, n1, by rw [hlen], by omega, Nat.zero_le _, hgw, fun j hj => hgc j (by omega)⟩⟩
    have hy : RdI 0 V.heap.size V (.slice (some ⟨b, o, none⟩) n1 c') (ltP ws pre) := by
      have hlen : (ltP ws pre).length = n1 := by rw [ltP_len, HL.out]
      have hgw := World.block_lt_of_cell? V _ (h3 0 (by omega))
      exact ⟨by omega, fun z hz => HI.out z (ltP_mem pre z hz), .inr ⟨b, o, c', by rw [hlen], by omega, Nat.zero_le _, hgw, fun j hj => h3 j (by omega)⟩⟩
    have HCMP := Lib.hid (slCompare _ n1 n1 (turnL ws k) _ c' (ltP ws pre) V hx (by rw [turnL_len, HL.out]) hy (by rw [ltP_len, HL.out]) (by omega))
    have hbef := cmpL_bef (turnL ws k) (ltP ws pre) n1 0
    have hst := ltP_s ws pre (g, k)
    unfold ltStep at hst
    rw [HL.out] at hst
    dsimp only at hst
    generalize cmpL (turnL ws k) (ltP ws pre) n1 0 = r at HCMP hbef
    have HH := Lib.hid (⟨hI, h2, h3, hgc, hg0⟩ : _ ∧ _ ∧ _ ∧ _ ∧ _)
    have HST := Lib.hid hst
    clear hx hy h3 hgc hI hst
    gi_wp2
    refine ⟨trivial, CallsIn.mono (show CallsIn (Fence.wide.inRound l) 3 _ _ _ _ _ from callsIn_wide.2 HCMP.out) ?_⟩
    rintro e W3 ⟨rfl, q3⟩
    obtain ⟨hI, h2, h3, hgc, hg0⟩ := HH.out
    have hk3 := keeps_qt q3
    have h1' := q3.cell h1
    have hf' := q3.below.keepf (World.block_lt_of_cell? V _ h1) hf
    have hB3 := hI.below.qt q3
    have hTg : T ≠ g := by omega
    by_cases hr : r < 0
    · have hb := hbef.1 hr
      have hst := HST.out
      rw [if_pos hb] at hst
      have hdr : decide (r < 0) = true := decide_eq_true hr
      have HF := Lib.hid (show KeepsOthers V (W3.setCell ⟨T, 0, none⟩ (.slice (some ⟨g, k, none⟩) n1 n1)) ∧ KeepC V2.heap.size V (W3.setCell ⟨T, 0, none⟩ (.slice (some ⟨g, k, none⟩) n1 n1)) ∧ LsI ws n1 T w (pre ++ [(g, k)]) (W3.setCell ⟨T, 0, none⟩ (.slice (some ⟨g, k, none⟩) n1 n1)) from by
        refine ⟨hk3.trans (KeepsOthers.setCell W3 _ _), fun p v hp hc => ?_, ⟨hB3.setCell (p := ⟨T, 0, none⟩) hTw _, by rw [World.frozen?_setCell]; exact hf', g, k, n1, World.cell?_setCell_same _ _ _ h1', fun e => hTg e.symm, fun j hj => ?_⟩⟩
        · rw [World.cell?_setCell_other _ _ _ _ (by intro e; rw [← e] at hp; dsimp only at hp; omega)]
          exact q3.cell hc
        · rw [World.cell?_setCell_other _ _ _ _ (by intro e; exact hTg (by injection e)), hst]
          exact q3.cell (hgc j hj))
      clear hbef hb hst hr HH hI h2 h3 hgc hk3 hB3
      gi_wp2
      exact HF.out
    · have hb : ¬ bef (turnL ws k) (ltP ws pre) n1 0 = true := fun h => hr (hbef.2 h)
      have hst := HST.out
      rw [if_neg hb] at hst
      have hdr : decide (r < 0) = false := decide_eq_false hr
      have HF := Lib.hid (show KeepsOthers V W3 ∧ KeepC V2.heap.size V W3 ∧ LsI ws n1 T w (pre ++ [(g, k)]) W3 from
        ⟨hk3, fun p v _ hc => q3.cell hc, ⟨hB3, hf', b, o, c', h1', h2, fun j hj => by rw [hst]; exact q3.cell (h3 j hj)⟩⟩)
      clear hbef hb hst hr HH hI h2 h3 hgc hk3 hB3
      gi_wp2
      exact HF.out
  case done =>
    rintro D xs V hD ⟨g, rfl⟩ hI hK
    obtain ⟨b, o, c', h1, h2, h3⟩ := hI.box
    rw [ltP_all] at h3
    have hlen : (ltK ws (n1 - 1)).length = n1 := by rw [ltK_len, HL.out]
    have HCL := Lib.hid (slClone n1 c' ⟨b, o, none⟩ (ltK ws (n1 - 1)) V (by omega) hlen (fun j u hj => by
      have hjn : j < n1 := by
        have := (List.getElem?_eq_some_iff.1 hj).1
        rw [List.length_map, hlen] at this; exact this
      rw [List.getElem?_map, List.getElem?_eq_getElem (by rw [hlen]; exact hjn)] at hj
      simp only [Option.map_some, Option.some.injEq] at hj
      have := h3 j hjn
      rw [← hj, Addr.add_lit]
      simpa [List.getD, List.getElem?_eq_getElem (show j < (ltK ws (n1 - 1)).length by rw [hlen]; exact hjn)] using this))
    have HH := Lib.hid (⟨hI.below, hK⟩ : _ ∧ _)
    have HLEN := Lib.hid hlen
    clear h2 h3 hI hlen
    gi_wp2
    refine ⟨trivial, (callsIn_wide.2 HCL.out).mono ?_⟩
    rintro e W3 ⟨v, rfl, o3, b3⟩
    obtain ⟨va, vc, rfl⟩ := ownS_shape o3
    have hK3 : W3.heap[D]? = some (.deferred (some [])) := (b3.block D (Array.getElem?_eq_some_iff.1 HH.out.2).1).trans HH.out.2
    have hB3 := HH.out.1.next b3
    have hVs := HH.out.1.size
    clear HCL h1
    gi_wp2
    refine ⟨by simp, .inl ⟨_, _, rfl, run_takeDeferred hK3, ?_⟩⟩
    have ho := ownsRow_putObj o3 (.deferred none) hK3 rfl
    have hO : OwI w.heap.size (W3.putObj D (.deferred none)).heap.size (W3.putObj D (.deferred none)) (.slice va n1 vc) (ltK ws (n1 - 1)) := (OwI.mk ho (by omega) (fun x hx => HI.out x (ltK_mem _ x hx))).mono hVs (Nat.le_refl _)
    refine ⟨_, ?_, va, vc, rfl, hO, hB3.trans (belowK_b (w := w) (Nat.le_refl _) W3 D _ _ (by have := HB4.out.size; omega) hK3 rfl rfl)⟩
    simp [results, Try.results54, go_sem]
  case stop =>
    rintro D V _ h _
    exact h.elim

end Go.Proofs.Ytebgbplhcaocoaa
