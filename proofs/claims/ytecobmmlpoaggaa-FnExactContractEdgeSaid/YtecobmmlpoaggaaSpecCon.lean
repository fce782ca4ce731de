/- ContractEdge of the model: the edge is left out, the vertices turn. -/
import Derived.Test.YtecobmmlpoaggaaConPure
import Derived.Deep.RegionHeld3
set_option linter.unusedSimpArgs false
set_option linter.unusedVariables false
namespace Go.Proofs.Ytecobmmlpoaggaa
open Go.RowKit

/-- both numbers of a row turn, or one, or none -/
theorem OwP.two {lo x : Nat} {w : World} {g n c : Nat} {rvs : List Value} {xss : List (List Int)} (h : OwP lo x w g n c rvs xss) {k : Nat} (hk : k < n) (h2 : (xss.getD k []).length = 2) :
    ∃ b cb, w.cell? ⟨g, k, none⟩ = some (.slice (some ⟨b, 0, none⟩) 2 cb) ∧ w.cell? ⟨b, 0, none⟩ = some (.int .i64 ((xss.getD k []).getD 0 0)) ∧ w.cell? ⟨b, 1, none⟩ = some (.int .i64 ((xss.getD k []).getD 1 0)) ∧ w.frozen? ⟨b, 0, none⟩ = false ∧ w.frozen? ⟨b, 1, none⟩ = false ∧ lo ≤ b ∧ b < w.heap.size ∧ b ≠ x ∧ b ≠ g ∧ I64 ((xss.getD k []).getD 0 0) ∧ I64 ((xss.getD k []).getD 1 0) ∧
      (∀ y, I64 y → OwP lo x (w.setCell ⟨b, 0, none⟩ (.int .i64 y)) g n c rvs (xss.set k [y, (xss.getD k []).getD 1 0])) ∧
      (∀ y, I64 y → OwP lo x (w.setCell ⟨b, 1, none⟩ (.int .i64 y)) g n c rvs (xss.set k [(xss.getD k []).getD 0 0, y])) ∧
      (∀ y z, I64 y → I64 z → OwP lo x ((w.setCell ⟨b, 0, none⟩ (.int .i64 y)).setCell ⟨b, 1, none⟩ (.int .i64 z)) g n c rvs (xss.set k [y, z])) ∧
      xss.set k [(xss.getD k []).getD 0 0, (xss.getD k []).getD 1 0] = xss := by
  have hl := h.len
  have hkx : k < xss.length := by omega
  obtain ⟨b, cb, q1, q2, q3, q4, q5, q6, q7, q9, q8⟩ := h.store hk (j := 0) (by omega)
  obtain ⟨b', cb', p1, p2, p3, _, _, _, _, p9, p8⟩ := h.store hk (j := 1) (by omega)
  have hbb : b' = b := by
    have := p1.symm.trans q1
    simp only [Value.slice.injEq, Option.some.injEq, Addr.mk.injEq] at this
    exact this.1.1
  subst hbb
  have hrow := (h.row hk).1
  rw [q1, h2] at hrow
  generalize he : xss.getD k [] = e at *
  match e, h2 with
  | [a, d], _ =>
    refine ⟨b', cb, hrow, q2, p2, q3, p3, q4, q5, q6, q7, q9, p9, fun y hy => q8 y hy, fun y hy => p8 y hy, fun y z hy hz => ?_, ?_⟩
    · have h1 := q8 y hy
      have e1 : (xss.set k ([a, d].set 0 y)).getD k [] = [y, d] := by simp [List.getD, hkx]
      obtain ⟨b2, cb2, r1, _, _, _, _, _, _, _, r8⟩ := h1.store hk (j := 1) (by rw [e1]; simp)
      have hb2 : b2 = b' := by
        have := r1.symm.trans q1
        simp only [Value.slice.injEq, Option.some.injEq, Addr.mk.injEq] at this
        exact this.1.1
      subst hb2
      have := r8 z hz
      rw [e1] at this
      simpa using this
    · apply List.ext_getElem?
      intro i
      rw [List.getElem?_set]
      by_cases hi : k = i
      · subst hi
        simp [hkx]
        have := he
        simp [List.getD, List.getElem?_eq_getElem hkx] at this
        exact this.symm
      · rw [if_neg hi]

def conPart (x y : Int) (xss : List (List Int)) (i : Nat) : List (List Int) := (xss.take i).map (conRow x y) ++ xss.drop i
theorem conPart_get {x y : Int} {xss : List (List Int)} {i : Nat} (h : i < xss.length) : (conPart x y xss i).getD i [] = xss.getD i [] := by
  have hl : ((xss.take i).map (conRow x y)).length = i := by rw [List.length_map, List.length_take]; omega
  simp only [conPart, List.getD]
  rw [List.getElem?_append_right (by omega), hl, Nat.sub_self, List.getElem?_drop]
  rfl
theorem conPart_step {x y : Int} {xss : List (List Int)} {i : Nat} (h : i < xss.length) : (conPart x y xss i).set i (conRow x y (xss.getD i [])) = conPart x y xss (i + 1) := by
  have hl : ((xss.take i).map (conRow x y)).length = i := by rw [List.length_map, List.length_take]; omega
  have e1 : xss.drop i = xss.getD i [] :: xss.drop (i + 1) := by
    rw [List.drop_eq_getElem_cons h]
    simp [List.getD, List.getElem?_eq_getElem h]
  unfold conPart
  rw [List.set_append_right _ _ (by omega), hl, Nat.sub_self, e1, List.set_cons_zero, take_snocR h, List.map_append, List.append_assoc]
  rfl
theorem conPart_all (x y : Int) (xss : List (List Int)) : conPart x y xss xss.length = conRows x y xss := by simp [conPart, conRows]

set_option maxHeartbeats 3200000 in
theorem l01Contract {lo hi : Nat} (s : Int) (a : Option Addr) (n c : Nat) (xss : List (List Int)) (k : Nat) (w : World) (h : RdR lo hi w (.slice a n c) xss) (hn : xss.length = n) (hg : grB s xss = true) (hk : k < n) :
    Calls Try.prog 72 #[.agg #[.int .i64 s, .slice a n c], .int .i64 k] w fun e w' => ∃ a' c', e = .returned (.agg #[.int .i64 (s - 1), .slice a' (conRows ((xss.getD k []).getD 0 0) ((xss.getD k []).getD 1 0) (xss.eraseIdx k)).length c']) ∧
      OwR w.heap.size w'.heap.size w' (.slice a' (conRows ((xss.getD k []).getD 0 0) ((xss.getD k []).getD 1 0) (xss.eraseIdx k)).length c') (conRows ((xss.getD k []).getD 0 0) ((xss.getD k []).getD 1 0) (xss.eraseIdx k)) ∧ Below w.heap.size w w' := by
  have hb0 : ∀ o o', Below w.heap.size w ((w.alloc o).alloc o') := fun o o' => ((Below.refl _ _).alloc (Nat.le_refl _) o).alloc (by simp) o'
  obtain ⟨hs1, hs2, h3, h4⟩ := grB_iff hg
  have hn10 : n ≤ 10 := by omega
  obtain ⟨hq1, hq2, hq3, hq4, hq5⟩ := h4 k (by omega)
  obtain ⟨b, off, rv, rfl, h1, r1⟩ := h.at hn k hk
  obtain ⟨b', off', cap', rfl, g1, g2⟩ := r1.two hq1
  have hE2 : ∀ e ∈ xss.eraseIdx k, e.length = 2 := fun e he => gr_two hg e (List.mem_of_mem_eraseIdx he)
  generalize hx0 : (xss.getD k []).getD 0 0 = x at *
  generalize hx1 : (xss.getD k []).getD 1 0 = y at *
  have HN := Lib.hid hn
  have HG := Lib.hid hg
  have HE2 := Lib.hid hE2
  clear hn hg h4 hE2 r1 hx0 hx1 h3 hq1
  obtain ⟨E, hE⟩ : ∃ E, E = xss.eraseIdx k := ⟨_, rfl⟩
  have hEl : E.length = n - 1 := by rw [hE, List.length_eraseIdx, if_pos (by rw [HN.out]; exact hk), HN.out]
  rw [← hE] at HE2 ⊢
  have HEE := Lib.hid hE
  have HEL := Lib.hid hEl
  obtain ⟨N, hN⟩ : ∃ N, N = E.length := ⟨_, rfl⟩
  have HNE := Lib.hid hN
  have hN9 : N ≤ 9 := by omega
  obtain ⟨F, hF⟩ : ∃ F, F = conRows x y E := ⟨_, rfl⟩
  rw [← hF]
  have HFF := Lib.hid hF
  clear hE hEl hN hF
  go_enter Try.func72, Try.ntmps72
  go_wp2
  have hA := hb0 (.cells #[.int .i64 s, .slice (some ⟨b, off, none⟩) n c] 28) (.cells #[.int .i64 0, .slice none 0 0] 28)
  have k1 := hA.keep h1
  have k2 := hA.keep g1
  have k3 := hA.keep g2
  have k4 : ((w.alloc (.cells #[.int .i64 s, .slice (some ⟨b, off, none⟩) n c] 28)).alloc (.cells #[.int .i64 0, .slice none 0 0] 28)).cell? ⟨w.heap.size, 1, none⟩ = some (.slice (some ⟨b, off, none⟩) n c) := by go_simp
  go_region_held3 (fun W' => W'.cell? ⟨w.heap.size, 1, none⟩ = some (.slice (some ⟨b, off, none⟩) n c) ∧ W'.cell? ⟨b, off + k, none⟩ = some (.slice (some ⟨b', off', none⟩) 2 cap') ∧ W'.cell? ⟨b', off', none⟩ = some (.int .i64 x) ∧ W'.cell? ⟨b', off' + 1, none⟩ = some (.int .i64 y))
    (first | (exact ⟨k4, k1, k2, k3⟩) | go_keep) (fail)
  all_goals
    have hAe : (if y < x then y else x) = lowI x y := rfl
    have hBe : (if x < y then y else x) = topI x y := rfl
    rw [hAe, hBe]
    clear k1 k2 k3 k4 hAe hBe hA
    have hrow : ∀ e, conRow x y e = e.map (vb (lowI x y) (topI x y)) := fun _ => rfl
    have HROW := Lib.hid hrow
    have hlow : 0 ≤ lowI x y ∧ lowI x y < s := by unfold lowI; split <;> omega
    have htop : 0 ≤ topI x y := by unfold topI; split <;> omega
    generalize lowI x y = A at *
    generalize topI x y = B at *
    clear hrow
    go_wp2_with fail
    refine calls_gen (fun W => Below w.heap.size w W ∧ w.heap.size + 1 < W.heap.size ∧ W.cell? ⟨w.heap.size, 0, none⟩ = some (.int .i64 s) ∧ W.cell? ⟨w.heap.size, 1, none⟩ = some (.slice (some ⟨b, off, none⟩) n c) ∧ W.cell? ⟨w.heap.size + 1, 0, none⟩ = some (.int .i64 0) ∧ W.cell? ⟨w.heap.size + 1, 1, none⟩ = some (.slice none 0 0) ∧ W.frozen? ⟨w.heap.size + 1, 0, none⟩ = false ∧ W.frozen? ⟨w.heap.size + 1, 1, none⟩ = false) ⟨(hb0 _ _).drew, by simp, by go_simp, by go_simp, by go_simp, by go_simp, by go_simp, by go_simp⟩ ?_
    rintro W ⟨hB, hz, k1, k2, k3, k4, f3, f4⟩
    obtain ⟨R, hR⟩ : ∃ R, R = w.heap.size + 1 := ⟨_, rfl⟩
    rw [← hR] at hz k3 k4 f3 f4 ⊢
    have hwR : w.heap.size < R := by omega
    clear hR
    refine (l01DeleteP s _ n c xss k W (h.below hB) HN.out (by omega)).mono ?_
    rw [← HEE.out, ← HNE.out]
    rintro e w2 ⟨g, c2, x0, rvs, rfl, hP, b2⟩
    replace k1 := b2.keep k1
    replace k2 := b2.keep k2
    replace k3 := b2.keep k3
    replace k4 := b2.keep k4
    replace f3 := b2.keepf hz f3
    replace f4 := b2.keepf hz f4
    replace hB := hB.next b2
    have hz2 : R < w2.heap.size := Nat.lt_of_lt_of_le hz b2.size
    have hg1 := hP.lt
    have hgR : R < g := by omega
    have hsw : IntKind.i64.wrap (s - 1) = s - 1 := IntWalk.i64_in _ (by omega)
    have hPx := (hP.rebox (Nat.le_refl w2.heap.size)).below ((Below.refl _ _).alloc (Nat.le_refl _) (.cells #[.int .i64 (s - 1), .slice (some ⟨g, 0, none⟩) N c2] 28))
    have HPX := Lib.hid hPx
    have al1 := fun o => ((Below.refl w2.heap.size w2).alloc (Nat.le_refl _) o).keep k1
    have hne1 : ¬ w.heap.size = w2.heap.size := by omega
    clear b2 hP hPx
    go_wp2
    go_loopw [8] (fun i wr => ∃ q : Nat, q ≤ N ∧ i = .int .i64 q ∧ OwP W.heap.size w2.heap.size wr g N c2 rvs (conPart x y E q) ∧ Below w.heap.size w wr ∧ w2.heap.size < wr.heap.size ∧
      wr.cell? ⟨R, 0, none⟩ = some (.int .i64 0) ∧ wr.cell? ⟨R, 1, none⟩ = some (.slice none 0 0) ∧ wr.frozen? ⟨R, 0, none⟩ = false ∧ wr.frozen? ⟨R, 1, none⟩ = false ∧
      wr.cell? ⟨w2.heap.size, 0, none⟩ = some (.int .i64 (s - 1)) ∧ wr.cell? ⟨w2.heap.size, 1, none⟩ = some (.slice (some ⟨g, 0, none⟩) N c2)) (fun i _ => N - (intOf i).toNat)
    case atStart =>
      have hb := (Below.refl w2.heap.size w2).alloc (Nat.le_refl _) (.cells #[.int .i64 (s - 1), .slice (some ⟨g, 0, none⟩) N c2] 28)
      have e0 : conPart x y E 0 = E := by simp [conPart]
      exact ⟨0, Nat.zero_le _, rfl, by rw [e0]; exact HPX.out, hB.alloc hB.size _, by simp, hb.keep k3, hb.keep k4, hb.keepf hz2 f3, hb.keepf hz2 f4, by go_simp, by go_simp⟩
    case round =>
      clear k1 k2 k3 k4 f3 f4 al1 hB
      obtain ⟨q, hq, rfl, hP, hB, hx, k3, k4, f3, f4, y0, y1⟩ := hrel
      by_cases hlt : q < N
      · have hqE : q < E.length := by rw [← HNE.out]; exact hlt
        have hget := conPart_get (x := x) (y := y) hqE
        have hst := conPart_step (x := x) (y := y) hqE
        have hr2 : (E.getD q []).length = 2 := HE2.out _ (by
          have : E.getD q [] = E[q] := by simp [List.getD, List.getElem?_eq_getElem hqE]
          rw [this]; exact List.getElem_mem hqE)
        obtain ⟨b2, cb, e0, e1, e2, e3, e4, l1, l2, l3, l4, i1, i2, t1, t2, t3, t4⟩ := hP.two hlt (by rw [hget]; exact hr2)
        rw [hget] at e1 e2 i1 i2 t1 t2 t4
        rw [HROW.out] at hst
        generalize E.getD q [] = row at *
        obtain ⟨p0, p1, rfl⟩ : ∃ p0 p1, row = [p0, p1] := by
          match row, hr2 with
          | [p0, p1], _ => exact ⟨p0, p1, rfl⟩
        simp only [List.getD, List.getElem?_cons_zero, List.getElem?_cons_succ, Option.getD_some, List.map_cons, List.map_nil] at e1 e2 i1 i2 t1 t2 t4 hst
        have FIN : ∀ W', OwP W.heap.size w2.heap.size W' g N c2 rvs (conPart x y E (q+1)) → Chg b2 (b2+1) wr W' → OwP W.heap.size w2.heap.size W' g N c2 rvs (conPart x y E (q+1)) ∧ Below w.heap.size w W' ∧ w2.heap.size < W'.heap.size ∧
            W'.cell? ⟨R, 0, none⟩ = some (.int .i64 0) ∧ W'.cell? ⟨R, 1, none⟩ = some (.slice none 0 0) ∧ W'.frozen? ⟨R, 0, none⟩ = false ∧ W'.frozen? ⟨R, 1, none⟩ = false ∧
            W'.cell? ⟨w2.heap.size, 0, none⟩ = some (.int .i64 (s - 1)) ∧ W'.cell? ⟨w2.heap.size, 1, none⟩ = some (.slice (some ⟨g, 0, none⟩) N c2) := by
          intro W' h1 h2
          have hRb : R < b2 ∨ b2 + 1 ≤ R := by omega
          have hXb : w2.heap.size < b2 ∨ b2 + 1 ≤ w2.heap.size := by omega
          have hRw : R < wr.heap.size := by omega
          exact ⟨h1, hB.chgn h2 (by omega) hB.size, Nat.lt_of_lt_of_le hx h2.size, h2.cell k3 hRb, h2.cell k4 hRb, h2.frozen hRw hRb f3, h2.frozen hRw hRb f4, h2.cell y0 hXb, h2.cell y1 hXb⟩
        have HFIN := Lib.hid FIN
        have HT := Lib.hid (⟨t1, t2, t3, t4, hP⟩ : _ ∧ _ ∧ _ ∧ _ ∧ _)
        have HST := Lib.hid hst
        have C1 : Chg b2 (b2+1) wr wr := Chg.refl _ _ _
        have C2 : ∀ v, Chg b2 (b2+1) wr (wr.setCell ⟨b2, 0, none⟩ v) := fun v => (Chg.refl b2 (b2+1) wr).setCell (p := ⟨b2, 0, none⟩) ⟨Nat.le_refl _, Nat.lt_succ_self _⟩ v
        have C3 : ∀ v, Chg b2 (b2+1) wr (wr.setCell ⟨b2, 1, none⟩ v) := fun v => (Chg.refl b2 (b2+1) wr).setCell (p := ⟨b2, 1, none⟩) ⟨Nat.le_refl _, Nat.lt_succ_self _⟩ v
        have C4 : ∀ v u, Chg b2 (b2+1) wr ((wr.setCell ⟨b2, 0, none⟩ v).setCell ⟨b2, 1, none⟩ u) := fun v u => (C2 v).setCell (p := ⟨b2, 1, none⟩) ⟨Nat.le_refl _, Nat.lt_succ_self _⟩ u
        have HCC := Lib.hid (⟨C1, C2, C3, C4⟩ : _ ∧ _ ∧ _ ∧ _)
        have hIA : I64 A := by unfold I64; omega
        have hz1 : ¬ w2.heap.size = b2 := by omega
        have hz1' : ¬ b2 = w2.heap.size := by omega
        have hz3 : ¬ g = b2 := by omega
        have hz3' : ¬ b2 = g := by omega
        clear t1 t2 t3 t4 FIN C1 C2 C3 C4 hP k3 k4 f3 f4 hget hst
        have W0 : (p0 = B ∧ vb A B p0 = A) ∨ (¬ p0 = B ∧ B < p0 ∧ vb A B p0 = p0 - 1) ∨ (¬ p0 = B ∧ ¬ B < p0 ∧ vb A B p0 = p0) := by
          unfold vb
          by_cases h1 : p0 = B
          · left; exact ⟨h1, by rw [if_pos h1]⟩
          · by_cases h2 : B < p0
            · right; left; exact ⟨h1, h2, by rw [if_neg h1, if_pos h2]⟩
            · right; right; exact ⟨h1, h2, by rw [if_neg h1, if_neg h2]⟩
        have W1 : (p1 = B ∧ vb A B p1 = A) ∨ (¬ p1 = B ∧ B < p1 ∧ vb A B p1 = p1 - 1) ∨ (¬ p1 = B ∧ ¬ B < p1 ∧ vb A B p1 = p1) := by
          unfold vb
          by_cases h1 : p1 = B
          · left; exact ⟨h1, by rw [if_pos h1]⟩
          · by_cases h2 : B < p1
            · right; left; exact ⟨h1, h2, by rw [if_neg h1, if_pos h2]⟩
            · right; right; exact ⟨h1, h2, by rw [if_neg h1, if_neg h2]⟩
        have hs0 : B < p0 → IntKind.i64.wrap (p0 - 1) = p0 - 1 := fun h => IntWalk.i64_in _ (by unfold I64 at i1; omega)
        have hs1' : B < p1 → IntKind.i64.wrap (p1 - 1) = p1 - 1 := fun h => IntWalk.i64_in _ (by unfold I64 at i2; omega)
        have j0 : B < p0 → I64 (p0 - 1) := fun h => by unfold I64 at i1 ⊢; omega
        have j1 : B < p1 → I64 (p1 - 1) := fun h => by unfold I64 at i2 ⊢; omega
        rcases W0 with ⟨c1, v0⟩ | ⟨c1, d1, v0⟩ | ⟨c1, d1, v0⟩ <;> rcases W1 with ⟨c2', v1⟩ | ⟨c2', d2, v1⟩ | ⟨c2', d2, v1⟩
        all_goals
          rw [v0, v1] at HST
          have V := Lib.hid (⟨v0, v1⟩ : _ ∧ _)
          clear v0 v1
          first | (have hs0 := hs0 d1; have j0 := j0 d1) | skip
          first | (have hs1' := hs1' d2; have j1 := j1 d2) | skip
          go_wp2
          refine wp_loop_rounds 3 ?_
          rw [rounds_succ]
          go_wp2
          rw [rounds_succ]
          go_wp2
          rw [rounds_succ]
          go_wp2
          go_roundw
          case rel =>
            refine ⟨q+1, by omega, by go_num, HFIN.out _ ?_ ?_⟩
            · rw [← HST.out]
              first
              | exact HT.out.2.2.1 _ _ (by assumption) (by assumption)
              | exact HT.out.1 _ (by assumption)
              | exact HT.out.2.1 _ (by assumption)
              | (rw [HT.out.2.2.2.1]; exact HT.out.2.2.2.2)
            · first | exact HCC.out.2.2.2 _ _ | exact HCC.out.2.1 _ | exact HCC.out.2.2.1 _ | exact HCC.out.1
          case measure => simp [intOf]; omega
      · obtain rfl : q = N := by omega
        have hfin : conPart x y E q = F := by rw [HNE.out, conPart_all, ← HFF.out]
        rw [hfin] at hP
        have hFl := hP.len
        have hO := hP.owr (by omega)
        have hRX : ¬ R = w2.heap.size := by omega
        have hRX' : ¬ w2.heap.size = R := by omega
        have HF2 := Lib.hid (⟨hO, hFl⟩ : _ ∧ _)
        clear hP hFl hO
        go_wp2
        refine bodyPost_ret (v := .agg #[.int .i64 (s - 1), .slice (some ⟨g, 0, none⟩) q c2]) (by simp [results, Try.results72, go_sem, k3, k4]) rfl ⟨some ⟨g, 0, none⟩, c2, by rw [HF2.out.2], ?_, ?_⟩
        · have hO := HF2.out.1
          rw [HF2.out.2]
          refine (OwR.chg (lo' := R) (hi' := R + 1) hO ?_ (.inr (by omega))).mono (by omega) (by simp [World.setCell])
          exact ((Chg.refl R (R + 1) _).setCell (by constructor <;> simp) _).setCell (by constructor <;> simp) _
        · repeat (refine Below.setCell ?_ (by simp <;> omega) _)
          exact hB

end Go.Proofs.Ytecobmmlpoaggaa
