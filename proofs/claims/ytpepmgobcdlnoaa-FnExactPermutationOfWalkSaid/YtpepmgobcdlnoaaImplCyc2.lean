/- CyclicCover of the program, where nothing is wrong. -/
import Derived.Test.YtpepmgobcdlnoaaSpecCyc
import Derived.Test.YtpepmgobcdlnoaaPartRows
import Derived.Test.YtpepmgobcdlnoaaCyc
import Derived.Test.YtpepmgobcdlnoaaImplCyc
import Derived.Deep.RegionHeld3
import Derived.Deep.RegionLaw
set_option linter.unusedSimpArgs false
set_option linter.unusedVariables false
set_option maxRecDepth 100000
namespace Go.Proofs.Ytpepmgobcdlnoaa
open Go.RowKit

theorem chg4 (w : World) (b : Nat) (v0 v1 v2 v3 : Value) : Chg b (b+1) w ((((w.setCell ⟨b, 0, none⟩ v0).setCell ⟨b, 1, none⟩ v1).setCell ⟨b, 2, none⟩ v2).setCell ⟨b, 3, none⟩ v3) := by
  repeat (refine Chg.setCell ?_ (by constructor <;> simp) _)
  exact Chg.refl _ _ _

theorem OwV.boxS {lo x n g c : Nat} {w w' : World} {rvs : List Value} {xss : List (List Int)} (h : OwV lo x w (.slice (some ⟨g, 0, none⟩) n c) n rvs xss) (hc : Chg x (x+1) w w') : OwV lo x w' (.slice (some ⟨g, 0, none⟩) n c) n rvs xss := by
  rcases h with ⟨h, _⟩ | ⟨g', c', h, hp⟩
  · simp at h
  · exact .inr ⟨g', c', h, hp.box hc⟩
theorem chg_belowG {lo hi : Nat} {V w w' : World} (h : Chg lo hi V w) (k : Below V.heap.size w w') : Chg lo hi V w' :=
  ⟨k.os.trans h.os, k.tape.trans h.tape, k.output.trans h.output, Nat.le_trans h.size k.size, fun i hi h' => (k.block i hi).trans (h.block i hi h')⟩
theorem Box4.belowB {w w' : World} {b B : Nat} {v0 v1 v2 v3 : Value} (h : Box4 w b v0 v1 v2 v3) (hc : Below B w w') (hb : b < B) : Box4 w' b v0 v1 v2 v3 :=
  ⟨Nat.lt_of_lt_of_le h.lt hc.size, (hc.cell (p := ⟨b, 0, none⟩) hb).trans h.c0, (hc.cell (p := ⟨b, 1, none⟩) hb).trans h.c1, (hc.cell (p := ⟨b, 2, none⟩) hb).trans h.c2, (hc.cell (p := ⟨b, 3, none⟩) hb).trans h.c3,
    (hc.frozen (p := ⟨b, 0, none⟩) hb).trans h.f0, (hc.frozen (p := ⟨b, 1, none⟩) hb).trans h.f1, (hc.frozen (p := ⟨b, 2, none⟩) hb).trans h.f2, (hc.frozen (p := ⟨b, 3, none⟩) hb).trans h.f3⟩
theorem Box4.put4 {w : World} {b : Nat} {u0 u1 u2 u3 : Value} (h : Box4 w b u0 u1 u2 u3) (v0 v1 v2 v3 : Value) : Box4 ((((w.setCell ⟨b, 0, none⟩ v0).setCell ⟨b, 1, none⟩ v1).setCell ⟨b, 2, none⟩ v2).setCell ⟨b, 3, none⟩ v3) b v0 v1 v2 v3 := by
  obtain ⟨lt, c0, c1, c2, c3, f0, f1, f2, f3⟩ := h
  refine ⟨by simpa [World.setCell] using lt, ?_, ?_, ?_, ?_, ?_, ?_, ?_, ?_⟩
  · go_simp
  · go_simp
  · go_simp
  · go_simp
  all_goals (simp only [World.frozen?_setCell]; assumption)

/-- what is at hand when the cover has its base, and no turns yet -/
def CycF (w : World) (R X : Nat) (V : World) (s : Int) (S n : Nat) (a5 : Option Addr) (c5 : Nat) (xss : List (List Int)) : Prop :=
  ∃ lo5 hi5, OwR lo5 hi5 V (.slice a5 n c5) xss ∧ (X < lo5 ∨ hi5 ≤ X) ∧ w.heap.size ≤ lo5 ∧ hi5 ≤ V.heap.size ∧ R < lo5 ∧ R < X ∧ Box4 V X (.int .i64 s) (.slice a5 n c5) (.int .i64 S) (.slice none 0 0) ∧ Box4 V R (.int .i64 0) (.slice none 0 0) (.int .i64 0) (.slice none 0 0) ∧ Below w.heap.size w V

theorem cyc_ok {s : Int} {xss : List (List Int)} {sh : Int} {ys : List Int} (h : cycCode s xss sh ys = 0) : grB s xss = true ∧ shB sh = true ∧ (1 ≤ sh ∧ sh ≤ 4) ∧ ys.length = xss.length ∧ ys.all w1k = true := by
  unfold cycCode at h
  cases hg : grB s xss with
  | false => rw [hg] at h; simp at h
  | true =>
    rw [hg, if_pos rfl] at h
    cases hb : cycB sh xss.length ys with
    | false => rw [hb] at h; simp at h
    | true =>
      unfold cycB at hb
      simp only [Bool.and_eq_true, decide_eq_true_eq] at hb
      obtain ⟨h1, h2, h3⟩ := hb
      have h4 := h1
      unfold shB at h4
      simp only [Bool.and_eq_true, decide_eq_true_eq] at h4
      exact ⟨rfl, h1, h4, h2, h3⟩
theorem w1k_bd {ys : List Int} (h : ys.all w1k = true) : ∀ y ∈ ys, -1000 ≤ y ∧ y ≤ 1000 := by
  intro y hy
  have := List.all_eq_true.1 h y hy
  unfold w1k at this
  simpa using this

set_option maxHeartbeats 6400000 in
theorem implCyc_yes {lo hi lo' hi' : Nat} (s : Int) (a : Option Addr) (n c : Nat) (xss : List (List Int)) (S : Nat) (a2 : Option Addr) (n2 c2 : Nat) (ys : List Int) (w : World) (h : RdR lo hi w (.slice a n c) xss) (hn : xss.length = n)
    (h2 : RdI lo' hi' w (.slice a2 n2 c2) ys) (hn2 : ys.length = n2) (hc : cycCode s xss S ys = 0) :
    Calls Try.prog 35 #[.agg #[.int .i64 s, .slice a n c], .int .i64 S, .slice a2 n2 c2] w fun e w' => ∃ a' c' ta' tc' m, e = .returned (.tuple #[.agg #[.int .i64 s, .slice a' xss.length c', .int .i64 S, .slice ta' (cycRows S ys).length tc'], .int .i64 0]) ∧
      w.heap.size ≤ m ∧ m ≤ w'.heap.size ∧ OwR w.heap.size m w' (.slice a' xss.length c') xss ∧ OwR m w'.heap.size w' (.slice ta' (cycRows S ys).length tc') (cycRows S ys) ∧ Below w.heap.size w w' := by
  obtain ⟨j0, hj', y0, y1, y2⟩ := info_parts Try.info45
  have hb0 : ∀ o o', Below w.heap.size w ((w.alloc o).alloc o') := fun o o' => ((Below.refl _ _).alloc (Nat.le_refl _) o).alloc (by simp) o'
  obtain ⟨hg, hs, ⟨h1, h4⟩, hl, hall⟩ := cyc_ok hc
  have hG4 := grB_iff hg
  have hn10 : n ≤ 10 := by omega
  have h1' : 1 ≤ S := by omega
  have h4' : S ≤ 4 := by omega
  have hl2 : n2 = n := by omega
  subst hl2
  have HEO := Lib.hid (fun W' (h' : RdR lo hi W' (.slice a n2 c) xss) => edgesOf s a n2 c xss W' h' hg hn)
  have HU := Lib.hid (unp_pairs hg)
  have HGI := Lib.hid (fun j (hj : j < xss.length) => gr_I64 hg hj)
  have HN := Lib.hid hn
  have HN2 := Lib.hid hn2
  have HCells := Lib.hid (h2.cellsC hn2)
  have HYB := Lib.hid (w1k_bd hall)
  have HG := Lib.hid hg
  have HS := Lib.hid hs
  have HTL := Lib.hid (show (cycRows S ys).length = n2 by rw [cycRows_len]; exact hn2)
  have HR := Lib.hid h
  have hne : ((n2 : Int) != (n2 : Int)) = false := by simp
  clear hn hn2 hc hg hs hl hall h h2 hG4
  go_enter Try.func35, Try.ntmps35
  go_wp2_with fail
  obtain ⟨R, hR⟩ : ∃ R, R = w.heap.size + 1 := ⟨_, rfl⟩
  refine calls_gen (fun W => Below w.heap.size w W ∧ w.heap.size < W.heap.size ∧ W.cell? ⟨w.heap.size, 0, none⟩ = some (.int .i64 s) ∧ W.cell? ⟨w.heap.size, 1, none⟩ = some (.slice a n2 c) ∧ Box4 W R (.int .i64 0) (.slice none 0 0) (.int .i64 0) (.slice none 0 0)) ⟨hb0 _ _, by simp; omega, by go_simp, by go_simp, ⟨?_, ?_, ?_, ?_, ?_, ?_, ?_, ?_, ?_⟩⟩ ?_
  · rw [hR]; simp
  iterate 8 (rw [hR]; go_simp)
  rw [← hR]
  have hRw : w.heap.size < R := by omega
  clear hR
  rintro W ⟨hB, hz, k0, k1, bx⟩
  refine (implIsGraph s a n2 c xss W (HR.out.below hB) HN.out).mono ?_
  rw [HG.out]
  rintro e w1 ⟨rfl, b1⟩
  replace k0 := b1.keep k0
  replace k1 := b1.keep k1
  replace bx := bx.below b1
  replace hB := hB.next b1
  clear b1
  go_wp2_with fail
  refine (isSheets (S : Int) _).mono ?_
  rintro e w2 ⟨rfl, q2⟩
  rw [HS.out]
  replace hB := hB.qt q2
  replace bx := bx.qt q2
  replace k0 := q2.cell k0
  replace k1 := q2.cell k1
  clear q2
  go_wp2
  go_loopw [9, 31] (fun _ i wr => ∃ k : Nat, k ≤ n2 ∧ i = .int .i64 k ∧ Qt w2 wr) (fun _ i _ => n2 - (intOf i).toNat)
  case atStart => exact ⟨0, Nat.zero_le _, rfl, Qt.refl _⟩
  case round =>
    obtain ⟨k, hk, rfl, hq⟩ := hrel
    replace hB := hB.qt hq
    replace bx := bx.qt hq
    replace k0 := hq.cell k0
    replace k1 := hq.cell k1
    by_cases hlt : k < n2
    · obtain ⟨b, off, rfl, g1⟩ := HCells.out k hlt
      replace g1 := hB.keep g1
      have hyb := HYB.out _ (getD_memI (show k < ys.length by rw [HN2.out]; exact hlt))
      have hw1 : w1k (ys.getD k 0) = true := by unfold w1k; rw [Bool.and_eq_true, decide_eq_true_eq, decide_eq_true_eq]; exact hyb
      generalize ys.getD k 0 = y at *
      have HW := Lib.hid hw1
      clear hw1
      go_wp2_with fail
      refine (isWithin1k y _).mono ?_
      rintro e w3 ⟨rfl, q3⟩
      rw [HW.out]
      have hqq := hq.trans q3
      clear q3
      go_wp2
      go_roundw
      case rel => exact ⟨k+1, by omega, by go_num, hqq⟩
      case measure => simp [intOf]; omega
    · have hh := HR.out.below hB
      have hBx := Lib.hid (⟨hB, bx⟩ : _ ∧ _)
      have hz1 : w.heap.size + 1 < wr.heap.size ∨ True := .inr trivial
      clear hB bx hz1
      clear hq
      go_wp2
      have kd0 := (Qt.refl wr).drew.cell k0
      have kd1 := (Qt.refl wr).drew.cell k1
      have hbA := (Below.refl wr.heap.size wr).alloc (Nat.le_refl _) (.cells #[.int .i64 0, .slice none 0 0, .int .i64 0, .slice none 0 0] 31)
      have ka0 := hbA.keep k0
      have ka1 := hbA.keep k1
      have bxA : Box4 (wr.alloc (.cells #[.int .i64 0, .slice none 0 0, .int .i64 0, .slice none 0 0] 31)) wr.heap.size (.int .i64 0) (.slice none 0 0) (.int .i64 0) (.slice none 0 0) := ⟨by simp, by go_simp, by go_simp, by go_simp, by go_simp, by go_simp, by go_simp, by go_simp, by go_simp⟩
      have HBA := Lib.hid (⟨hbA, bxA⟩ : _ ∧ _)
      have ke0 := (Qt.refl (wr.alloc (.cells #[.int .i64 0, .slice none 0 0, .int .i64 0, .slice none 0 0] 31))).drew.cell ka0
      have ke1 := (Qt.refl (wr.alloc (.cells #[.int .i64 0, .slice none 0 0, .int .i64 0, .slice none 0 0] 31))).drew.cell ka1
      have hkw : w.heap.size < wr.heap.size := World.block_lt_of_cell? _ _ k0
      have hE1 := HEO.out wr.drew (hh.qt (Qt.refl _).drew)
      have hE2 := HEO.out (wr.alloc (.cells #[.int .i64 0, .slice none 0 0, .int .i64 0, .slice none 0 0] 31)).drew ((hh.below hbA).qt (Qt.refl _).drew)
      have HE1 := Lib.hid hE1
      have HE2 := Lib.hid hE2
      clear hE1 hE2 hbA bxA
      go_region_held3 (fun W' => W'.cell? ⟨w.heap.size, 0, none⟩ = some (.int .i64 s) ∧ W'.cell? ⟨w.heap.size, 1, none⟩ = some (.slice a n2 c))
        (first | (with_reducible exact ⟨k0, k1⟩) | (with_reducible exact ⟨kd0, kd1⟩) | (with_reducible exact ⟨ka0, ka1⟩) | (with_reducible exact ⟨ke0, ke1⟩) | (with_reducible exact ⟨s40, s41⟩) | (with_reducible exact ⟨s50, s51⟩) | (with_reducible exact ⟨t40, t41⟩) | (with_reducible exact ⟨t50, t51⟩) | (with_reducible exact ⟨u50, u51⟩) | (with_reducible exact ⟨v50, v51⟩) | (trace_state; fail))
        (first
          | (go_at_call 76; with_reducible refine HE1.out.mono ?_; rintro e w4 ⟨g, c4, rfl, o4, b4⟩; have s40 := b4.keep kd0; have s41 := b4.keep kd1; have hb4 := (Qt.refl wr).drew.below.next b4; have hsz4 := hb4.size; have t40 := ((Below.refl w4.heap.size w4).alloc (Nat.le_refl _) (.cells #[.int .i64 0, .slice none 0 0, .int .i64 0, .slice none 0 0] 31)).keep s40; have t41 := ((Below.refl w4.heap.size w4).alloc (Nat.le_refl _) (.cells #[.int .i64 0, .slice none 0 0, .int .i64 0, .slice none 0 0] 31)).keep s41)
          | (go_at_call 76; with_reducible refine HE2.out.mono ?_; rintro e w4 ⟨g, c4, rfl, o4, b4⟩; have s40 := b4.keep ((Qt.refl _).drew.cell ka0); have s41 := b4.keep ((Qt.refl _).drew.cell ka1); have x4 : Box4 w4 wr.heap.size (.int .i64 0) (.slice none 0 0) (.int .i64 0) (.slice none 0 0) := Box4.below ((HBA.out.2).qt (Qt.refl _).drew) b4; have hb4 := (HBA.out.1.qt (Qt.refl _).drew).next b4; have hsz4 := hb4.size)
          | (go_at_call 75; have x4' : Box4 w4 wr.heap.size (.int .i64 0) (.slice none 0 0) (.int .i64 0) (.slice none 0 0) := (by assumption); have G1 := graphWith s _ n2 c4 (pairs xss) w4 (RdE.mk o4 (by rw [pairs_len]; exact HN.out)) (by rw [pairs_len]; exact HN.out) (by omega) (fun j hj => HGI.out j (by rw [HN.out]; exact hj)); with_reducible refine G1.mono ?_; clear G1; rintro e w5 ⟨a5, c5, rfl, o5, b5⟩; have s50 := b5.keep s40; have s51 := b5.keep s41; have hb5 := hb4.next b5; have t50 := ((Below.refl w5.heap.size w5).alloc (Nat.le_refl _) (.cells #[.int .i64 0, .slice none 0 0, .int .i64 0, .slice none 0 0] 31)).keep s50; have t51 := ((Below.refl w5.heap.size w5).alloc (Nat.le_refl _) (.cells #[.int .i64 0, .slice none 0 0, .int .i64 0, .slice none 0 0] 31)).keep s51; have u50 := ((Below.refl w5.heap.size w5).alloc (Nat.le_refl _) (.cells #[.int .i64 s, .slice a5 (unp (pairs xss)).length c5, .int .i64 S, .slice none 0 0] 31)).keep s50; have u51 := ((Below.refl w5.heap.size w5).alloc (Nat.le_refl _) (.cells #[.int .i64 s, .slice a5 (unp (pairs xss)).length c5, .int .i64 S, .slice none 0 0] 31)).keep s51; have v5 := chg4 w5 wr.heap.size (.int .i64 s) (.slice a5 (unp (pairs xss)).length c5) (.int .i64 S) (.slice none 0 0); have v50 := v5.cell s50 (.inl hkw); have v51 := v5.cell s51 (.inl hkw); obtain ⟨x5z, x50, x51, x52, x53, y50, y51, y52, y53⟩ := Box4.below x4' b5)
          | (go_at_call 75; have G1 := graphWith s _ n2 c4 (pairs xss) w4 (RdE.mk o4 (by rw [pairs_len]; exact HN.out)) (by rw [pairs_len]; exact HN.out) (by omega) (fun j hj => HGI.out j (by rw [HN.out]; exact hj)); with_reducible refine G1.mono ?_; clear G1; rintro e w5 ⟨a5, c5, rfl, o5, b5⟩; have s50 := b5.keep s40; have s51 := b5.keep s41; have hb5 := hb4.next b5; have t50 := ((Below.refl w5.heap.size w5).alloc (Nat.le_refl _) (.cells #[.int .i64 0, .slice none 0 0, .int .i64 0, .slice none 0 0] 31)).keep s50; have t51 := ((Below.refl w5.heap.size w5).alloc (Nat.le_refl _) (.cells #[.int .i64 0, .slice none 0 0, .int .i64 0, .slice none 0 0] 31)).keep s51; have u50 := ((Below.refl w5.heap.size w5).alloc (Nat.le_refl _) (.cells #[.int .i64 s, .slice a5 (unp (pairs xss)).length c5, .int .i64 S, .slice none 0 0] 31)).keep s50; have u51 := ((Below.refl w5.heap.size w5).alloc (Nat.le_refl _) (.cells #[.int .i64 s, .slice a5 (unp (pairs xss)).length c5, .int .i64 S, .slice none 0 0] 31)).keep s51)
          | (go_at_call 75; have hA4 := (Below.refl w4.heap.size w4).alloc (Nat.le_refl _) (.cells #[.int .i64 0, .slice none 0 0, .int .i64 0, .slice none 0 0] 31); have G1 := graphWith s _ n2 c4 (pairs xss) (w4.alloc (.cells #[.int .i64 0, .slice none 0 0, .int .i64 0, .slice none 0 0] 31)) ((RdE.mk o4 (by rw [pairs_len]; exact HN.out)).below hA4) (by rw [pairs_len]; exact HN.out) (by omega) (fun j hj => HGI.out j (by rw [HN.out]; exact hj)); with_reducible refine G1.mono ?_; clear G1; rintro e w5 ⟨a5, c5, rfl, o5, b5⟩; have s50 := b5.keep t40; have s51 := b5.keep t41; have hb5 := (hb4.next hA4).next b5; have v5 := chg4 w5 w4.heap.size (.int .i64 s) (.slice a5 (unp (pairs xss)).length c5) (.int .i64 S) (.slice none 0 0); have v50 := v5.cell s50 (.inl (show w.heap.size < w4.heap.size by omega)); have v51 := v5.cell s51 (.inl (show w.heap.size < w4.heap.size by omega)); obtain ⟨x5z, x50, x51, x52, x53, y50, y51, y52, y53⟩ := Box4.below (⟨by simp, by go_simp, by go_simp, by go_simp, by go_simp, by go_simp, by go_simp, by go_simp, by go_simp⟩ : Box4 (w4.alloc (.cells #[.int .i64 0, .slice none 0 0, .int .i64 0, .slice none 0 0] 31)) w4.heap.size (.int .i64 0) (.slice none 0 0) (.int .i64 0) (.slice none 0 0)) b5))
      all_goals
        rw [HU.out, HN.out] at o5 ⊢
        obtain ⟨hB, bx⟩ := hBx.out
        have hRr := bx.lt
        have hs45 := b5.size
      · have hA := (Below.refl w5.heap.size w5).alloc (Nat.le_refl _) (.cells #[.int .i64 s, .slice a5 n2 c5, .int .i64 S, .slice none 0 0] 31)
        have F : CycF w R w5.heap.size (w5.alloc (.cells #[.int .i64 s, .slice a5 n2 c5, .int .i64 S, .slice none 0 0] 31)) s S n2 a5 c5 xss :=
          ⟨w4.heap.size, w5.heap.size, o5.below hA, .inr (Nat.le_refl _), by omega, by simp, by omega, by omega, ⟨by simp, by go_simp, by go_simp, by go_simp, by go_simp, by go_simp, by go_simp, by go_simp, by go_simp⟩, (bx.below hb5).below hA, (hB.next hb5).next hA⟩
        obtain ⟨V, hV⟩ : ∃ V, V = w5.alloc (.cells #[.int .i64 s, .slice a5 n2 c5, .int .i64 S, .slice none 0 0] 31) := ⟨_, rfl⟩
        obtain ⟨X, hX⟩ : ∃ X, X = w5.heap.size := ⟨_, rfl⟩
        rw [← hV, ← hX] at F
        rw [← hV, ← hX]
        have HF := Lib.hid F
        clear F hV hX
        clear k0 k1 kd0 kd1 ka0 ka1 ke0 ke1 o5 s50 s51 HBA HE1 HE2 hBx
        obtain ⟨lo5, hi5, o5, hd5, hl5, hh5, hR5, hRX, bV, bRV, hBV⟩ := HF.out
        have HO := Lib.hid (⟨o5, hd5, bRV, hBV⟩ : _ ∧ _ ∧ _ ∧ _)
        have hXV := bV.lt
        have hP0 : OwV V.heap.size X V (.slice none 0 0) 0 [] ((cycRows S ys).take 0) := .inl ⟨rfl, rfl, rfl, rfl⟩
        clear o5 hd5 bRV hBV
        go_wp2
        go_loopw [12, 49] (fun _ i wr2 => ∃ (q : Nat) (av : Option Addr) (cv : Nat) (rvs : List Value), q ≤ n2 ∧ i = .int .i64 q ∧ OwV V.heap.size X wr2 (.slice av q cv) q rvs ((cycRows S ys).take q) ∧ Chg X (X+1) V wr2 ∧ Box4 wr2 X (.int .i64 s) (.slice a5 n2 c5) (.int .i64 S) (.slice av q cv)) (fun _ i _ => n2 - (intOf i).toNat)
        case atStart => exact ⟨0, none, 0, [], Nat.zero_le _, rfl, hP0, Chg.refl _ _ _, bV⟩
        case round =>
          clear hP0 bV HF
          obtain ⟨q, av, cv, rvs, hq, rfl, hP, hch, bx2⟩ := hrel
          obtain ⟨U, rfl⟩ : ∃ U, U = wr := ⟨_, rfl⟩
          have hVU := hch.size
          have hXU := bx2.lt
          by_cases hqt : q < n2
          · obtain ⟨b, off, rfl, g0⟩ := HCells.out q hqt
            have hbw : b < w.heap.size := World.block_lt_of_cell? _ _ g0
            have g1 := hch.cell (HO.out.2.2.2.keep g0) (.inl (show b < X by omega))
            have hlt' : q < ys.length := by rw [HN2.out]; exact hqt
            have HST := Lib.hid (cycRows_take (sh := S) hlt')
            have hyb := HYB.out _ (getD_memI hlt')
            generalize ys.getD q 0 = y at *
            have HCT := Lib.hid (fun W' => cyclicTurn S y W' h1' h4' hyb.1 hyb.2)
            generalize twB (S : Int) y = T at *
            have HP := Lib.hid hP
            have HX2 := Lib.hid (⟨hch, bx2⟩ : _ ∧ _)
            have x3 := bx2.c3
            have f3 := bx2.f3
            have hm63 : q + 1 ≤ maxLen := by unfold maxLen; omega
            have hby : (q + 1) * 24 ≤ 140737488355328 := by omega
            clear hP hch bx2 g0 hyb
            go_wp2
            go_region_law (first
              | (go_simp; go_at_call 77; refine (HCT.out _).mono ?_; rintro e w1 ⟨a6, c6, rfl, o2, b2⟩; have bb := ((Qt.refl U).drew).below.next b2; have hx1 : X < w1.heap.size := Nat.lt_of_lt_of_le hXU bb.size; have g5 := bb.keep x3; have gf5 := bb.keepf hXU f3; have g6 := ((Below.refl w1.heap.size w1).alloc (Nat.le_refl _) (.cells #[.slice a6 T.length c6] 45)).keep g5; have hown1 := (HP.out.below bb).out.alloc (.cells #[.slice a6 T.length c6] 45); have hnews := news_one w1 45 (.slice a6 T.length c6); have hone : ∀ u ∈ [Value.slice a6 T.length c6], u.oneCell' = true := (fun u hu => by simp at hu; subst hu; rfl); have hbase : V.heap.size ≤ (w1.alloc (.cells #[.slice a6 T.length c6] 45)).heap.size := by { have := bb.size; simp; omega })
              | (refine step_append_lies (w1.alloc (.cells #[.slice a6 T.length c6] 45)) rfl (.tmp 54) (.tmp 58) 22 rfl V.heap.size 45 j0 (.slice none 0 0) 1 24 Try.underlying22 hj' y0 y1 y2 rfl (by decide) (.slice av q cv) q rvs (by simp [Act.eval, Act.put]) hown1 ⟨w1.heap.size, 0, none⟩ 1 1 [.slice a6 T.length c6] (by simp [Act.eval, Act.put]) rfl hnews hone (by decide) hm63 hby hbase (w1.alloc (.cells #[.slice a6 T.length c6] 45)).heap.size rfl ?_; intro g2 c3 w3 hown3 hgr hlie hlt3; have hsb := OwV.snocB HP.out hVU bb hgr; have y5 := (hsb.cell (p := ⟨X, 3, none⟩) hXV).trans x3; have yf5 := (hsb.frozen (p := ⟨X, 3, none⟩) hXV).trans f3))
            all_goals
              obtain ⟨hch, bx2⟩ := HX2.out
              have hP3 := (OwV.snocF hVU HP.out hXU bb o2 hown3 hgr hlie).boxS ((Chg.refl X (X+1) _).setCell (p := ⟨X, 3, none⟩) ⟨Nat.le_refl _, Nat.lt_succ_self _⟩ (.slice (some ⟨g2, 0, none⟩) (q + 1) c3))
              rw [← HST.out] at hP3
              have hch3 := (chg_belowG hch hsb).setCell (p := ⟨X, 3, none⟩) ⟨Nat.le_refl _, Nat.lt_succ_self _⟩ (.slice (some ⟨g2, 0, none⟩) (q + 1) c3)
              have bx3 := (bx2.belowB hsb hXV).put3 (.slice (some ⟨g2, 0, none⟩) (q + 1) c3)
              have F := Lib.hid (⟨hP3, hch3, bx3⟩ : _ ∧ _ ∧ _)
              clear hP3 hch3 bx3 hch bx2 hown3 hgr hlie hsb
              go_wp2
              go_roundw
              case rel => exact ⟨q+1, _, c3, _, by omega, by go_num, F.out⟩
              case measure => simp [intOf]; omega
          · obtain rfl : q = n2 := by omega
            rw [List.take_of_length_le (by rw [HTL.out]; exact Nat.le_refl _)] at hP
            obtain ⟨ho5, hd5, bRV, hBV⟩ := HO.out
            obtain ⟨_, r0, r1, r2, r3, f0, f1, f2, f3⟩ := bRV.chg hch (.inl (by omega))
            obtain ⟨_, x0, x1, x2, x3, _, _, _, _⟩ := bx2
            have hO5 := ho5.chg hch (by omega)
            have hOT := hP.owr hVU (by omega)
            have hB2 := hBV.chgn hch (by omega) hBV.size
            have hne1 : ¬ R = X := by omega
            have hne2 : ¬ X = R := by omega
            have HFIN := Lib.hid (⟨hO5, hOT, hB2⟩ : _ ∧ _ ∧ _)
            clear ho5 hd5 bRV hBV hO5 hOT hB2 hP hch HO
            go_wp2
            obtain ⟨hO5, hOT, hB2⟩ := HFIN.out
            have hch4 := chg4 U R (.int .i64 s) (.slice a5 q c5) (.int .i64 S) (.slice av q cv)
            refine bodyPost_ret (v := .tuple #[.agg #[.int .i64 s, .slice a5 q c5, .int .i64 S, .slice av q cv], .int .i64 0]) (by simp [results, Try.results35, go_sem, r0, r1, r2, r3, x0, x1, x2, x3, hne1, hne2]) rfl ⟨a5, c5, av, cv, V.heap.size, by rw [HN.out, HTL.out], by omega, by simp [World.setCell]; omega, ?_, ?_, ?_⟩
            · rw [HN.out]
              exact (hO5.chg hch4 (.inr (by omega))).mono hl5 (by omega)
            · rw [HTL.out]
              exact (hOT.chg hch4 (.inr (by omega))).mono (Nat.le_refl _) (by simp [World.setCell])
            · exact hB2.chgn hch4 (by omega) hB2.size
      · have F : CycF w R w4.heap.size ((((w5.setCell ⟨w4.heap.size, 0, none⟩ (.int .i64 s)).setCell ⟨w4.heap.size, 1, none⟩ (.slice a5 n2 c5)).setCell ⟨w4.heap.size, 2, none⟩ (.int .i64 S)).setCell ⟨w4.heap.size, 3, none⟩ (.slice none 0 0)) s S n2 a5 c5 xss := by
          have hA4 : (w4.alloc (.cells #[.int .i64 0, .slice none 0 0, .int .i64 0, .slice none 0 0] 31)).heap.size = w4.heap.size + 1 := by simp
          rw [hA4] at o5 hs45
          have hch := chg4 w5 w4.heap.size (.int .i64 s) (.slice a5 n2 c5) (.int .i64 S) (.slice none 0 0)
          exact ⟨w4.heap.size + 1, w5.heap.size, o5.chg hch (.inr (Nat.le_refl _)), .inl (by omega), by omega, hch.size, by omega, by omega, Box4.put4 ⟨x5z, x50, x51, x52, x53, y50, y51, y52, y53⟩ _ _ _ _, (bx.below hb5).chg hch (.inl (by omega)), (hB.next hb5).chgn hch (by omega) (by omega)⟩
        obtain ⟨V, hV⟩ : ∃ V, V = ((((w5.setCell ⟨w4.heap.size, 0, none⟩ (.int .i64 s)).setCell ⟨w4.heap.size, 1, none⟩ (.slice a5 n2 c5)).setCell ⟨w4.heap.size, 2, none⟩ (.int .i64 S)).setCell ⟨w4.heap.size, 3, none⟩ (.slice none 0 0)) := ⟨_, rfl⟩
        obtain ⟨X, hX⟩ : ∃ X, X = w4.heap.size := ⟨_, rfl⟩
        rw [← hV] at F ⊢
        rw [← hX] at F ⊢
        have HF := Lib.hid F
        clear F hV hX
        clear k0 k1 kd0 kd1 ka0 ka1 ke0 ke1 o5 s50 s51 HBA HE1 HE2 hBx
        obtain ⟨lo5, hi5, o5, hd5, hl5, hh5, hR5, hRX, bV, bRV, hBV⟩ := HF.out
        have HO := Lib.hid (⟨o5, hd5, bRV, hBV⟩ : _ ∧ _ ∧ _ ∧ _)
        have hXV := bV.lt
        have hP0 : OwV V.heap.size X V (.slice none 0 0) 0 [] ((cycRows S ys).take 0) := .inl ⟨rfl, rfl, rfl, rfl⟩
        clear o5 hd5 bRV hBV
        go_wp2
        go_loopw [12, 49] (fun _ i wr2 => ∃ (q : Nat) (av : Option Addr) (cv : Nat) (rvs : List Value), q ≤ n2 ∧ i = .int .i64 q ∧ OwV V.heap.size X wr2 (.slice av q cv) q rvs ((cycRows S ys).take q) ∧ Chg X (X+1) V wr2 ∧ Box4 wr2 X (.int .i64 s) (.slice a5 n2 c5) (.int .i64 S) (.slice av q cv)) (fun _ i _ => n2 - (intOf i).toNat)
        case atStart => exact ⟨0, none, 0, [], Nat.zero_le _, rfl, hP0, Chg.refl _ _ _, bV⟩
        case round =>
          clear hP0 bV HF
          obtain ⟨q, av, cv, rvs, hq, rfl, hP, hch, bx2⟩ := hrel
          obtain ⟨U, rfl⟩ : ∃ U, U = wr := ⟨_, rfl⟩
          have hVU := hch.size
          have hXU := bx2.lt
          by_cases hqt : q < n2
          · obtain ⟨b, off, rfl, g0⟩ := HCells.out q hqt
            have hbw : b < w.heap.size := World.block_lt_of_cell? _ _ g0
            have g1 := hch.cell (HO.out.2.2.2.keep g0) (.inl (show b < X by omega))
            have hlt' : q < ys.length := by rw [HN2.out]; exact hqt
            have HST := Lib.hid (cycRows_take (sh := S) hlt')
            have hyb := HYB.out _ (getD_memI hlt')
            generalize ys.getD q 0 = y at *
            have HCT := Lib.hid (fun W' => cyclicTurn S y W' h1' h4' hyb.1 hyb.2)
            generalize twB (S : Int) y = T at *
            have HP := Lib.hid hP
            have HX2 := Lib.hid (⟨hch, bx2⟩ : _ ∧ _)
            have x3 := bx2.c3
            have f3 := bx2.f3
            have hm63 : q + 1 ≤ maxLen := by unfold maxLen; omega
            have hby : (q + 1) * 24 ≤ 140737488355328 := by omega
            clear hP hch bx2 g0 hyb
            go_wp2
            go_region_law (first
              | (go_simp; go_at_call 77; refine (HCT.out _).mono ?_; rintro e w1 ⟨a6, c6, rfl, o2, b2⟩; have bb := ((Qt.refl U).drew).below.next b2; have hx1 : X < w1.heap.size := Nat.lt_of_lt_of_le hXU bb.size; have g5 := bb.keep x3; have gf5 := bb.keepf hXU f3; have g6 := ((Below.refl w1.heap.size w1).alloc (Nat.le_refl _) (.cells #[.slice a6 T.length c6] 45)).keep g5; have hown1 := (HP.out.below bb).out.alloc (.cells #[.slice a6 T.length c6] 45); have hnews := news_one w1 45 (.slice a6 T.length c6); have hone : ∀ u ∈ [Value.slice a6 T.length c6], u.oneCell' = true := (fun u hu => by simp at hu; subst hu; rfl); have hbase : V.heap.size ≤ (w1.alloc (.cells #[.slice a6 T.length c6] 45)).heap.size := by { have := bb.size; simp; omega })
              | (refine step_append_lies (w1.alloc (.cells #[.slice a6 T.length c6] 45)) rfl (.tmp 54) (.tmp 58) 22 rfl V.heap.size 45 j0 (.slice none 0 0) 1 24 Try.underlying22 hj' y0 y1 y2 rfl (by decide) (.slice av q cv) q rvs (by simp [Act.eval, Act.put]) hown1 ⟨w1.heap.size, 0, none⟩ 1 1 [.slice a6 T.length c6] (by simp [Act.eval, Act.put]) rfl hnews hone (by decide) hm63 hby hbase (w1.alloc (.cells #[.slice a6 T.length c6] 45)).heap.size rfl ?_; intro g2 c3 w3 hown3 hgr hlie hlt3; have hsb := OwV.snocB HP.out hVU bb hgr; have y5 := (hsb.cell (p := ⟨X, 3, none⟩) hXV).trans x3; have yf5 := (hsb.frozen (p := ⟨X, 3, none⟩) hXV).trans f3))
            all_goals
              obtain ⟨hch, bx2⟩ := HX2.out
              have hP3 := (OwV.snocF hVU HP.out hXU bb o2 hown3 hgr hlie).boxS ((Chg.refl X (X+1) _).setCell (p := ⟨X, 3, none⟩) ⟨Nat.le_refl _, Nat.lt_succ_self _⟩ (.slice (some ⟨g2, 0, none⟩) (q + 1) c3))
              rw [← HST.out] at hP3
              have hch3 := (chg_belowG hch hsb).setCell (p := ⟨X, 3, none⟩) ⟨Nat.le_refl _, Nat.lt_succ_self _⟩ (.slice (some ⟨g2, 0, none⟩) (q + 1) c3)
              have bx3 := (bx2.belowB hsb hXV).put3 (.slice (some ⟨g2, 0, none⟩) (q + 1) c3)
              have F := Lib.hid (⟨hP3, hch3, bx3⟩ : _ ∧ _ ∧ _)
              clear hP3 hch3 bx3 hch bx2 hown3 hgr hlie hsb
              go_wp2
              go_roundw
              case rel => exact ⟨q+1, _, c3, _, by omega, by go_num, F.out⟩
              case measure => simp [intOf]; omega
          · obtain rfl : q = n2 := by omega
            rw [List.take_of_length_le (by rw [HTL.out]; exact Nat.le_refl _)] at hP
            obtain ⟨ho5, hd5, bRV, hBV⟩ := HO.out
            obtain ⟨_, r0, r1, r2, r3, f0, f1, f2, f3⟩ := bRV.chg hch (.inl (by omega))
            obtain ⟨_, x0, x1, x2, x3, _, _, _, _⟩ := bx2
            have hO5 := ho5.chg hch (by omega)
            have hOT := hP.owr hVU (by omega)
            have hB2 := hBV.chgn hch (by omega) hBV.size
            have hne1 : ¬ R = X := by omega
            have hne2 : ¬ X = R := by omega
            have HFIN := Lib.hid (⟨hO5, hOT, hB2⟩ : _ ∧ _ ∧ _)
            clear ho5 hd5 bRV hBV hO5 hOT hB2 hP hch HO
            go_wp2
            obtain ⟨hO5, hOT, hB2⟩ := HFIN.out
            have hch4 := chg4 U R (.int .i64 s) (.slice a5 q c5) (.int .i64 S) (.slice av q cv)
            refine bodyPost_ret (v := .tuple #[.agg #[.int .i64 s, .slice a5 q c5, .int .i64 S, .slice av q cv], .int .i64 0]) (by simp [results, Try.results35, go_sem, r0, r1, r2, r3, x0, x1, x2, x3, hne1, hne2]) rfl ⟨a5, c5, av, cv, V.heap.size, by rw [HN.out, HTL.out], by omega, by simp [World.setCell]; omega, ?_, ?_, ?_⟩
            · rw [HN.out]
              exact (hO5.chg hch4 (.inr (by omega))).mono hl5 (by omega)
            · rw [HTL.out]
              exact (hOT.chg hch4 (.inr (by omega))).mono (Nat.le_refl _) (by simp [World.setCell])
            · exact hB2.chgn hch4 (by omega) hB2.size
      · have F : CycF w R wr.heap.size ((((w5.setCell ⟨wr.heap.size, 0, none⟩ (.int .i64 s)).setCell ⟨wr.heap.size, 1, none⟩ (.slice a5 n2 c5)).setCell ⟨wr.heap.size, 2, none⟩ (.int .i64 S)).setCell ⟨wr.heap.size, 3, none⟩ (.slice none 0 0)) s S n2 a5 c5 xss := by
          have hch := chg4 w5 wr.heap.size (.int .i64 s) (.slice a5 n2 c5) (.int .i64 S) (.slice none 0 0)
          have hx4 := x4.lt
          exact ⟨w4.heap.size, w5.heap.size, o5.chg hch (.inr (by omega)), .inl (by omega), by omega, hch.size, by omega, by omega, Box4.put4 ⟨x5z, x50, x51, x52, x53, y50, y51, y52, y53⟩ _ _ _ _, (bx.below hb5).chg hch (.inl (by omega)), (hB.next hb5).chgn hch (by omega) (by omega)⟩
        obtain ⟨V, hV⟩ : ∃ V, V = ((((w5.setCell ⟨wr.heap.size, 0, none⟩ (.int .i64 s)).setCell ⟨wr.heap.size, 1, none⟩ (.slice a5 n2 c5)).setCell ⟨wr.heap.size, 2, none⟩ (.int .i64 S)).setCell ⟨wr.heap.size, 3, none⟩ (.slice none 0 0)) := ⟨_, rfl⟩
        obtain ⟨X, hX⟩ : ∃ X, X = wr.heap.size := ⟨_, rfl⟩
        rw [← hV] at F ⊢
        rw [← hX] at F ⊢
        have HF := Lib.hid F
        clear F hV hX
        clear k0 k1 kd0 kd1 ka0 ka1 ke0 ke1 o5 s50 s51 HBA HE1 HE2 hBx
        obtain ⟨lo5, hi5, o5, hd5, hl5, hh5, hR5, hRX, bV, bRV, hBV⟩ := HF.out
        have HO := Lib.hid (⟨o5, hd5, bRV, hBV⟩ : _ ∧ _ ∧ _ ∧ _)
        have hXV := bV.lt
        have hP0 : OwV V.heap.size X V (.slice none 0 0) 0 [] ((cycRows S ys).take 0) := .inl ⟨rfl, rfl, rfl, rfl⟩
        clear o5 hd5 bRV hBV
        go_wp2
        go_loopw [12, 49] (fun _ i wr2 => ∃ (q : Nat) (av : Option Addr) (cv : Nat) (rvs : List Value), q ≤ n2 ∧ i = .int .i64 q ∧ OwV V.heap.size X wr2 (.slice av q cv) q rvs ((cycRows S ys).take q) ∧ Chg X (X+1) V wr2 ∧ Box4 wr2 X (.int .i64 s) (.slice a5 n2 c5) (.int .i64 S) (.slice av q cv)) (fun _ i _ => n2 - (intOf i).toNat)
        case atStart => exact ⟨0, none, 0, [], Nat.zero_le _, rfl, hP0, Chg.refl _ _ _, bV⟩
        case round =>
          clear hP0 bV HF
          obtain ⟨q, av, cv, rvs, hq, rfl, hP, hch, bx2⟩ := hrel
          obtain ⟨U, rfl⟩ : ∃ U, U = wr := ⟨_, rfl⟩
          have hVU := hch.size
          have hXU := bx2.lt
          by_cases hqt : q < n2
          · obtain ⟨b, off, rfl, g0⟩ := HCells.out q hqt
            have hbw : b < w.heap.size := World.block_lt_of_cell? _ _ g0
            have g1 := hch.cell (HO.out.2.2.2.keep g0) (.inl (show b < X by omega))
            have hlt' : q < ys.length := by rw [HN2.out]; exact hqt
            have HST := Lib.hid (cycRows_take (sh := S) hlt')
            have hyb := HYB.out _ (getD_memI hlt')
            generalize ys.getD q 0 = y at *
            have HCT := Lib.hid (fun W' => cyclicTurn S y W' h1' h4' hyb.1 hyb.2)
            generalize twB (S : Int) y = T at *
            have HP := Lib.hid hP
            have HX2 := Lib.hid (⟨hch, bx2⟩ : _ ∧ _)
            have x3 := bx2.c3
            have f3 := bx2.f3
            have hm63 : q + 1 ≤ maxLen := by unfold maxLen; omega
            have hby : (q + 1) * 24 ≤ 140737488355328 := by omega
            clear hP hch bx2 g0 hyb
            go_wp2
            go_region_law (first
              | (go_simp; go_at_call 77; refine (HCT.out _).mono ?_; rintro e w1 ⟨a6, c6, rfl, o2, b2⟩; have bb := ((Qt.refl U).drew).below.next b2; have hx1 : X < w1.heap.size := Nat.lt_of_lt_of_le hXU bb.size; have g5 := bb.keep x3; have gf5 := bb.keepf hXU f3; have g6 := ((Below.refl w1.heap.size w1).alloc (Nat.le_refl _) (.cells #[.slice a6 T.length c6] 45)).keep g5; have hown1 := (HP.out.below bb).out.alloc (.cells #[.slice a6 T.length c6] 45); have hnews := news_one w1 45 (.slice a6 T.length c6); have hone : ∀ u ∈ [Value.slice a6 T.length c6], u.oneCell' = true := (fun u hu => by simp at hu; subst hu; rfl); have hbase : V.heap.size ≤ (w1.alloc (.cells #[.slice a6 T.length c6] 45)).heap.size := by { have := bb.size; simp; omega })
              | (refine step_append_lies (w1.alloc (.cells #[.slice a6 T.length c6] 45)) rfl (.tmp 54) (.tmp 58) 22 rfl V.heap.size 45 j0 (.slice none 0 0) 1 24 Try.underlying22 hj' y0 y1 y2 rfl (by decide) (.slice av q cv) q rvs (by simp [Act.eval, Act.put]) hown1 ⟨w1.heap.size, 0, none⟩ 1 1 [.slice a6 T.length c6] (by simp [Act.eval, Act.put]) rfl hnews hone (by decide) hm63 hby hbase (w1.alloc (.cells #[.slice a6 T.length c6] 45)).heap.size rfl ?_; intro g2 c3 w3 hown3 hgr hlie hlt3; have hsb := OwV.snocB HP.out hVU bb hgr; have y5 := (hsb.cell (p := ⟨X, 3, none⟩) hXV).trans x3; have yf5 := (hsb.frozen (p := ⟨X, 3, none⟩) hXV).trans f3))
            all_goals
              obtain ⟨hch, bx2⟩ := HX2.out
              have hP3 := (OwV.snocF hVU HP.out hXU bb o2 hown3 hgr hlie).boxS ((Chg.refl X (X+1) _).setCell (p := ⟨X, 3, none⟩) ⟨Nat.le_refl _, Nat.lt_succ_self _⟩ (.slice (some ⟨g2, 0, none⟩) (q + 1) c3))
              rw [← HST.out] at hP3
              have hch3 := (chg_belowG hch hsb).setCell (p := ⟨X, 3, none⟩) ⟨Nat.le_refl _, Nat.lt_succ_self _⟩ (.slice (some ⟨g2, 0, none⟩) (q + 1) c3)
              have bx3 := (bx2.belowB hsb hXV).put3 (.slice (some ⟨g2, 0, none⟩) (q + 1) c3)
              have F := Lib.hid (⟨hP3, hch3, bx3⟩ : _ ∧ _ ∧ _)
              clear hP3 hch3 bx3 hch bx2 hown3 hgr hlie hsb
              go_wp2
              go_roundw
              case rel => exact ⟨q+1, _, c3, _, by omega, by go_num, F.out⟩
              case measure => simp [intOf]; omega
          · obtain rfl : q = n2 := by omega
            rw [List.take_of_length_le (by rw [HTL.out]; exact Nat.le_refl _)] at hP
            obtain ⟨ho5, hd5, bRV, hBV⟩ := HO.out
            obtain ⟨_, r0, r1, r2, r3, f0, f1, f2, f3⟩ := bRV.chg hch (.inl (by omega))
            obtain ⟨_, x0, x1, x2, x3, _, _, _, _⟩ := bx2
            have hO5 := ho5.chg hch (by omega)
            have hOT := hP.owr hVU (by omega)
            have hB2 := hBV.chgn hch (by omega) hBV.size
            have hne1 : ¬ R = X := by omega
            have hne2 : ¬ X = R := by omega
            have HFIN := Lib.hid (⟨hO5, hOT, hB2⟩ : _ ∧ _ ∧ _)
            clear ho5 hd5 bRV hBV hO5 hOT hB2 hP hch HO
            go_wp2
            obtain ⟨hO5, hOT, hB2⟩ := HFIN.out
            have hch4 := chg4 U R (.int .i64 s) (.slice a5 q c5) (.int .i64 S) (.slice av q cv)
            refine bodyPost_ret (v := .tuple #[.agg #[.int .i64 s, .slice a5 q c5, .int .i64 S, .slice av q cv], .int .i64 0]) (by simp [results, Try.results35, go_sem, r0, r1, r2, r3, x0, x1, x2, x3, hne1, hne2]) rfl ⟨a5, c5, av, cv, V.heap.size, by rw [HN.out, HTL.out], by omega, by simp [World.setCell]; omega, ?_, ?_, ?_⟩
            · rw [HN.out]
              exact (hO5.chg hch4 (.inr (by omega))).mono hl5 (by omega)
            · rw [HTL.out]
              exact (hOT.chg hch4 (.inr (by omega))).mono (Nat.le_refl _) (by simp [World.setCell])
            · exact hB2.chgn hch4 (by omega) hB2.size

end Go.Proofs.Ytpepmgobcdlnoaa
