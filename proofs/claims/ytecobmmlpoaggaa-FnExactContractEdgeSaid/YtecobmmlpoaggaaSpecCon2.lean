/- ContractEdge of the model. -/
import Derived.Test.YtecobmmlpoaggaaSpecCon
set_option linter.unusedSimpArgs false
set_option linter.unusedVariables false
namespace Go.Proofs.Ytecobmmlpoaggaa
open Go.RowKit

set_option maxHeartbeats 800000 in
theorem specCon_no {lo hi : Nat} (s : Int) (a : Option Addr) (n c : Nat) (xss : List (List Int)) (k : Int) (w : World) (h : RdR lo hi w (.slice a n c) xss) (hn : xss.length = n) (hc : edgeCode s xss k ≠ 0) :
    Calls Try.prog 30 #[.agg #[.int .i64 s, .slice a n c], .int .i64 k] w fun e w' => e = .returned (.tuple #[.agg #[.int .i64 0, .slice none 0 0], .int .i64 (edgeCode s xss k)]) ∧ Below w.heap.size w w' := by
  have hb0 : ∀ o o', Below w.heap.size w ((w.alloc o).alloc o') := fun o o' => ((Below.refl _ _).alloc (Nat.le_refl _) o).alloc (by simp) o'
  have hcn := code_ne' hc
  go_enter Try.func30, Try.ntmps30
  go_wp2_with fail
  refine calls_gen (fun W => Below w.heap.size w W ∧ w.heap.size + 1 < W.heap.size ∧ W.cell? ⟨w.heap.size + 1, 0, none⟩ = some (.int .i64 0) ∧ W.cell? ⟨w.heap.size + 1, 1, none⟩ = some (.slice none 0 0) ∧ W.frozen? ⟨w.heap.size + 1, 0, none⟩ = false ∧ W.frozen? ⟨w.heap.size + 1, 1, none⟩ = false) ⟨hb0 _ _, by simp, by go_simp, by go_simp, by go_simp, by go_simp⟩ ?_
  rintro W ⟨hB, hz, k1, k2, f1, f2⟩
  refine (l01Edge s a n c xss k W (h.below hB) hn).mono ?_
  rintro e w1 ⟨rfl, b1⟩
  replace k1 := b1.keep k1
  replace k2 := b1.keep k2
  replace f1 := b1.keepf hz f1
  replace f2 := b1.keepf hz f2
  replace hB := hB.next b1
  obtain ⟨cd, hcd⟩ : ∃ cd, cd = edgeCode s xss k := ⟨_, rfl⟩
  rw [← hcd] at hcn ⊢
  have HCD := Lib.hid hcd
  clear hcd hc b1
  go_wp2
  refine bodyPost_ret (v := .tuple #[.agg #[.int .i64 0, .slice none 0 0], .int .i64 cd]) (by simp [results, Try.results30, go_sem, k1, k2]) rfl ⟨by rw [HCD.out], ?_⟩
  repeat (refine Below.setCell ?_ (by simp <;> omega) _)
  exact hB

set_option maxHeartbeats 1600000 in
theorem specCon_yes {lo hi : Nat} (s : Int) (a : Option Addr) (n c : Nat) (xss : List (List Int)) (k : Nat) (w : World) (h : RdR lo hi w (.slice a n c) xss) (hn : xss.length = n) (hc : edgeCode s xss k = 0) :
    Calls Try.prog 30 #[.agg #[.int .i64 s, .slice a n c], .int .i64 k] w fun e w' => ∃ a' c', e = .returned (.tuple #[.agg #[.int .i64 (conOf s xss k).1.1, .slice a' (conOf s xss k).1.2.length c'], .int .i64 (conOf s xss k).2]) ∧ OwR w.heap.size w'.heap.size w' (.slice a' (conOf s xss k).1.2.length c') (conOf s xss k).1.2 ∧ Below w.heap.size w w' := by
  have hb0 : ∀ o o', Below w.heap.size w ((w.alloc o).alloc o') := fun o o' => ((Below.refl _ _).alloc (Nat.le_refl _) o).alloc (by simp) o'
  obtain ⟨hg, h0, h1⟩ := edgeCode_ok hc
  obtain ⟨hs1, hs2, h3, h4⟩ := grB_iff hg
  have hn10 : n ≤ 10 := by omega
  have hk : k < n := by omega
  have hq1 := (h4 k (by omega)).1
  obtain ⟨b, off, rv, rfl, g0, r1⟩ := h.at hn k hk
  obtain ⟨b', off', cap', rfl, g1, g2⟩ := r1.two hq1
  have hcon : conOf s xss k = if (xss.getD k []).getD 0 0 = (xss.getD k []).getD 1 0 then ((0, []), 5) else ((s - 1, conRows ((xss.getD k []).getD 0 0) ((xss.getD k []).getD 1 0) (xss.eraseIdx k)), 0) := by
    unfold conOf; rw [if_neg (by simp [hc])]; rfl
  have HCT := Lib.hid (fun W' (h : RdR lo hi W' (.slice (some ⟨b, off, none⟩) n c) xss) => l01Contract s (some ⟨b, off, none⟩) n c xss k W' h hn hg hk)
  have HN := Lib.hid hn
  have HC := Lib.hid hc
  rw [hcon]
  generalize (xss.getD k []).getD 0 0 = x at *
  generalize (xss.getD k []).getD 1 0 = y at *
  generalize conRows x y (xss.eraseIdx k) = F at *
  clear hc hg h0 h1 h3 h4 hn hcon hq1 r1
  by_cases hxy : x = y
  case pos =>
    rw [if_pos hxy]
    have hxyb : (x == y) = true := by simpa using hxy
    clear hxy
    go_enter Try.func30, Try.ntmps30
    go_wp2_with fail
    refine calls_gen (fun W => Below w.heap.size w W ∧ w.heap.size + 1 < W.heap.size ∧ W.cell? ⟨w.heap.size, 0, none⟩ = some (.int .i64 s) ∧ W.cell? ⟨w.heap.size, 1, none⟩ = some (.slice (some ⟨b, off, none⟩) n c) ∧ W.cell? ⟨w.heap.size + 1, 0, none⟩ = some (.int .i64 0) ∧ W.cell? ⟨w.heap.size + 1, 1, none⟩ = some (.slice none 0 0) ∧ W.frozen? ⟨w.heap.size + 1, 0, none⟩ = false ∧ W.frozen? ⟨w.heap.size + 1, 1, none⟩ = false) ⟨hb0 _ _, by simp, by go_simp, by go_simp, by go_simp, by go_simp, by go_simp, by go_simp⟩ ?_
    rintro W ⟨hB, hz, k1, k2, k3, k4, f3, f4⟩
    obtain ⟨R, hR⟩ : ∃ R, R = w.heap.size + 1 := ⟨_, rfl⟩
    rw [← hR] at hz k3 k4 f3 f4 ⊢
    have hwR : w.heap.size < R := by omega
    clear hR
    refine (l01Edge s _ n c xss k W (h.below hB) HN.out).mono ?_
    rw [HC.out]
    rintro e w1 ⟨rfl, b1⟩
    replace k1 := b1.keep k1
    replace k2 := b1.keep k2
    replace k3 := b1.keep k3
    replace k4 := b1.keep k4
    replace f3 := b1.keepf hz f3
    replace f4 := b1.keepf hz f4
    replace hB := hB.next b1
    have hz1 : R < w1.heap.size := Nat.lt_of_lt_of_le hz b1.size
    have e0 := hB.keep g0
    have e1 := hB.keep g1
    have e2 := hB.keep g2
    have hh := h.below hB
    clear b1 hz
    go_wp2
    go_region_held3 (fun W' => W'.cell? ⟨w.heap.size, 1, none⟩ = some (.slice (some ⟨b, off, none⟩) n c) ∧ W'.cell? ⟨b, off + k, none⟩ = some (.slice (some ⟨b', off', none⟩) 2 cap') ∧ W'.cell? ⟨b', off', none⟩ = some (.int .i64 x) ∧ W'.cell? ⟨b', off' + 1, none⟩ = some (.int .i64 y))
      (first | (exact ⟨k2, e0, e1, e2⟩) | go_keep) (fail)
    clear e0 e1 e2
    all_goals
      go_wp2
      refine bodyPost_ret (v := .tuple #[.agg #[.int .i64 0, .slice none 0 0], .int .i64 5]) (by simp [results, Try.results30, go_sem, k3, k4]) rfl ⟨none, 0, rfl, OwR.nil (World.ownsRow_nil _ _ _ _) (Nat.le_refl _), ?_⟩
      repeat (first | refine Below.drew ?_ | refine Below.setCell ?_ (by simp <;> omega) _)
      exact hB
  case neg =>
    rw [if_neg hxy]
    have hxyb : (x == y) = false := by simpa using hxy
    clear hxy
    go_enter Try.func30, Try.ntmps30
    go_wp2_with fail
    refine calls_gen (fun W => Below w.heap.size w W ∧ w.heap.size + 1 < W.heap.size ∧ W.cell? ⟨w.heap.size, 0, none⟩ = some (.int .i64 s) ∧ W.cell? ⟨w.heap.size, 1, none⟩ = some (.slice (some ⟨b, off, none⟩) n c) ∧ W.cell? ⟨w.heap.size + 1, 0, none⟩ = some (.int .i64 0) ∧ W.cell? ⟨w.heap.size + 1, 1, none⟩ = some (.slice none 0 0) ∧ W.frozen? ⟨w.heap.size + 1, 0, none⟩ = false ∧ W.frozen? ⟨w.heap.size + 1, 1, none⟩ = false) ⟨hb0 _ _, by simp, by go_simp, by go_simp, by go_simp, by go_simp, by go_simp, by go_simp⟩ ?_
    rintro W ⟨hB, hz, k1, k2, k3, k4, f3, f4⟩
    obtain ⟨R, hR⟩ : ∃ R, R = w.heap.size + 1 := ⟨_, rfl⟩
    rw [← hR] at hz k3 k4 f3 f4 ⊢
    have hwR : w.heap.size < R := by omega
    clear hR
    refine (l01Edge s _ n c xss k W (h.below hB) HN.out).mono ?_
    rw [HC.out]
    rintro e w1 ⟨rfl, b1⟩
    replace k1 := b1.keep k1
    replace k2 := b1.keep k2
    replace k3 := b1.keep k3
    replace k4 := b1.keep k4
    replace f3 := b1.keepf hz f3
    replace f4 := b1.keepf hz f4
    replace hB := hB.next b1
    have hz1 : R < w1.heap.size := Nat.lt_of_lt_of_le hz b1.size
    have e0 := hB.keep g0
    have e1 := hB.keep g1
    have e2 := hB.keep g2
    have hh := h.below hB
    clear b1 hz
    go_wp2
    go_region_held3 (fun W' => W'.cell? ⟨w.heap.size, 1, none⟩ = some (.slice (some ⟨b, off, none⟩) n c) ∧ W'.cell? ⟨b, off + k, none⟩ = some (.slice (some ⟨b', off', none⟩) 2 cap') ∧ W'.cell? ⟨b', off', none⟩ = some (.int .i64 x) ∧ W'.cell? ⟨b', off' + 1, none⟩ = some (.int .i64 y))
      (first | (exact ⟨k2, e0, e1, e2⟩) | go_keep) (fail)
    clear e0 e1 e2
    all_goals
      go_wp2_with fail
      refine (HCT.out _ (hh.qt (Qt.refl _).drew)).mono ?_
      rintro e w4 ⟨a4, c4, rfl, o4, b4⟩
      have bb4 := (Qt.refl w1).drew.below.next b4
      replace k3 := bb4.keep k3
      replace k4 := bb4.keep k4
      replace f3 := bb4.keepf hz1 f3
      replace f4 := bb4.keepf hz1 f4
      replace hB := hB.next bb4
      have hz4 := bb4.size
      replace o4 : OwR w1.heap.size w4.heap.size w4 _ F := o4
      clear b4 bb4
      go_wp2
      refine bodyPost_ret (v := .tuple #[.agg #[.int .i64 (s - 1), .slice a4 F.length c4], .int .i64 0]) (by simp [results, Try.results30, go_sem, k3, k4]) rfl ⟨a4, c4, rfl, ?_, ?_⟩
      · refine (OwR.chg (lo' := w.heap.size) (hi' := w1.heap.size) o4 ?_ (.inr (Nat.le_refl _))).mono (by omega) (by simp [World.setCell])
        repeat (refine Chg.setCell ?_ (by constructor <;> simp <;> omega) _)
        exact Chg.refl _ _ _
      · repeat (refine Below.setCell ?_ (by simp <;> omega) _)
        exact hB

theorem specCon {lo hi : Nat} (s : Int) (a : Option Addr) (n c : Nat) (xss : List (List Int)) (k : Int) (w : World) (h : RdR lo hi w (.slice a n c) xss) (hn : xss.length = n) :
    Calls Try.prog 30 #[.agg #[.int .i64 s, .slice a n c], .int .i64 k] w fun e w' => ∃ a' c', e = .returned (.tuple #[.agg #[.int .i64 (conOf s xss k).1.1, .slice a' (conOf s xss k).1.2.length c'], .int .i64 (conOf s xss k).2]) ∧ OwR w.heap.size w'.heap.size w' (.slice a' (conOf s xss k).1.2.length c') (conOf s xss k).1.2 ∧ Below w.heap.size w w' := by
  by_cases hc : edgeCode s xss k = 0
  · obtain ⟨_, h0, h1⟩ := edgeCode_ok hc
    obtain ⟨K, rfl⟩ : ∃ K : Nat, k = K := ⟨k.toNat, by omega⟩
    exact specCon_yes s a n c xss K w h hn hc
  · have e1 : conOf s xss k = ((0, []), edgeCode s xss k) := by unfold conOf; rw [if_pos hc]
    rw [e1]
    exact (specCon_no s a n c xss k w h hn hc).mono fun e w' ⟨he, hb⟩ => ⟨none, 0, he, OwR.nil (World.ownsRow_nil _ _ _ _) (Nat.le_refl _), hb⟩

end Go.Proofs.Ytecobmmlpoaggaa
