/- DeleteEdge of the program. -/
import Derived.Test.YtecobmmlpoaggaaSlDel
import Derived.Deep.RegionHeld3
set_option linter.unusedSimpArgs false
set_option linter.unusedVariables false
namespace Go.Proofs.Ytecobmmlpoaggaa
open Go.RowKit

theorem ownsRow_cap2 {w : World} {B e size n : Nat} {v : Value} {xs : List Value} (h : w.ownsRow B e size v n xs) : ∀ a m c, v = .slice a m c → m ≤ c := by
  intro a m c hv
  rcases h.2 with ⟨h2, _⟩ | ⟨g, cap, cur, h2, _, _, hn, _⟩
  · rw [h2] at hv; simp at hv; omega
  · rw [h2] at hv; simp at hv; omega
/-- a block g holds a list of pairs, of which nothing is frozen -/
structure HoE (w : World) (g : Nat) (es : List (Int × Int)) : Prop where
  cell : ∀ j, j < es.length → w.cell? ⟨g, j * 2, none⟩ = some (.int .i64 (es.getD j (0, 0)).1) ∧ w.cell? ⟨g, j * 2 + 1, none⟩ = some (.int .i64 (es.getD j (0, 0)).2)
  free : ∀ j, w.frozen? ⟨g, j, none⟩ = false
  lt : g < w.heap.size

theorem HoE.chg {lo hi : Nat} {w w' : World} {g : Nat} {es : List (Int × Int)} (h : HoE w g es) (hb : Chg lo hi w w') (hg : g < lo ∨ hi ≤ g) : HoE w' g es :=
  ⟨fun j hj => ⟨hb.cell (h.cell j hj).1 hg, hb.cell (h.cell j hj).2 hg⟩, fun j => hb.frozen h.lt hg (h.free j), Nat.lt_of_lt_of_le h.lt hb.size⟩
theorem HoE.below {w w' : World} {g : Nat} {es : List (Int × Int)} (h : HoE w g es) (hb : Below w.heap.size w w') : HoE w' g es := h.chg (hb.chg 0 0) (.inr (Nat.zero_le _))
theorem HoE.rde {w : World} {g : Nat} {es : List (Int × Int)} (h : HoE w g es) : RdE w (some ⟨g, 0, none⟩) es := fun j hj => ⟨g, rfl, h.lt, (h.cell j hj).1, (h.cell j hj).2⟩

set_option maxHeartbeats 1600000 in
theorem edgesWithout {lo hi : Nat} (s : Int) (a : Option Addr) (n c : Nat) (xss : List (List Int)) (k : Nat) (w : World) (h : RdR lo hi w (.slice a n c) xss) (hg : grB s xss = true) (hn : xss.length = n) (hk : k < n) :
    Calls Try.prog 71 #[.agg #[.int .i64 s, .slice a n c], .int .i64 k] w fun e w' => ∃ g c', e = .returned (.slice (some ⟨g, 0, none⟩) (n - 1) c') ∧ w.heap.size < g ∧ HoE w' g ((pairs xss).eraseIdx k) ∧ Below w.heap.size w w' := by
  have hb0 : ∀ o, Below w.heap.size w (w.alloc o) := fun o => (Below.refl _ _).alloc (Nat.le_refl _) o
  obtain ⟨r, hr⟩ : ∃ r, n = k + r + 1 := ⟨n - k - 1, by omega⟩
  have h3 := (grB_iff hg).2.2.1
  have hn10 : n ≤ 10 := by omega
  have HN := Lib.hid hn
  have HG := Lib.hid hg
  have HR := Lib.hid hr
  have hwr : IntKind.i64.wrap ((k : Int) + 1) = (k : Int) + 1 := IntWalk.i64_in _ (by omega)
  clear hn hg hr h3
  go_enter Try.func71, Try.ntmps71
  go_wp2_with fail
  refine calls_gen (fun W => Below w.heap.size w W ∧ W.heap.size = w.heap.size + 1) ⟨hb0 _, by simp⟩ ?_
  rintro W ⟨hB, hz⟩
  refine (edgesOfP s a n c xss W (h.below hB) HG.out HN.out (by omega)).mono ?_
  rintro e w2 ⟨g, c2, rfl, o2, b2⟩
  replace hB := hB.next b2
  obtain ⟨hg1, hg2⟩ := o2.lt g rfl
  have hcap := ownsRow_cap2 o2 _ _ _ rfl
  have hE := RdE.mk o2 (by rw [pairs_len]; exact HN.out)
  have hf := fun j => o2.frozenAt j
  have HW := Lib.hid (⟨hE, hf⟩ : _ ∧ _)
  clear o2 b2 hE hf
  go_wp2_with fail
  have hr := HR.out
  subst hr
  refine (slDelete g c2 k r (pairs xss) _ (by rw [pairs_len]; exact HN.out) hcap (by omega) (fun j hj => ?_) (fun j hj => HW.out.2 j)).mono ?_
  · obtain ⟨b, e1, _, e2, e3⟩ := HW.out.1 j (by rw [pairs_len, HN.out]; exact hj)
    simp only [Option.some.injEq, Addr.mk.injEq] at e1
    obtain ⟨rfl, _⟩ := e1
    exact ⟨e2, e3⟩
  rintro e w3 ⟨rfl, q1, q2, q3⟩
  have hlen : ((pairs xss).eraseIdx k).length = k + r := by
    rw [List.length_eraseIdx, if_pos (by rw [pairs_len, HN.out]; exact hk), pairs_len, HN.out]; omega
  have hH : HoE w3 g ((pairs xss).eraseIdx k) := ⟨fun j hj => q1 j (by rw [← hlen]; exact hj), fun j => by rw [q2]; exact HW.out.2 j, Nat.lt_of_lt_of_le hg2 q3.size⟩
  replace hB := hB.chgn q3 (by omega) hB.size
  have HH := Lib.hid hH
  clear q1 q2 q3 hH hlen
  go_wp2
  go_ret
  exact ⟨g, c2, rfl, by omega, HH.out, hB⟩

theorem map_erase {α β : Type} (f : α → β) (l : List α) (k : Nat) : (l.eraseIdx k).map f = (l.map f).eraseIdx k := by
  induction l generalizing k with
  | nil => simp
  | cons x r ih => cases k <;> simp [ih]
theorem unp_erase {s : Int} {xss : List (List Int)} {k : Nat} (h : grB s xss = true) : unp ((pairs xss).eraseIdx k) = xss.eraseIdx k := by
  have := unp_pairs h
  unfold unp at this ⊢
  rw [map_erase, this]
theorem erase_len {xss : List (List Int)} {k n : Nat} (hn : xss.length = n) (hk : k < n) : ((pairs xss).eraseIdx k).length = n - 1 := by
  rw [List.length_eraseIdx, if_pos (by rw [pairs_len]; omega), pairs_len]; omega
theorem erase_I64 {s : Int} {xss : List (List Int)} {k : Nat} (h : grB s xss = true) : ∀ j, j < ((pairs xss).eraseIdx k).length → I64 (((pairs xss).eraseIdx k).getD j (0, 0)).1 ∧ I64 (((pairs xss).eraseIdx k).getD j (0, 0)).2 := by
  intro j hj
  have hm := List.getElem_mem hj
  have e : ((pairs xss).eraseIdx k).getD j (0, 0) = ((pairs xss).eraseIdx k)[j] := by simp [List.getD, List.getElem?_eq_getElem hj]
  rw [e]
  obtain ⟨i, hi, he⟩ := List.getElem_of_mem (List.mem_of_mem_eraseIdx hm)
  have := gr_I64 h (k := i) (by rw [← pairs_len]; exact hi)
  rw [← he]
  simpa [List.getD, List.getElem?_eq_getElem hi] using this

set_option maxHeartbeats 800000 in
theorem implDel_no {lo hi : Nat} (s : Int) (a : Option Addr) (n c : Nat) (xss : List (List Int)) (k : Int) (w : World) (h : RdR lo hi w (.slice a n c) xss) (hn : xss.length = n) (hc : edgeCode s xss k ≠ 0) :
    Calls Try.prog 28 #[.agg #[.int .i64 s, .slice a n c], .int .i64 k] w fun e w' => e = .returned (.tuple #[.agg #[.int .i64 0, .slice none 0 0], .int .i64 (edgeCode s xss k)]) ∧ Below w.heap.size w w' := by
  have hb0 : ∀ o o', Below w.heap.size w ((w.alloc o).alloc o') := fun o o' => ((Below.refl _ _).alloc (Nat.le_refl _) o).alloc (by simp) o'
  have hcn := code_ne' hc
  go_enter Try.func28, Try.ntmps28
  go_wp2_with fail
  refine calls_gen (fun W => Below w.heap.size w W ∧ w.heap.size + 1 < W.heap.size ∧ W.cell? ⟨w.heap.size + 1, 0, none⟩ = some (.int .i64 0) ∧ W.cell? ⟨w.heap.size + 1, 1, none⟩ = some (.slice none 0 0) ∧ W.frozen? ⟨w.heap.size + 1, 0, none⟩ = false ∧ W.frozen? ⟨w.heap.size + 1, 1, none⟩ = false) ⟨hb0 _ _, by simp, by go_simp, by go_simp, by go_simp, by go_simp⟩ ?_
  rintro W ⟨hB, hz, k1, k2, f1, f2⟩
  refine (checkEdge s a n c xss k W (h.below hB) hn).mono ?_
  rintro e w1 ⟨rfl, b1⟩
  replace k1 := b1.keep k1
  replace k2 := b1.keep k2
  replace f1 := b1.keepf hz f1
  replace f2 := b1.keepf hz f2
  replace hB := hB.next b1
  obtain ⟨cd, hcd⟩ : ∃ cd, cd = edgeCode s xss k := ⟨_, rfl⟩
  rw [← hcd] at hcn ⊢
  have HCD := Lib.hid hcd
  clear hcd hc b1
  go_wp2
  refine bodyPost_ret (v := .tuple #[.agg #[.int .i64 0, .slice none 0 0], .int .i64 cd]) (by simp [results, Try.results28, go_sem, k1, k2]) rfl ⟨by rw [HCD.out], ?_⟩
  repeat (refine Below.setCell ?_ (by simp <;> omega) _)
  exact hB

set_option maxHeartbeats 1600000 in
theorem implDel_yes {lo hi : Nat} (s : Int) (a : Option Addr) (n c : Nat) (xss : List (List Int)) (k : Nat) (w : World) (h : RdR lo hi w (.slice a n c) xss) (hn : xss.length = n) (hc : edgeCode s xss k = 0) :
    Calls Try.prog 28 #[.agg #[.int .i64 s, .slice a n c], .int .i64 k] w fun e w' => ∃ a' c', e = .returned (.tuple #[.agg #[.int .i64 s, .slice a' (xss.eraseIdx k).length c'], .int .i64 0]) ∧ OwR w.heap.size w'.heap.size w' (.slice a' (xss.eraseIdx k).length c') (xss.eraseIdx k) ∧ Below w.heap.size w w' := by
  have hb0 : ∀ o o', Below w.heap.size w ((w.alloc o).alloc o') := fun o o' => ((Below.refl _ _).alloc (Nat.le_refl _) o).alloc (by simp) o'
  obtain ⟨hg, h0, h1⟩ := edgeCode_ok hc
  obtain ⟨hs1, hs2, h3, h4⟩ := grB_iff hg
  have hn10 : n ≤ 10 := by omega
  have hk : k < n := by omega
  have HL := Lib.hid (erase_len hn hk)
  have HI := Lib.hid (erase_I64 (k := k) hg)
  have HU := Lib.hid (unp_erase (k := k) hg)
  have HG := Lib.hid hg
  have HN := Lib.hid hn
  have HC := Lib.hid hc
  clear hc hg h0 h1 h3 h4 hn
  go_enter Try.func28, Try.ntmps28
  go_wp2_with fail
  refine calls_gen (fun W => Below w.heap.size w W ∧ w.heap.size + 1 < W.heap.size ∧ W.cell? ⟨w.heap.size, 0, none⟩ = some (.int .i64 s) ∧ W.cell? ⟨w.heap.size, 1, none⟩ = some (.slice a n c) ∧ W.cell? ⟨w.heap.size + 1, 0, none⟩ = some (.int .i64 0) ∧ W.cell? ⟨w.heap.size + 1, 1, none⟩ = some (.slice none 0 0) ∧ W.frozen? ⟨w.heap.size + 1, 0, none⟩ = false ∧ W.frozen? ⟨w.heap.size + 1, 1, none⟩ = false) ⟨hb0 _ _, by simp, by go_simp, by go_simp, by go_simp, by go_simp, by go_simp, by go_simp⟩ ?_
  rintro W ⟨hB, hz, k1, k2, k3, k4, f3, f4⟩
  obtain ⟨R, hR⟩ : ∃ R, R = w.heap.size + 1 := ⟨_, rfl⟩
  rw [← hR] at hz k3 k4 f3 f4 ⊢
  have hwR : w.heap.size < R := by omega
  clear hR
  refine (checkEdge s a n c xss k W (h.below hB) HN.out).mono ?_
  rw [HC.out]
  rintro e w1 ⟨rfl, b1⟩
  replace k1 := b1.keep k1
  replace k2 := b1.keep k2
  replace k3 := b1.keep k3
  replace k4 := b1.keep k4
  replace f3 := b1.keepf hz f3
  replace f4 := b1.keepf hz f4
  replace hB := hB.next b1
  have hz1 : R < w1.heap.size := Nat.lt_of_lt_of_le hz b1.size
  have hh := h.below hB
  have hRw : ¬ R = w.heap.size := by omega
  have hRw' : ¬ w.heap.size = R := by omega
  clear b1 hz
  go_wp2
  go_region_held3 (fun W' => W'.cell? ⟨w.heap.size, 0, none⟩ = some (.int .i64 s) ∧ W'.cell? ⟨w.heap.size, 1, none⟩ = some (.slice a n c))
    (first | (exact ⟨k1, k2⟩) | (go_split_ands; exact ⟨b5.keep (by assumption), b5.keep (by assumption)⟩) | (go_split_ands; exact ⟨b4.keep (by assumption), b4.keep (by assumption)⟩) | go_keep)
    (first
      | (go_at_call 71; refine (edgesWithout s a n c xss k _ (hh.qt (Qt.refl _).drew) HG.out HN.out hk).mono ?_; rintro e w4 ⟨g, c4, rfl, hwg, hH, b4⟩; have bb4 := (Qt.refl w1).drew.below.next b4; have x3 := bb4.keep k3; have x4 := bb4.keep k4; have y3 := bb4.keepf hz1 f3; have y4 := bb4.keepf hz1 f4)
      | (go_at_call 70; refine (graphWith s _ (n-1) c4 ((pairs xss).eraseIdx k) _ hH.rde HL.out (by omega) (by rw [← HL.out]; exact HI.out)).mono ?_; rintro e w5 ⟨a5, c5, rfl, o5, b5⟩; have z3 := b5.keep x3; have z4 := b5.keep x4; have u3 := b5.keepf (Nat.lt_of_lt_of_le hz1 bb4.size) y3; have u4 := b5.keepf (Nat.lt_of_lt_of_le hz1 bb4.size) y4))
  all_goals
    rw [HU.out] at o5
    have hul : (unp ((pairs xss).eraseIdx k)).length = (xss.eraseIdx k).length := by rw [HU.out]
    have hz4 := bb4.size
    have hB5 := (hB.next bb4).next b5
    clear bb4 b4 b5
    go_wp2
    refine bodyPost_ret (v := .tuple #[.agg #[.int .i64 s, .slice a5 (xss.eraseIdx k).length c5], .int .i64 0]) (by simp [results, Try.results28, go_sem, z3, z4, hul]) rfl ⟨a5, c5, rfl, ?_, ?_⟩
    · refine (OwR.chg (lo' := w.heap.size) (hi' := w4.heap.size) o5 ?_ (.inr (Nat.le_refl _))).mono (by omega) (by simp [World.setCell])
      repeat (refine Chg.setCell ?_ (by constructor <;> simp <;> omega) _)
      exact Chg.refl _ _ _
    · repeat (refine Below.setCell ?_ (by simp <;> omega) _)
      exact hB5

theorem implDel {lo hi : Nat} (s : Int) (a : Option Addr) (n c : Nat) (xss : List (List Int)) (k : Int) (w : World) (h : RdR lo hi w (.slice a n c) xss) (hn : xss.length = n) :
    Calls Try.prog 28 #[.agg #[.int .i64 s, .slice a n c], .int .i64 k] w fun e w' => ∃ a' c', e = .returned (.tuple #[.agg #[.int .i64 (delOf s xss k).1.1, .slice a' (delOf s xss k).1.2.length c'], .int .i64 (delOf s xss k).2]) ∧ OwR w.heap.size w'.heap.size w' (.slice a' (delOf s xss k).1.2.length c') (delOf s xss k).1.2 ∧ Below w.heap.size w w' := by
  by_cases hc : edgeCode s xss k = 0
  · have e1 : delOf s xss k = ((s, xss.eraseIdx k.toNat), 0) := by unfold delOf; rw [if_neg (by simp [hc])]
    rw [e1]
    obtain ⟨_, h0, h1⟩ := edgeCode_ok hc
    obtain ⟨K, rfl⟩ : ∃ K : Nat, k = K := ⟨k.toNat, by omega⟩
    exact implDel_yes s a n c xss K w h hn hc
  · have e1 : delOf s xss k = ((0, []), edgeCode s xss k) := by unfold delOf; rw [if_pos hc]
    rw [e1]
    exact (implDel_no s a n c xss k w h hn hc).mono fun e w' ⟨he, hb⟩ => ⟨none, 0, he, OwR.nil (World.ownsRow_nil _ _ _ _) (Nat.le_refl _), hb⟩

end Go.Proofs.Ytecobmmlpoaggaa
