/- SubdivideEdge of the program. -/
import Derived.Test.YtecobmmlpoaggaaSubdPure
import Derived.Test.YtecobmmlpoaggaaImplDegrees2
set_option linter.unusedSimpArgs false
set_option linter.unusedVariables false
namespace Go.Proofs.Ytecobmmlpoaggaa
open Go.RowKit

theorem code_ne {s : Int} {xss : List (List Int)} {k : Int} (h : edgeCode s xss k ≠ 0) : (edgeCode s xss k != 0) = true := by simpa using h

set_option maxHeartbeats 800000 in
theorem implSubd_no {lo hi : Nat} (s : Int) (a : Option Addr) (n c : Nat) (xss : List (List Int)) (k : Int) (w : World) (h : RdR lo hi w (.slice a n c) xss) (hn : xss.length = n) (hc : edgeCode s xss k ≠ 0) :
    Calls Try.prog 33 #[.agg #[.int .i64 s, .slice a n c], .int .i64 k] w fun e w' => e = .returned (.tuple #[.agg #[.int .i64 0, .slice none 0 0], .int .i64 (edgeCode s xss k)]) ∧ Below w.heap.size w w' := by
  have hb0 : ∀ o o', Below w.heap.size w ((w.alloc o).alloc o') := fun o o' => ((Below.refl _ _).alloc (Nat.le_refl _) o).alloc (by simp) o'
  have hcn := code_ne hc
  go_enter Try.func33, Try.ntmps33
  go_wp2_with fail
  refine calls_gen (fun W => Below w.heap.size w W ∧ w.heap.size + 1 < W.heap.size ∧ W.cell? ⟨w.heap.size + 1, 0, none⟩ = some (.int .i64 0) ∧ W.cell? ⟨w.heap.size + 1, 1, none⟩ = some (.slice none 0 0) ∧ W.frozen? ⟨w.heap.size + 1, 0, none⟩ = false ∧ W.frozen? ⟨w.heap.size + 1, 1, none⟩ = false) ⟨hb0 _ _, by simp, by go_simp, by go_simp, by go_simp, by go_simp⟩ ?_
  rintro W ⟨hB, hz, k1, k2, f1, f2⟩
  refine (checkEdge s a n c xss k W (h.below hB) hn).mono ?_
  rintro e w1 ⟨rfl, b1⟩
  replace k1 := b1.keep k1
  replace k2 := b1.keep k2
  replace f1 := b1.keepf hz f1
  replace f2 := b1.keepf hz f2
  replace hB := hB.next b1
  obtain ⟨cd, hcd⟩ : ∃ cd, cd = edgeCode s xss k := ⟨_, rfl⟩
  rw [← hcd] at hcn ⊢
  have HCD := Lib.hid hcd
  clear hcd hc b1
  go_wp2
  refine bodyPost_ret (v := .tuple #[.agg #[.int .i64 0, .slice none 0 0], .int .i64 cd]) (by simp [results, Try.results33, go_sem, k1, k2]) rfl ⟨by rw [HCD.out], ?_⟩
  repeat (refine Below.setCell ?_ (by simp <;> omega) _)
  exact hB

set_option maxHeartbeats 800000 in
theorem implSubd_full {lo hi : Nat} (s : Int) (a : Option Addr) (n c : Nat) (xss : List (List Int)) (k : Int) (w : World) (h : RdR lo hi w (.slice a n c) xss) (hn : xss.length = n) (hc : edgeCode s xss k = 0) (hf : s = 8 ∨ n = 10) :
    Calls Try.prog 33 #[.agg #[.int .i64 s, .slice a n c], .int .i64 k] w fun e w' => e = .returned (.tuple #[.agg #[.int .i64 0, .slice none 0 0], .int .i64 3]) ∧ Below w.heap.size w w' := by
  have hb0 : ∀ o o', Below w.heap.size w ((w.alloc o).alloc o') := fun o o' => ((Below.refl _ _).alloc (Nat.le_refl _) o).alloc (by simp) o'
  obtain ⟨hg, h0, h1⟩ := edgeCode_ok hc
  obtain ⟨_, _, h3, _⟩ := grB_iff hg
  have hn10 : n ≤ 10 := by omega
  have HC := Lib.hid hc
  clear hc hg h1 h3
  by_cases hs8 : s = 8
  case' pos => subst hs8
  case' neg => obtain rfl : n = 10 := by omega
  all_goals
    go_enter Try.func33, Try.ntmps33
    go_wp2_with fail
    refine calls_gen (fun W => Below w.heap.size w W ∧ w.heap.size + 1 < W.heap.size ∧ W.cell? ⟨w.heap.size, 0, none⟩ = some (.int .i64 _) ∧ W.cell? ⟨w.heap.size, 1, none⟩ = some (.slice a _ c) ∧ W.cell? ⟨w.heap.size + 1, 0, none⟩ = some (.int .i64 0) ∧ W.cell? ⟨w.heap.size + 1, 1, none⟩ = some (.slice none 0 0) ∧ W.frozen? ⟨w.heap.size + 1, 0, none⟩ = false ∧ W.frozen? ⟨w.heap.size + 1, 1, none⟩ = false) ⟨hb0 _ _, by simp, by go_simp; rfl, by go_simp; rfl, by go_simp, by go_simp, by go_simp, by go_simp⟩ ?_
    rintro W ⟨hB, hz, k1, k2, k3, k4, f3, f4⟩
    refine (checkEdge _ a _ c xss k W (h.below hB) hn).mono ?_
    rw [HC.out]
    rintro e w1 ⟨rfl, b1⟩
    replace k1 := b1.keep k1
    replace k2 := b1.keep k2
    replace k3 := b1.keep k3
    replace k4 := b1.keep k4
    replace f3 := b1.keepf hz f3
    replace f4 := b1.keepf hz f4
    replace hB := hB.next b1
    clear b1
    go_wp2
    refine bodyPost_ret (v := .tuple #[.agg #[.int .i64 0, .slice none 0 0], .int .i64 3]) (by simp [results, Try.results33, go_sem, k3, k4]) rfl ⟨rfl, ?_⟩
    repeat (refine Below.setCell ?_ (by simp <;> omega) _)
    exact hB

theorem news_two (w : World) (t : TypeId) (x y : Value) : ∀ (j : Nat) (u : Value), [x, y][j]? = some u → (w.alloc (.cells #[x, y] t)).cell? (({ block := w.heap.size, off := 0 } : Addr).add j) = some u := by
  intro j u hj
  match j, hj with
  | 0, hj => simp at hj; subst hj; simp [Addr.add]
  | 1, hj => simp at hj; subst hj; simp [Addr.add]

theorem info_edge : (Try.prog.info? 64).map (fun i => (i.zero, i.size, i.bytes)) = some (some (.agg #[.int .i64 0, .int .i64 0]), 2, 16) := Try.info64

set_option maxHeartbeats 3200000 in
theorem implSubd_yes {lo hi : Nat} (s : Int) (a : Option Addr) (n c : Nat) (xss : List (List Int)) (k : Nat) (w : World) (h : RdR lo hi w (.slice a n c) xss) (hn : xss.length = n) (hc : edgeCode s xss k = 0) (hs8 : s ≠ 8) (hn10 : n ≠ 10) :
    Calls Try.prog 33 #[.agg #[.int .i64 s, .slice a n c], .int .i64 k] w fun e w' => ∃ a' c', e = .returned (.tuple #[.agg #[.int .i64 (s + 1), .slice a' (subRows s xss k).length c'], .int .i64 0]) ∧ OwR w.heap.size w'.heap.size w' (.slice a' (subRows s xss k).length c') (subRows s xss k) ∧ Below w.heap.size w w' := by
  obtain ⟨i0, hi', z0, z1, z2⟩ := info_parts info_edge
  have hb0 : ∀ o o', Below w.heap.size w ((w.alloc o).alloc o') := fun o o' => ((Below.refl _ _).alloc (Nat.le_refl _) o).alloc (by simp) o'
  obtain ⟨hg, h0, h1⟩ := edgeCode_ok hc
  obtain ⟨hs1, hs2, h3, h4⟩ := grB_iff hg
  have hk : k < n := by omega
  have hk' : k < xss.length := by omega
  have hn9 : n ≤ 9 := by omega
  have hfg := flat_get xss k hk'
  have hfs := flat_set (pairs xss) k ((xss.getD k []).getD 0 0, s) (by rw [pairs_len]; exact hk')
  have HI := Lib.hid (sub_I64 (k := k) hg hk')
  have HU := Lib.hid (unp_sub (k := k) hg)
  have HFG := Lib.hid hfg
  have HFS := Lib.hid hfs
  have HPL := Lib.hid (subPairs_len s xss k)
  have hsp : subPairs s xss k = (pairs xss).set k ((xss.getD k []).getD 0 0, s) ++ [(s, (xss.getD k []).getD 1 0)] := rfl
  generalize hx0 : (xss.getD k []).getD 0 0 = x0 at *
  generalize hx1 : (xss.getD k []).getD 1 0 = x1 at *
  have HSP := Lib.hid hsp
  have HG := Lib.hid hg
  have HN := Lib.hid hn
  have HC := Lib.hid hc
  have hs8b : (s == 8) = false := by simpa using hs8
  have hn10b : ((n : Int) == 10) = false := by simp; omega
  clear hc hg h0 h1 h3 h4 hfg hfs hk' hx0 hx1 hsp hn
  go_enter Try.func33, Try.ntmps33
  go_wp2_with fail
  refine calls_gen (fun W => Below w.heap.size w W ∧ w.heap.size + 1 < W.heap.size ∧ W.cell? ⟨w.heap.size, 0, none⟩ = some (.int .i64 s) ∧ W.cell? ⟨w.heap.size, 1, none⟩ = some (.slice a n c) ∧ W.cell? ⟨w.heap.size + 1, 0, none⟩ = some (.int .i64 0) ∧ W.cell? ⟨w.heap.size + 1, 1, none⟩ = some (.slice none 0 0) ∧ W.frozen? ⟨w.heap.size + 1, 0, none⟩ = false ∧ W.frozen? ⟨w.heap.size + 1, 1, none⟩ = false) ⟨hb0 _ _, by simp, by go_simp, by go_simp, by go_simp, by go_simp, by go_simp, by go_simp⟩ ?_
  rintro W ⟨hB, hz, k1, k2, k3, k4, f3, f4⟩
  obtain ⟨R, hR⟩ : ∃ R, R = w.heap.size + 1 := ⟨_, rfl⟩
  rw [← hR] at hz k3 k4 f3 f4 ⊢
  have hwR : w.heap.size < R := by omega
  clear hR
  refine (checkEdge s a n c xss k W (h.below hB) HN.out).mono ?_
  rw [HC.out]
  rintro e w1 ⟨rfl, b1⟩
  replace k1 := b1.keep k1
  replace k2 := b1.keep k2
  replace k3 := b1.keep k3
  replace k4 := b1.keep k4
  replace f3 := b1.keepf hz f3
  replace f4 := b1.keepf hz f4
  replace hB := hB.next b1
  have hz1 : R < w1.heap.size := Nat.lt_of_lt_of_le hz b1.size
  clear b1 hz
  go_wp2_with fail
  refine (edgesOfP s a n c xss _ (h.below hB) HG.out HN.out (by omega)).mono ?_
  rintro e w2 ⟨g, c2, rfl, o2, b2⟩
  replace k1 := b2.keep k1
  replace k2 := b2.keep k2
  replace k3 := b2.keep k3
  replace k4 := b2.keep k4
  replace f3 := b2.keepf hz1 f3
  replace f4 := b2.keepf hz1 f4
  replace hB := hB.next b2
  have hz2 : R < w2.heap.size := Nat.lt_of_lt_of_le hz1 b2.size
  obtain ⟨hg1, hg2⟩ := o2.lt g rfl
  have hwz : w.heap.size < w2.heap.size := by omega
  have e0 := (o2.cellAt (k * 2) (by omega)).trans HFG.out.1
  have e1 := (o2.cellAt (k * 2 + 1) (by omega)).trans HFG.out.2
  have r0 := o2.frozenAt (k * 2)
  have r1 := o2.frozenAt (k * 2 + 1)
  have hst := ((o2.stored (k * 2) (.int .i64 x0)).1.stored (k * 2 + 1) (.int .i64 s)).1
  rw [HFS.out] at hst
  have HST := Lib.hid hst
  clear hst b2
  have hm63 : n + 1 ≤ maxLen := by unfold maxLen; omega
  have hby : (n + 1) * 16 ≤ 140737488355328 := by omega
  go_wp2_with (at_builtin; refine wpList_append_lies _ rfl _ _ 61 rfl w1.heap.size 64 i0 (.agg #[.int .i64 0, .int .i64 0]) 2 16 Try.underlying61 hi' z0 z1 z2 rfl (by decide) _ _ _ rfl ((HST.out.alloc _).alloc _) ⟨w2.heap.size + 1, 0, none⟩ 1 1 [.int .i64 s, .int .i64 x1] rfl rfl ?c1 ?c2 (by decide) hm63 hby ?c5 _ rfl ?_)
  case c1 =>
    have hz : (((w2.setCell ⟨g, k * 2, none⟩ (.int .i64 x0)).setCell ⟨g, k * 2 + 1, none⟩ (.int .i64 s)).alloc (.cells #[.int .i64 x0, .int .i64 x1] 64)).heap.size = w2.heap.size + 1 := by simp [World.setCell]
    rw [← hz]
    exact news_two _ _ _ _
  case c2 => intro u hu; simp at hu; rcases hu with rfl | rfl <;> rfl
  case c5 => simp [World.setCell]; omega
  intro g2 c3 w3 hown3 hgr hlie hlt3
  have hch : Chg g (g + 1) w2 w3 := by
    refine Chg.trans ?_ (Chg.grown hgr (fun q hq => by have : g = q := by simpa [Value.ownBlock] using hq
                                                       omega))
    refine Chg.trans (((Chg.refl g (g+1) w2).setCell (p := ⟨g, k * 2, none⟩) ⟨Nat.le_refl _, Nat.lt_succ_self _⟩ (.int .i64 x0)).setCell (p := ⟨g, k * 2 + 1, none⟩) ⟨Nat.le_refl _, Nat.lt_succ_self _⟩ (.int .i64 s)) ?_
    exact (((Below.refl _ _).alloc (Nat.le_refl _) _).alloc (by simp) _).chg _ _
  have e9 : flat ((pairs xss).set k (x0, s)) ++ [.int .i64 s, .int .i64 x1] = flat (subPairs s xss k) := by rw [HSP.out, flat_snoc]
  rw [e9] at hown3
  have hlen : (subPairs s xss k).length = n + 1 := by rw [HPL.out, HN.out]
  have hE := RdE.mk hown3 hlen
  replace k1 := hch.cell k1 (show w.heap.size < g ∨ _ by left; omega)
  replace k2 := hch.cell k2 (show w.heap.size < g ∨ _ by left; omega)
  replace k3 := hch.cell k3 (show R < g ∨ _ by left; omega)
  replace k4 := hch.cell k4 (show R < g ∨ _ by left; omega)
  replace f3 := hch.frozen hz2 (show R < g ∨ _ by left; omega) f3
  replace f4 := hch.frozen hz2 (show R < g ∨ _ by left; omega) f4
  replace hB := hB.chgn hch (by omega) hB.size
  have hz3 : R < w3.heap.size := Nat.lt_of_lt_of_le hz2 hch.size
  have HI2 := Lib.hid (show ∀ j, j < n + 1 → _ from fun j hj => HI.out j (by rw [HN.out]; exact hj))
  have HLEN := Lib.hid hlen
  clear hch hgr hown3 hlie e9 hlen e0 e1 r0 r1 o2
  go_wp2_with fail
  refine (graphWith (s + 1) _ (n + 1) c3 (subPairs s xss k) _ hE HLEN.out (by omega) HI2.out).mono ?_
  rintro e w4 ⟨a4, c4, rfl, o4, b4⟩
  rw [HU.out] at o4 ⊢
  replace k3 := b4.keep k3
  replace k4 := b4.keep k4
  replace f3 := b4.keepf hz3 f3
  replace f4 := b4.keepf hz3 f4
  replace hB := hB.next b4
  have hz4 := b4.size
  clear b4
  go_wp2
  refine bodyPost_ret (v := .tuple #[.agg #[.int .i64 (s + 1), .slice a4 (subRows s xss k).length c4], .int .i64 0]) (by simp [results, Try.results33, go_sem, k3, k4]) rfl ⟨a4, c4, rfl, ?_, ?_⟩
  · refine (OwR.chg (lo' := w.heap.size) (hi' := w3.heap.size) o4 ?_ (.inr (Nat.le_refl _))).mono (by omega) (by simp [World.setCell])
    repeat (refine Chg.setCell ?_ (by constructor <;> simp <;> omega) _)
    exact Chg.refl _ _ _
  · repeat (refine Below.setCell ?_ (by simp <;> omega) _)
    exact hB

theorem implSubd {lo hi : Nat} (s : Int) (a : Option Addr) (n c : Nat) (xss : List (List Int)) (k : Int) (w : World) (h : RdR lo hi w (.slice a n c) xss) (hn : xss.length = n) :
    Calls Try.prog 33 #[.agg #[.int .i64 s, .slice a n c], .int .i64 k] w fun e w' => ∃ a' c', e = .returned (.tuple #[.agg #[.int .i64 (subOf s xss k).1.1, .slice a' (subOf s xss k).1.2.length c'], .int .i64 (subOf s xss k).2]) ∧ OwR w.heap.size w'.heap.size w' (.slice a' (subOf s xss k).1.2.length c') (subOf s xss k).1.2 ∧ Below w.heap.size w w' := by
  by_cases hc : edgeCode s xss k = 0
  · by_cases hf : s = 8 ∨ n = 10
    · have e1 : subOf s xss k = ((0, []), 3) := by unfold subOf; rw [if_neg (by simp [hc]), if_pos (by rw [hn]; exact hf)]
      rw [e1]
      exact (implSubd_full s a n c xss k w h hn hc hf).mono fun e w' ⟨he, hb⟩ => ⟨none, 0, he, OwR.nil (World.ownsRow_nil _ _ _ _) (Nat.le_refl _), hb⟩
    · have e1 : subOf s xss k = ((s + 1, subRows s xss k.toNat), 0) := by unfold subOf; rw [if_neg (by simp [hc]), if_neg (by rw [hn]; exact hf)]
      rw [e1]
      obtain ⟨_, h0, h1⟩ := edgeCode_ok hc
      obtain ⟨K, rfl⟩ : ∃ K : Nat, k = K := ⟨k.toNat, by omega⟩
      exact implSubd_yes s a n c xss K w h hn hc (fun e => hf (.inl e)) (fun e => hf (.inr e))
  · have e1 : subOf s xss k = ((0, []), edgeCode s xss k) := by unfold subOf; rw [if_pos hc]
    rw [e1]
    exact (implSubd_no s a n c xss k w h hn hc).mono fun e w' ⟨he, hb⟩ => ⟨none, 0, he, OwR.nil (World.ownsRow_nil _ _ _ _) (Nat.le_refl _), hb⟩

end Go.Proofs.Ytecobmmlpoaggaa
