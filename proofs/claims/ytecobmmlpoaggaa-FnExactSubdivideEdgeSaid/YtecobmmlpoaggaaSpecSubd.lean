/- SubdivideEdge of the model. -/
import Derived.Test.YtecobmmlpoaggaaL01Copy
import Derived.Test.YtecobmmlpoaggaaImplSubd
set_option linter.unusedSimpArgs false
set_option linter.unusedVariables false
namespace Go.Proofs.Ytecobmmlpoaggaa
open Go.RowKit

set_option maxHeartbeats 800000 in
theorem specSubd_no {lo hi : Nat} (s : Int) (a : Option Addr) (n c : Nat) (xss : List (List Int)) (k : Int) (w : World) (h : RdR lo hi w (.slice a n c) xss) (hn : xss.length = n) (hc : edgeCode s xss k ≠ 0) :
    Calls Try.prog 32 #[.agg #[.int .i64 s, .slice a n c], .int .i64 k] w fun e w' => e = .returned (.tuple #[.agg #[.int .i64 0, .slice none 0 0], .int .i64 (edgeCode s xss k)]) ∧ Below w.heap.size w w' := by
  have hb0 : ∀ o o', Below w.heap.size w ((w.alloc o).alloc o') := fun o o' => ((Below.refl _ _).alloc (Nat.le_refl _) o).alloc (by simp) o'
  have hcn := code_ne hc
  go_enter Try.func32, Try.ntmps32
  go_wp2_with fail
  refine calls_gen (fun W => Below w.heap.size w W ∧ w.heap.size + 1 < W.heap.size ∧ W.cell? ⟨w.heap.size + 1, 0, none⟩ = some (.int .i64 0) ∧ W.cell? ⟨w.heap.size + 1, 1, none⟩ = some (.slice none 0 0) ∧ W.frozen? ⟨w.heap.size + 1, 0, none⟩ = false ∧ W.frozen? ⟨w.heap.size + 1, 1, none⟩ = false) ⟨hb0 _ _, by simp, by go_simp, by go_simp, by go_simp, by go_simp⟩ ?_
  rintro W ⟨hB, hz, k1, k2, f1, f2⟩
  refine (l01Edge s a n c xss k W (h.below hB) hn).mono ?_
  rintro e w1 ⟨rfl, b1⟩
  replace k1 := b1.keep k1
  replace k2 := b1.keep k2
  replace f1 := b1.keepf hz f1
  replace f2 := b1.keepf hz f2
  replace hB := hB.next b1
  obtain ⟨cd, hcd⟩ : ∃ cd, cd = edgeCode s xss k := ⟨_, rfl⟩
  rw [← hcd] at hcn ⊢
  have HCD := Lib.hid hcd
  clear hcd hc b1
  go_wp2
  refine bodyPost_ret (v := .tuple #[.agg #[.int .i64 0, .slice none 0 0], .int .i64 cd]) (by simp [results, Try.results32, go_sem, k1, k2]) rfl ⟨by rw [HCD.out], ?_⟩
  repeat (refine Below.setCell ?_ (by simp <;> omega) _)
  exact hB

set_option maxHeartbeats 800000 in
theorem specSubd_full {lo hi : Nat} (s : Int) (a : Option Addr) (n c : Nat) (xss : List (List Int)) (k : Int) (w : World) (h : RdR lo hi w (.slice a n c) xss) (hn : xss.length = n) (hc : edgeCode s xss k = 0) (hf : s = 8 ∨ n = 10) :
    Calls Try.prog 32 #[.agg #[.int .i64 s, .slice a n c], .int .i64 k] w fun e w' => e = .returned (.tuple #[.agg #[.int .i64 0, .slice none 0 0], .int .i64 3]) ∧ Below w.heap.size w w' := by
  have hb0 : ∀ o o', Below w.heap.size w ((w.alloc o).alloc o') := fun o o' => ((Below.refl _ _).alloc (Nat.le_refl _) o).alloc (by simp) o'
  obtain ⟨hg, h0, h1⟩ := edgeCode_ok hc
  obtain ⟨_, _, h3, _⟩ := grB_iff hg
  have hn10 : n ≤ 10 := by omega
  have HC := Lib.hid hc
  clear hc hg h1 h3
  by_cases hs8 : s = 8
  case' pos => subst hs8
  case' neg => obtain rfl : n = 10 := by omega
  all_goals
    go_enter Try.func32, Try.ntmps32
    go_wp2_with fail
    refine calls_gen (fun W => Below w.heap.size w W ∧ w.heap.size + 1 < W.heap.size ∧ W.cell? ⟨w.heap.size, 0, none⟩ = some (.int .i64 _) ∧ W.cell? ⟨w.heap.size, 1, none⟩ = some (.slice a _ c) ∧ W.cell? ⟨w.heap.size + 1, 0, none⟩ = some (.int .i64 0) ∧ W.cell? ⟨w.heap.size + 1, 1, none⟩ = some (.slice none 0 0) ∧ W.frozen? ⟨w.heap.size + 1, 0, none⟩ = false ∧ W.frozen? ⟨w.heap.size + 1, 1, none⟩ = false) ⟨hb0 _ _, by simp, by go_simp; rfl, by go_simp; rfl, by go_simp, by go_simp, by go_simp, by go_simp⟩ ?_
    rintro W ⟨hB, hz, k1, k2, k3, k4, f3, f4⟩
    refine (l01Edge _ a _ c xss k W (h.below hB) hn).mono ?_
    rw [HC.out]
    rintro e w1 ⟨rfl, b1⟩
    replace k1 := b1.keep k1
    replace k2 := b1.keep k2
    replace k3 := b1.keep k3
    replace k4 := b1.keep k4
    replace f3 := b1.keepf hz f3
    replace f4 := b1.keepf hz f4
    replace hB := hB.next b1
    clear b1
    go_wp2
    refine bodyPost_ret (v := .tuple #[.agg #[.int .i64 0, .slice none 0 0], .int .i64 3]) (by simp [results, Try.results32, go_sem, k3, k4]) rfl ⟨rfl, ?_⟩
    repeat (refine Below.setCell ?_ (by simp <;> omega) _)
    exact hB

theorem sub_rows_eq {s x1 : Int} {xss : List (List Int)} {k : Nat} (hg : grB s xss = true) (hk : k < xss.length) (hx : (xss.getD k []).getD 1 0 = x1) : (xss ++ [[s, x1]]).set k (((xss ++ [[s, x1]]).getD k []).set 1 s) = subRows s xss k := by
  have e1 : (xss ++ [[s, x1]]).getD k [] = xss.getD k [] := by simp only [List.getD]; rw [List.getElem?_append_left hk]
  obtain ⟨q1, _⟩ := (grB_iff hg).2.2.2 k hk
  unfold subRows
  rw [e1, List.set_append, if_pos hk, hx]
  congr 2
  generalize xss.getD k [] = e at *
  match e, q1 with
  | [p, q], _ => rfl

set_option maxHeartbeats 3200000 in
theorem specSubd_yes {lo hi : Nat} (s : Int) (a : Option Addr) (n c : Nat) (xss : List (List Int)) (k : Nat) (w : World) (h : RdR lo hi w (.slice a n c) xss) (hn : xss.length = n) (hc : edgeCode s xss k = 0) (hs8 : s ≠ 8) (hn10 : n ≠ 10) :
    Calls Try.prog 32 #[.agg #[.int .i64 s, .slice a n c], .int .i64 k] w fun e w' => ∃ a' c', e = .returned (.tuple #[.agg #[.int .i64 (s + 1), .slice a' (subRows s xss k).length c'], .int .i64 0]) ∧ OwR w.heap.size w'.heap.size w' (.slice a' (subRows s xss k).length c') (subRows s xss k) ∧ Below w.heap.size w w' := by
  obtain ⟨i0, hi', z0, z1, z2⟩ := info_parts Try.info45
  have hb0 : ∀ o o', Below w.heap.size w ((w.alloc o).alloc o') := fun o o' => ((Below.refl _ _).alloc (Nat.le_refl _) o).alloc (by simp) o'
  obtain ⟨hg, h0, h1⟩ := edgeCode_ok hc
  obtain ⟨hs1, hs2, h3, h4⟩ := grB_iff hg
  have hk : k < n := by omega
  have hk' : k < xss.length := by omega
  have hn9 : n ≤ 9 := by omega
  have hs8b : (s == 8) = false := by simpa using hs8
  have hn10b : ((n : Int) == 10) = false := by simp; omega
  have HRE := Lib.hid (sub_rows_eq (s := s) hg hk' rfl)
  have HQ := Lib.hid (h4 k hk')
  have HG := Lib.hid hg
  have HN := Lib.hid hn
  have HC := Lib.hid hc
  have HK' := Lib.hid hk'
  clear hc hg h0 h1 h3 h4 hk' hn
  go_enter Try.func32, Try.ntmps32
  go_wp2_with fail
  refine calls_gen (fun W => Below w.heap.size w W ∧ w.heap.size + 1 < W.heap.size ∧ W.cell? ⟨w.heap.size, 0, none⟩ = some (.int .i64 s) ∧ W.cell? ⟨w.heap.size, 1, none⟩ = some (.slice a n c) ∧ W.cell? ⟨w.heap.size + 1, 0, none⟩ = some (.int .i64 0) ∧ W.cell? ⟨w.heap.size + 1, 1, none⟩ = some (.slice none 0 0) ∧ W.frozen? ⟨w.heap.size + 1, 0, none⟩ = false ∧ W.frozen? ⟨w.heap.size + 1, 1, none⟩ = false) ⟨hb0 _ _, by simp, by go_simp, by go_simp, by go_simp, by go_simp, by go_simp, by go_simp⟩ ?_
  rintro W ⟨hB, hz, k1, k2, k3, k4, f3, f4⟩
  obtain ⟨R, hR⟩ : ∃ R, R = w.heap.size + 1 := ⟨_, rfl⟩
  rw [← hR] at hz k3 k4 f3 f4 ⊢
  have hwR : w.heap.size < R := by omega
  clear hR
  refine (l01Edge s a n c xss k W (h.below hB) HN.out).mono ?_
  rw [HC.out]
  rintro e w1 ⟨rfl, b1⟩
  replace k1 := b1.keep k1
  replace k2 := b1.keep k2
  replace k3 := b1.keep k3
  replace k4 := b1.keep k4
  replace f3 := b1.keepf hz f3
  replace f4 := b1.keepf hz f4
  replace hB := hB.next b1
  have hz1 : R < w1.heap.size := Nat.lt_of_lt_of_le hz b1.size
  clear b1 hz
  go_wp2_with fail
  refine (l01Copy s a n c xss _ (h.below hB) HN.out (by omega)).mono ?_
  rintro e w2 ⟨a2, c2, rfl, o2, b2⟩
  replace k1 := b2.keep k1
  replace k2 := b2.keep k2
  replace k3 := b2.keep k3
  replace k4 := b2.keep k4
  replace f3 := b2.keepf hz1 f3
  replace f4 := b2.keepf hz1 f4
  replace hB := hB.next b2
  have hz2 : R < w2.heap.size := Nat.lt_of_lt_of_le hz1 b2.size
  have hwz : w.heap.size < w2.heap.size := by omega
  obtain ⟨g, cc, rvs, hv, hP⟩ := OwP.ofR o2 (by have := HN.out; omega) (Nat.le_refl _)
  rw [HN.out] at hv hP ⊢
  simp only [Value.slice.injEq] at hv
  obtain ⟨rfl, _, rfl⟩ := hv
  obtain ⟨b, cb, hrv, e1, e2, l1, l2, l3, l4, l5, l6⟩ := hP.store hk (j := 1) (by have := HQ.out; omega)
  rw [HQ.out.1] at hrv
  have hcell := (hP.row hk).1
  rw [hrv] at hcell
  obtain ⟨hg1, hg2⟩ := hP.lt
  have hA := (Below.refl w2.heap.size w2).alloc (Nat.le_refl _) (.cells #[.int .i64 s, .slice (some ⟨g, 0, none⟩) n c2] 28)
  have hP2 := hP.below hA
  have m1 := hA.keep k1
  have m3 := hA.keep k3
  have m4 := hA.keep k4
  have n3 := hA.keepf hz2 f3
  have n4 := hA.keepf hz2 f4
  have me1 := hA.keep e1
  have me2 := hA.keepf (show b < w2.heap.size from l2) e2
  have hBV := hB.next hA
  have hxV : w2.heap.size < (w2.alloc (.cells #[.int .i64 s, .slice (some ⟨g, 0, none⟩) n c2] 28)).heap.size := by simp
  have y0 : (w2.alloc (.cells #[.int .i64 s, .slice (some ⟨g, 0, none⟩) n c2] 28)).cell? ⟨w2.heap.size, 0, none⟩ = some (.int .i64 s) := by go_simp
  have y1 : (w2.alloc (.cells #[.int .i64 s, .slice (some ⟨g, 0, none⟩) n c2] 28)).cell? ⟨w2.heap.size, 1, none⟩ = some (.slice (some ⟨g, 0, none⟩) n c2) := by go_simp
  have g0 : (w2.alloc (.cells #[.int .i64 s, .slice (some ⟨g, 0, none⟩) n c2] 28)).frozen? ⟨w2.heap.size, 0, none⟩ = false := by go_simp
  have g1 : (w2.alloc (.cells #[.int .i64 s, .slice (some ⟨g, 0, none⟩) n c2] 28)).frozen? ⟨w2.heap.size, 1, none⟩ = false := by go_simp
  obtain ⟨V, hV⟩ : ∃ V, V = w2.alloc (.cells #[.int .i64 s, .slice (some ⟨g, 0, none⟩) n c2] 28) := ⟨_, rfl⟩
  obtain ⟨x, hx⟩ : ∃ x, x = w2.heap.size := ⟨_, rfl⟩
  rw [← hV] at m1 m3 m4 n3 n4 me1 me2 hBV hxV y0 y1 g0 g1 hP2
  rw [← hx] at hxV y0 y1 g0 g1 hP2 hz2 l2 l3 hwz
  have HVX := Lib.hid (⟨hV, hx⟩ : _ ∧ _)
  have HP := Lib.hid hP2
  clear b2 o2 hP hP2 l6 hV hx hA
  go_wp2
  rw [← HVX.out.1, ← HVX.out.2]
  clear k1 k2 k3 k4 f3 f4 e1 e2 hcell hB
  generalize hx1 : (xss.getD k []).getD 1 0 = x1 at *
  have HX1 := Lib.hid hx1
  clear hx1
  have hI : I64 s := by unfold I64; omega
  have hxd : V.drew.heap.size = V.heap.size := rfl
  have hrow := OwI.two (lo := V.drew.heap.size) (w := V.drew) hI l5 (Nat.le_refl _)
  have hbb : Below V.drew.heap.size V.drew (V.drew.alloc (.cells #[.int .i64 s, .int .i64 x1] 2)) := (Below.refl _ _).alloc (Nat.le_refl _) _
  have hsz1 : (V.drew.alloc (.cells #[.int .i64 s, .int .i64 x1] 2)).heap.size = V.heap.size + 1 := by simp
  have hPd := HP.out.qt (Qt.refl V).drew
  have hown1 := (hPd.below hbb).out.alloc (.cells #[.slice (some ⟨V.heap.size, 0, none⟩) 2 2] 45)
  have hnews := news_one (V.drew.alloc (.cells #[.int .i64 s, .int .i64 x1] 2)) 45 (.slice (some ⟨V.heap.size, 0, none⟩) 2 2)
  rw [hsz1] at hnews
  have hone : ∀ u ∈ [Value.slice (some ⟨V.heap.size, 0, none⟩) 2 2], u.oneCell' = true := fun u hu => by simp at hu; subst hu; rfl
  have hbase : w1.heap.size ≤ ((V.drew.alloc (.cells #[.int .i64 s, .int .i64 x1] 2)).alloc (.cells #[.slice (some ⟨V.heap.size, 0, none⟩) 2 2] 45)).heap.size := by simp; omega
  have hm63 : n + 1 ≤ maxLen := by unfold maxLen; omega
  have hby : (n + 1) * 24 ≤ 140737488355328 := by omega
  have hgx := HP.out.exg
  have hgxx : x < g ∨ g + 1 ≤ x := by omega
  have hbV : b < V.heap.size := by omega
  have hwV : w.heap.size < V.heap.size := by omega
  go_region_law (refine step_append_lies ((V.drew.alloc (.cells #[.int .i64 s, .int .i64 x1] 2)).alloc (.cells #[.slice (some ⟨V.heap.size, 0, none⟩) 2 2] 45)) rfl (.tmp 34) (.tmp 41) 22 rfl w1.heap.size 45 i0 (.slice none 0 0) 1 24 Try.underlying22 hi' z0 z1 z2 rfl (by decide) (.slice (some ⟨g, 0, none⟩) n c2) n rvs (by simp [Act.eval, Act.put]) hown1 ⟨V.heap.size + 1, 0, none⟩ 1 1 [.slice (some ⟨V.heap.size, 0, none⟩) 2 2] (by simp [Act.eval, Act.put]) rfl hnews hone (by decide) hm63 hby hbase ((V.drew.alloc (.cells #[.int .i64 s, .int .i64 x1] 2)).alloc (.cells #[.slice (some ⟨V.heap.size, 0, none⟩) 2 2] 45)).heap.size rfl ?_; intro g2 c3 w3 hown3 hgr hlie hlt3; have hch := snocC hbb hgr; have yx := hch.cell (show V.drew.cell? _ = _ from y1) hgxx; have yfx := hch.frozen (show x < V.drew.heap.size from hxV) hgxx (show V.drew.frozen? ⟨x, 1, none⟩ = false from g1))
  all_goals
    have hne : w.heap.size < g ∧ R < g ∧ w.heap.size < b ∧ R < b := by refine ⟨?_, ?_, ?_, ?_⟩ <;> omega
    have hP3 := (hPd.snocF (show x < V.drew.heap.size from hxV) hbb hrow hown3 hgr hlie).box ((Chg.refl x (x+1) w3).setCell (p := ⟨x, 1, none⟩) ⟨Nat.le_refl _, Nat.lt_succ_self _⟩ (.slice (some ⟨g2, 0, none⟩) (n+1) c3))
    have hk1 : k < xss.length := HK'.out
    have hlr : rvs.length = n := by have := HP.out.rows.len; have := HP.out.len; omega
    have eqr : (rvs ++ [Value.slice (some ⟨V.heap.size, 0, none⟩) 2 2]).getD k (.slice none 0 0) = rvs.getD k (.slice none 0 0) := by
      simp only [List.getD]; rw [List.getElem?_append_left (by omega)]
    have eqx : (xss ++ [[s, x1]]).getD k [] = xss.getD k [] := by simp only [List.getD]; rw [List.getElem?_append_left hk1]
    obtain ⟨b', cb', hrv', p1, p2, p3, p4, p5, p6, p7, p8⟩ := hP3.store (k := k) (j := 1) (by omega) (by rw [eqx]; have := HQ.out.1; omega)
    have hbb' : b' = b := by
      have e := hrv'.symm.trans (eqr.trans hrv)
      simp only [Value.slice.injEq, Option.some.injEq, Addr.mk.injEq] at e
      exact e.1.1
    subst hbb'
    have hP4 := (p8 s hI).box ((Chg.refl x (x+1) _).setCell (p := ⟨x, 0, none⟩) ⟨Nat.le_refl _, Nat.lt_succ_self _⟩ (.int .i64 (s + 1)))
    rw [HRE.out] at hP4
    have q1 := hch.cell (show V.drew.cell? _ = _ from m1) (Or.inl (show w.heap.size < g from hne.1))
    have q3 := hch.cell (show V.drew.cell? _ = _ from m3) (Or.inl (show R < g from hne.2.1))
    have q4 := hch.cell (show V.drew.cell? _ = _ from m4) (Or.inl (show R < g from hne.2.1))
    have hRV : R < V.heap.size := by omega
    have t3 := hch.frozen (show R < V.drew.heap.size from hRV) (Or.inl (show R < g from hne.2.1)) (show V.drew.frozen? _ = _ from n3)
    have t4 := hch.frozen (show R < V.drew.heap.size from hRV) (Or.inl (show R < g from hne.2.1)) (show V.drew.frozen? _ = _ from n4)
    have q0 := hch.cell (show V.drew.cell? _ = _ from y0) hgxx
    have t0 := hch.frozen (show x < V.drew.heap.size from hxV) hgxx (show V.drew.frozen? _ = _ from g0)
    rw [World.cell?_setCell_other _ _ _ _ (by simp [Ne.symm p5])] at p1
    rw [World.frozen?_setCell] at p2
    have hOR := hP4.owr (by omega)
    have hln : (subRows s xss k).length = n + 1 := hP4.len
    have hsz3 := hch.size
    have hdis : (¬ b' = x ∧ ¬ x = b') ∧ (¬ w.heap.size = x ∧ ¬ x = w.heap.size) ∧ (¬ w.heap.size = b' ∧ ¬ b' = w.heap.size) ∧ (¬ R = x ∧ ¬ x = R) ∧ (¬ R = b' ∧ ¬ b' = R) ∧ ¬ R = w.heap.size ∧ ¬ w.heap.size = R := by
      refine ⟨⟨p5, Ne.symm p5⟩, ⟨?_, ?_⟩, ⟨?_, ?_⟩, ⟨?_, ?_⟩, ⟨?_, ?_⟩, ?_, ?_⟩ <;> omega
    obtain ⟨⟨d1, d2⟩, ⟨d3, d4⟩, ⟨d5, d6⟩, ⟨d7, d8⟩, ⟨d9, d10⟩, d11, d12⟩ := hdis
    have hB3 := hBV.drew.chgn hch (show w.heap.size ≤ g by omega) (show w.heap.size ≤ V.drew.heap.size from Nat.le_of_lt hwV)
    have HF := Lib.hid (⟨hOR, hln, hB3, hsz3⟩ : _ ∧ _ ∧ _ ∧ _)
    generalize hz : ((xss ++ [[s, x1]]).getD k []).getD 1 0 = zz at *
    have hrvk := hrv
    rw [hxd] at *
    have hs63 : IntKind.i64.wrap (s + 1) = s + 1 := IntWalk.i64_in _ (by omega)
    clear hP3 hP4 p8 hrv' hown3 hgr hlie hch hown1 hnews hone hbase hrow hbb hPd eqr eqx hOR hB3 m1 m3 m4 n3 n4 y0 y1 g0 g1 me1 me2
    go_wp2
    refine bodyPost_ret (v := .tuple #[.agg #[.int .i64 (s + 1), .slice (some ⟨g2, 0, none⟩) (n + 1) c3], .int .i64 0]) (by simp [results, Try.results32, go_sem, q3, q4, d7, d8, d9, d10]) rfl ⟨some ⟨g2, 0, none⟩, c3, rfl, ?_, ?_⟩
    · refine (OwR.chg (lo' := R) (hi' := R + 1) HF.out.1 ?_ (.inr hz1)).mono (by omega) (by simp [World.setCell])
      exact ((Chg.refl R (R + 1) _).setCell (by constructor <;> simp) _).setCell (by constructor <;> simp) _
    · repeat (refine Below.setCell ?_ (by simp <;> omega) _)
      exact HF.out.2.2.1

theorem lens_unp (ps : List (Int × Int)) : lens (unp ps) = 2 * ps.length := by
  induction ps with
  | nil => rfl
  | cons p r ih =>
    simp only [lens, unp, List.map_cons, List.sum_cons, List.length_cons, List.length_nil] at ih ⊢
    omega
theorem subOf_lens (s : Int) (xss : List (List Int)) (k : Int) : lens (subOf s xss k).1.2 ≤ 1000 := by
  unfold subOf
  split
  · simp [lens]
  · rename_i hc
    split
    · simp [lens]
    · obtain ⟨hg, h0, h1⟩ := edgeCode_ok (s := s) (xss := xss) (k := k) (by omega)
      have := grB_iff hg
      show lens (subRows s xss k.toNat) ≤ 1000
      rw [← unp_sub hg, lens_unp, subPairs_len]
      omega

theorem specSubd {lo hi : Nat} (s : Int) (a : Option Addr) (n c : Nat) (xss : List (List Int)) (k : Int) (w : World) (h : RdR lo hi w (.slice a n c) xss) (hn : xss.length = n) :
    Calls Try.prog 32 #[.agg #[.int .i64 s, .slice a n c], .int .i64 k] w fun e w' => ∃ a' c', e = .returned (.tuple #[.agg #[.int .i64 (subOf s xss k).1.1, .slice a' (subOf s xss k).1.2.length c'], .int .i64 (subOf s xss k).2]) ∧ OwR w.heap.size w'.heap.size w' (.slice a' (subOf s xss k).1.2.length c') (subOf s xss k).1.2 ∧ Below w.heap.size w w' := by
  by_cases hc : edgeCode s xss k = 0
  · by_cases hf : s = 8 ∨ n = 10
    · have e1 : subOf s xss k = ((0, []), 3) := by unfold subOf; rw [if_neg (by simp [hc]), if_pos (by rw [hn]; exact hf)]
      rw [e1]
      exact (specSubd_full s a n c xss k w h hn hc hf).mono fun e w' ⟨he, hb⟩ => ⟨none, 0, he, OwR.nil (World.ownsRow_nil _ _ _ _) (Nat.le_refl _), hb⟩
    · have e1 : subOf s xss k = ((s + 1, subRows s xss k.toNat), 0) := by unfold subOf; rw [if_neg (by simp [hc]), if_neg (by rw [hn]; exact hf)]
      rw [e1]
      obtain ⟨_, h0, h1⟩ := edgeCode_ok hc
      obtain ⟨K, rfl⟩ : ∃ K : Nat, k = K := ⟨k.toNat, by omega⟩
      exact specSubd_yes s a n c xss K w h hn hc (fun e => hf (.inl e)) (fun e => hf (.inr e))
  · have e1 : subOf s xss k = ((0, []), edgeCode s xss k) := by unfold subOf; rw [if_pos hc]
    rw [e1]
    exact (specSubd_no s a n c xss k w h hn hc).mono fun e w' ⟨he, hb⟩ => ⟨none, 0, he, OwR.nil (World.ownsRow_nil _ _ _ _) (Nat.le_refl _), hb⟩

end Go.Proofs.Ytecobmmlpoaggaa
