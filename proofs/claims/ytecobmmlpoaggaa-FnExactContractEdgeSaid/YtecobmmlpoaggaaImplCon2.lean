/- ContractEdge of the program: the whole. -/
import Derived.Test.YtecobmmlpoaggaaImplCon
set_option linter.unusedSimpArgs false
set_option linter.unusedVariables false
namespace Go.Proofs.Ytecobmmlpoaggaa
open Go.RowKit

set_option maxHeartbeats 800000 in
theorem implCon_no {lo hi : Nat} (s : Int) (a : Option Addr) (n c : Nat) (xss : List (List Int)) (k : Int) (w : World) (h : RdR lo hi w (.slice a n c) xss) (hn : xss.length = n) (hc : edgeCode s xss k ≠ 0) :
    Calls Try.prog 31 #[.agg #[.int .i64 s, .slice a n c], .int .i64 k] w fun e w' => e = .returned (.tuple #[.agg #[.int .i64 0, .slice none 0 0], .int .i64 (edgeCode s xss k)]) ∧ Below w.heap.size w w' := by
  have hb0 : ∀ o o', Below w.heap.size w ((w.alloc o).alloc o') := fun o o' => ((Below.refl _ _).alloc (Nat.le_refl _) o).alloc (by simp) o'
  have hcn := code_ne' hc
  go_enter Try.func31, Try.ntmps31
  go_wp2_with fail
  refine calls_gen (fun W => Below w.heap.size w W ∧ w.heap.size + 1 < W.heap.size ∧ W.cell? ⟨w.heap.size + 1, 0, none⟩ = some (.int .i64 0) ∧ W.cell? ⟨w.heap.size + 1, 1, none⟩ = some (.slice none 0 0) ∧ W.frozen? ⟨w.heap.size + 1, 0, none⟩ = false ∧ W.frozen? ⟨w.heap.size + 1, 1, none⟩ = false) ⟨hb0 _ _, by simp, by go_simp, by go_simp, by go_simp, by go_simp⟩ ?_
  rintro W ⟨hB, hz, k1, k2, f1, f2⟩
  refine (checkEdge s a n c xss k W (h.below hB) hn).mono ?_
  rintro e w1 ⟨rfl, b1⟩
  replace k1 := b1.keep k1
  replace k2 := b1.keep k2
  replace f1 := b1.keepf hz f1
  replace f2 := b1.keepf hz f2
  replace hB := hB.next b1
  obtain ⟨cd, hcd⟩ : ∃ cd, cd = edgeCode s xss k := ⟨_, rfl⟩
  rw [← hcd] at hcn ⊢
  have HCD := Lib.hid hcd
  clear hcd hc b1
  go_wp2
  refine bodyPost_ret (v := .tuple #[.agg #[.int .i64 0, .slice none 0 0], .int .i64 cd]) (by simp [results, Try.results31, go_sem, k1, k2]) rfl ⟨by rw [HCD.out], ?_⟩
  repeat (refine Below.setCell ?_ (by simp <;> omega) _)
  exact hB


theorem HoE.pair {w : World} {g : Nat} {es : List (Int × Int)} (h : HoE w g es) {q : Nat} (hq : q < es.length) {p r : Int} (he : es.getD q (0, 0) = (p, r)) : w.cell? ⟨g, q * 2, none⟩ = some (.int .i64 p) ∧ w.cell? ⟨g, q * 2 + 1, none⟩ = some (.int .i64 r) := by
  have := h.cell q hq
  rw [he] at this
  exact this

set_option maxHeartbeats 3200000 in
theorem implCon_yes {lo hi : Nat} (s : Int) (a : Option Addr) (n c : Nat) (xss : List (List Int)) (k : Nat) (w : World) (h : RdR lo hi w (.slice a n c) xss) (hn : xss.length = n) (hc : edgeCode s xss k = 0) :
    Calls Try.prog 31 #[.agg #[.int .i64 s, .slice a n c], .int .i64 k] w fun e w' => ∃ a' c', e = .returned (.tuple #[.agg #[.int .i64 (conOf s xss k).1.1, .slice a' (conOf s xss k).1.2.length c'], .int .i64 (conOf s xss k).2]) ∧ OwR w.heap.size w'.heap.size w' (.slice a' (conOf s xss k).1.2.length c') (conOf s xss k).1.2 ∧ Below w.heap.size w w' := by
  have hb0 : ∀ o o', Below w.heap.size w ((w.alloc o).alloc o') := fun o o' => ((Below.refl _ _).alloc (Nat.le_refl _) o).alloc (by simp) o'
  obtain ⟨hg, h0, h1⟩ := edgeCode_ok hc
  obtain ⟨hs1, hs2, h3, h4⟩ := grB_iff hg
  have hn10 : n ≤ 10 := by omega
  have hk : k < n := by omega
  obtain ⟨hq1, hq2, hq3, hq4, hq5⟩ := h4 k (by omega)
  obtain ⟨b, off, rv, rfl, g0, r1⟩ := h.at hn k hk
  obtain ⟨b', off', cap', rfl, g1, g2⟩ := r1.two hq1
  have hcon : conOf s xss k = if (xss.getD k []).getD 0 0 = (xss.getD k []).getD 1 0 then ((0, []), 5) else ((s - 1, conRows ((xss.getD k []).getD 0 0) ((xss.getD k []).getD 1 0) (xss.eraseIdx k)), 0) := by
    unfold conOf; rw [if_neg (by simp [hc])]; rfl
  have HEW := Lib.hid (fun W' (h : RdR lo hi W' (.slice (some ⟨b, off, none⟩) n c) xss) => edgesWithout s (some ⟨b, off, none⟩) n c xss k W' h hg hn hk)
  have HN := Lib.hid hn
  have HC := Lib.hid hc
  have HG := Lib.hid hg
  rw [hcon]
  generalize hx0 : (xss.getD k []).getD 0 0 = x at *
  generalize hx1 : (xss.getD k []).getD 1 0 = y at *
  have hat := arrAt ⟨b', off', none⟩ cap'
  have hlow : 0 ≤ lowI x y ∧ lowI x y < s := by unfold lowI; split <;> omega
  have htop : 0 ≤ topI x y := by unfold topI; split <;> omega
  have HUC := Lib.hid (unp_con (x := x) (y := y) (k := k) hg)
  have HCI := Lib.hid (con_I64 (A := lowI x y) (B := topI x y) (k := k) hg hlow)
  have HEI := Lib.hid (erase_I64 (k := k) hg)
  have HEL := Lib.hid (erase_len hn hk)
  generalize conRows x y (xss.eraseIdx k) = F at *
  clear hc hg h0 h1 h3 h4 hn hcon hq1 r1 hx0 hx1 hq2 hq3 hq4 hq5
  by_cases hxy : x = y
  case pos =>
    rw [if_pos hxy]
    have hxyb : (x == y) = true := by simpa using hxy
    clear hxy
    go_enter Try.func31, Try.ntmps31
    go_wp2_with fail
    refine calls_gen (fun W => Below w.heap.size w W ∧ w.heap.size + 1 < W.heap.size ∧ W.cell? ⟨w.heap.size, 0, none⟩ = some (.int .i64 s) ∧ W.cell? ⟨w.heap.size, 1, none⟩ = some (.slice (some ⟨b, off, none⟩) n c) ∧ W.cell? ⟨w.heap.size + 1, 0, none⟩ = some (.int .i64 0) ∧ W.cell? ⟨w.heap.size + 1, 1, none⟩ = some (.slice none 0 0) ∧ W.frozen? ⟨w.heap.size + 1, 0, none⟩ = false ∧ W.frozen? ⟨w.heap.size + 1, 1, none⟩ = false) ⟨hb0 _ _, by simp, by go_simp, by go_simp, by go_simp, by go_simp, by go_simp, by go_simp⟩ ?_
    rintro W ⟨hB, hz, k1, k2, k3, k4, f3, f4⟩
    obtain ⟨R, hR⟩ : ∃ R, R = w.heap.size + 1 := ⟨_, rfl⟩
    rw [← hR] at hz k3 k4 f3 f4 ⊢
    have hwR : w.heap.size < R := by omega
    clear hR
    refine (checkEdge s _ n c xss k W (h.below hB) HN.out).mono ?_
    rw [HC.out]
    rintro e w1 ⟨rfl, b1⟩
    replace k1 := b1.keep k1
    replace k2 := b1.keep k2
    replace k3 := b1.keep k3
    replace k4 := b1.keep k4
    replace f3 := b1.keepf hz f3
    replace f4 := b1.keepf hz f4
    replace hB := hB.next b1
    have hz1 : R < w1.heap.size := Nat.lt_of_lt_of_le hz b1.size
    have e0 := hB.keep g0
    have e1 := hB.keep g1
    have e2 := hB.keep g2
    clear b1 hz
    go_wp2_with fail
    refine calls_gen (fun W => Below w1.heap.size w1 W ∧ w1.heap.size < W.heap.size ∧ W.cell? ⟨w1.heap.size, 0, none⟩ = some (.int .i64 x) ∧ W.cell? ⟨w1.heap.size, 1, none⟩ = some (.int .i64 y)) ⟨(Below.refl _ _).alloc (Nat.le_refl _) _, by simp, by go_simp, by go_simp⟩ ?_
    rintro W2 ⟨b2, hz2, c1, c2⟩
    replace k1 := b2.keep k1
    replace k2 := b2.keep k2
    replace k3 := b2.keep k3
    replace k4 := b2.keep k4
    replace f3 := b2.keepf hz1 f3
    replace f4 := b2.keepf hz1 f4
    replace hB := hB.next b2
    have hzX : R < w1.heap.size := by omega
    have hXl : w1.heap.size < W2.heap.size := by omega
    clear b2 e0 e1 e2
    refine (isLoop x y _).mono ?_
    rw [hxyb]
    rintro e w3 ⟨rfl, b3⟩
    replace k1 := b3.keep k1
    replace k2 := b3.keep k2
    replace k3 := b3.keep k3
    replace k4 := b3.keep k4
    replace c1 := b3.keep c1
    replace c2 := b3.keep c2
    have hz3 : R < w3.heap.size := by have := b3.size; omega
    replace f3 := b3.keepf (show R < W2.heap.size by omega) f3
    replace f4 := b3.keepf (show R < W2.heap.size by omega) f4
    replace hB := hB.next b3
    go_wp2
    refine bodyPost_ret (v := .tuple #[.agg #[.int .i64 0, .slice none 0 0], .int .i64 5]) (by simp [results, Try.results31, go_sem, k3, k4]) rfl ⟨none, 0, rfl, OwR.nil (World.ownsRow_nil _ _ _ _) (Nat.le_refl _), ?_⟩
    repeat (first | refine Below.drew ?_ | refine Below.setCell ?_ (by simp <;> omega) _)
    exact hB
  case neg =>
    rw [if_neg hxy]
    have hxyb : (x == y) = false := by simpa using hxy
    clear hxy
    go_enter Try.func31, Try.ntmps31
    go_wp2_with fail
    refine calls_gen (fun W => Below w.heap.size w W ∧ w.heap.size + 1 < W.heap.size ∧ W.cell? ⟨w.heap.size, 0, none⟩ = some (.int .i64 s) ∧ W.cell? ⟨w.heap.size, 1, none⟩ = some (.slice (some ⟨b, off, none⟩) n c) ∧ W.cell? ⟨w.heap.size + 1, 0, none⟩ = some (.int .i64 0) ∧ W.cell? ⟨w.heap.size + 1, 1, none⟩ = some (.slice none 0 0) ∧ W.frozen? ⟨w.heap.size + 1, 0, none⟩ = false ∧ W.frozen? ⟨w.heap.size + 1, 1, none⟩ = false) ⟨hb0 _ _, by simp, by go_simp, by go_simp, by go_simp, by go_simp, by go_simp, by go_simp⟩ ?_
    rintro W ⟨hB, hz, k1, k2, k3, k4, f3, f4⟩
    obtain ⟨R, hR⟩ : ∃ R, R = w.heap.size + 1 := ⟨_, rfl⟩
    rw [← hR] at hz k3 k4 f3 f4 ⊢
    have hwR : w.heap.size < R := by omega
    clear hR
    refine (checkEdge s _ n c xss k W (h.below hB) HN.out).mono ?_
    rw [HC.out]
    rintro e w1 ⟨rfl, b1⟩
    replace k1 := b1.keep k1
    replace k2 := b1.keep k2
    replace k3 := b1.keep k3
    replace k4 := b1.keep k4
    replace f3 := b1.keepf hz f3
    replace f4 := b1.keepf hz f4
    replace hB := hB.next b1
    have hz1 : R < w1.heap.size := Nat.lt_of_lt_of_le hz b1.size
    have e0 := hB.keep g0
    have e1 := hB.keep g1
    have e2 := hB.keep g2
    clear b1 hz
    go_wp2_with fail
    refine calls_gen (fun W => Below w1.heap.size w1 W ∧ w1.heap.size < W.heap.size ∧ W.cell? ⟨w1.heap.size, 0, none⟩ = some (.int .i64 x) ∧ W.cell? ⟨w1.heap.size, 1, none⟩ = some (.int .i64 y)) ⟨(Below.refl _ _).alloc (Nat.le_refl _) _, by simp, by go_simp, by go_simp⟩ ?_
    rintro W2 ⟨b2, hz2, c1, c2⟩
    replace k1 := b2.keep k1
    replace k2 := b2.keep k2
    replace k3 := b2.keep k3
    replace k4 := b2.keep k4
    replace f3 := b2.keepf hz1 f3
    replace f4 := b2.keepf hz1 f4
    replace hB := hB.next b2
    have hzX : R < w1.heap.size := by omega
    have hXl : w1.heap.size < W2.heap.size := by omega
    clear b2 e0 e1 e2
    refine (isLoop x y _).mono ?_
    rw [hxyb]
    rintro e w3 ⟨rfl, b3⟩
    replace k1 := b3.keep k1
    replace k2 := b3.keep k2
    replace k3 := b3.keep k3
    replace k4 := b3.keep k4
    replace c1 := b3.keep c1
    replace c2 := b3.keep c2
    have hz3 : R < w3.heap.size := by have := b3.size; omega
    replace f3 := b3.keepf (show R < W2.heap.size by omega) f3
    replace f4 := b3.keepf (show R < W2.heap.size by omega) f4
    replace hB := hB.next b3
    have hX3 : w1.heap.size < w3.heap.size := Nat.lt_of_lt_of_le hXl b3.size
    go_wp2_with fail
    refine (HEW.out _ (h.below hB)).mono ?_
    rintro e w4 ⟨g, c4, rfl, hg3, hH, b4⟩
    replace k1 := b4.keep k1
    replace k2 := b4.keep k2
    replace k3 := b4.keep k3
    replace k4 := b4.keep k4
    replace f3 := b4.keepf hz3 f3
    replace f4 := b4.keepf hz3 f4
    replace c1 := b4.keep c1
    replace c2 := b4.keep c2
    replace hB := hB.next b4
    have hz4 : R < w4.heap.size := Nat.lt_of_lt_of_le hz3 b4.size
    have hX4 : w1.heap.size < w4.heap.size := Nat.lt_of_lt_of_le hX3 b4.size
    have hgl := hH.lt
    clear b4
    obtain ⟨es, hes⟩ : ∃ es, es = (pairs xss).eraseIdx k := ⟨_, rfl⟩
    rw [← hes] at hH HUC HCI HEI HEL
    obtain ⟨m, hm⟩ : ∃ m, m = n - 1 := ⟨_, rfl⟩
    rw [← hm] at HEL ⊢
    have hm9 : m ≤ 9 := by omega
    have hXg : w1.heap.size < g := by omega
    have hRg : R < g := by omega
    have hRX : R < w1.heap.size := by omega
    have hwX : w.heap.size < w1.heap.size := by omega
    have e0 : conEP (lowI x y) (topI x y) es 0 = es := by simp [conEP]
    have HH := Lib.hid (show HoE w4 g (conEP (lowI x y) (topI x y) es 0) by rw [e0]; exact hH)
    clear hes hm hH e0
    go_wp2
    go_loopw [33] (fun i wr => ∃ q : Nat, q ≤ m ∧ i = .int .i64 q ∧ Hid (HoE wr g (conEP (lowI x y) (topI x y) es q)) ∧ Below w.heap.size w wr ∧ w4.heap.size ≤ wr.heap.size ∧
      wr.cell? ⟨w.heap.size, 0, none⟩ = some (.int .i64 s) ∧
      wr.cell? ⟨R, 0, none⟩ = some (.int .i64 0) ∧ wr.cell? ⟨R, 1, none⟩ = some (.slice none 0 0) ∧ wr.frozen? ⟨R, 0, none⟩ = false ∧ wr.frozen? ⟨R, 1, none⟩ = false ∧
      wr.cell? ⟨w1.heap.size, 0, none⟩ = some (.int .i64 x) ∧ wr.cell? ⟨w1.heap.size, 1, none⟩ = some (.int .i64 y)) (fun i _ => m - (intOf i).toNat)
    case atStart => exact ⟨0, Nat.zero_le _, rfl, HH, hB, Nat.le_refl _, k1, k3, k4, f3, f4, c1, c2⟩
    case round =>
      clear k1 k2 k3 k4 f3 f4 c1 c2 hB HH
      obtain ⟨q, hq, rfl, HH, hB, hzr, k1, k3, k4, f3, f4, c1, c2⟩ := hrel
      by_cases hlt : q < m
      · have hqe : q < es.length := by rw [HEL.out]; exact hlt
        have hgt := conEP_get (A := lowI x y) (B := topI x y) hqe
        have hst := conEP_step (A := lowI x y) (B := topI x y) hqe
        have hei := HEI.out q hqe
        have hpr : es.getD q (0, 0) = ((es.getD q (0, 0)).1, (es.getD q (0, 0)).2) := rfl
        generalize hp0 : (es.getD q (0, 0)).1 = p0 at *
        generalize hp1 : (es.getD q (0, 0)).2 = p1 at *
        obtain ⟨i1, i2⟩ := hei
        rw [hpr] at hgt hst
        have hql : q < (conEP (lowI x y) (topI x y) es q).length := by rw [conEP_len]; exact hqe
        obtain ⟨e1, e2⟩ := HH.out.pair hql hgt
        have fz := HH.out.free
        have HST := Lib.hid hst
        have HQL := Lib.hid hql
        have fz0 := fz (q * 2)
        have fz1 := fz (q * 2 + 1)
        clear hgt hst hpr hp0 hp1 hql fz
        have hXr : w1.heap.size < wr.heap.size := by omega
        have hgr : g < wr.heap.size := by omega
        have hne1 : ¬ wr.heap.size = g := by omega
        have hne2 : ¬ g = wr.heap.size := by omega
        go_wp2
        have hA := (Below.refl wr.heap.size wr).alloc (Nat.le_refl _) (.cells #[.int .i64 p0, .int .i64 p1] 64)
        have z1 := hA.keep c1
        have z2 := hA.keep c2
        have z3 : (wr.alloc (.cells #[.int .i64 p0, .int .i64 p1] 64)).cell? ⟨wr.heap.size, 0, none⟩ = some (.int .i64 p0) := by go_simp
        have z4 : (wr.alloc (.cells #[.int .i64 p0, .int .i64 p1] 64)).cell? ⟨wr.heap.size, 1, none⟩ = some (.int .i64 p1) := by go_simp
        have zs : wr.heap.size < (wr.alloc (.cells #[.int .i64 p0, .int .i64 p1] 64)).heap.size := by simp
        obtain ⟨V, hV⟩ : ∃ V, V = wr.alloc (.cells #[.int .i64 p0, .int .i64 p1] 64) := ⟨_, rfl⟩
        rw [← hV] at z1 z2 z3 z4 zs hA ⊢
        have HV := Lib.hid (⟨hV, hA⟩ : _ ∧ _)
        have w1' := hA.keep e1
        have w2' := hA.keep e2
        have hgV : g < V.heap.size := by omega
        have hXg1 : ¬ w1.heap.size = g := by omega
        have hXg2 : ¬ g = w1.heap.size := by omega
        have fq0 := hA.keepf hgr fz0
        have fq1 := hA.keepf hgr fz1
        clear hV hA e1 e2 fz0 fz1
        have FIN : ∀ (U : World) (A B : Value), Below wr.heap.size wr U → Below w.heap.size w ((U.setCell ⟨g, q * 2, none⟩ A).setCell ⟨g, q * 2 + 1, none⟩ B) ∧ w4.heap.size ≤ ((U.setCell ⟨g, q * 2, none⟩ A).setCell ⟨g, q * 2 + 1, none⟩ B).heap.size ∧
            ((U.setCell ⟨g, q * 2, none⟩ A).setCell ⟨g, q * 2 + 1, none⟩ B).cell? ⟨w.heap.size, 0, none⟩ = some (.int .i64 s) ∧
            ((U.setCell ⟨g, q * 2, none⟩ A).setCell ⟨g, q * 2 + 1, none⟩ B).cell? ⟨R, 0, none⟩ = some (.int .i64 0) ∧ ((U.setCell ⟨g, q * 2, none⟩ A).setCell ⟨g, q * 2 + 1, none⟩ B).cell? ⟨R, 1, none⟩ = some (.slice none 0 0) ∧ ((U.setCell ⟨g, q * 2, none⟩ A).setCell ⟨g, q * 2 + 1, none⟩ B).frozen? ⟨R, 0, none⟩ = false ∧ ((U.setCell ⟨g, q * 2, none⟩ A).setCell ⟨g, q * 2 + 1, none⟩ B).frozen? ⟨R, 1, none⟩ = false ∧
            ((U.setCell ⟨g, q * 2, none⟩ A).setCell ⟨g, q * 2 + 1, none⟩ B).cell? ⟨w1.heap.size, 0, none⟩ = some (.int .i64 x) ∧ ((U.setCell ⟨g, q * 2, none⟩ A).setCell ⟨g, q * 2 + 1, none⟩ B).cell? ⟨w1.heap.size, 1, none⟩ = some (.int .i64 y) := by
          intro U A B hU
          have hch : Chg g (g+1) U ((U.setCell ⟨g, q * 2, none⟩ A).setCell ⟨g, q * 2 + 1, none⟩ B) := ((Chg.refl g (g+1) U).setCell (p := ⟨g, q * 2, none⟩) ⟨Nat.le_refl _, Nat.lt_succ_self _⟩ A).setCell (p := ⟨g, q * 2 + 1, none⟩) ⟨Nat.le_refl _, Nat.lt_succ_self _⟩ B
          have hsz := hU.size
          have hsz2 := hch.size
          have hwg : w.heap.size < g := by omega
          have hRr : R < wr.heap.size := by omega
          exact ⟨(hB.next hU).chgn hch (by omega) (hB.next hU).size, by omega, hch.cell (hU.keep k1) (.inl hwg), hch.cell (hU.keep k3) (.inl hRg), hch.cell (hU.keep k4) (.inl hRg), hch.frozen (show R < U.heap.size by omega) (.inl hRg) (hU.keepf hRr f3), hch.frozen (show R < U.heap.size by omega) (.inl hRg) (hU.keepf hRr f4), hch.cell (hU.keep c1) (.inl hXg), hch.cell (hU.keep c2) (.inl hXg)⟩
        have HFIN := Lib.hid FIN
        clear FIN k1 k3 k4 f3 f4
        go_region_held3 (fun W' => W'.cell? ⟨w1.heap.size, 0, none⟩ = some (.int .i64 x) ∧ W'.cell? ⟨w1.heap.size, 1, none⟩ = some (.int .i64 y) ∧ W'.cell? ⟨wr.heap.size, 0, none⟩ = some (.int .i64 p0) ∧ W'.cell? ⟨wr.heap.size, 1, none⟩ = some (.int .i64 p1))
          (first | (exact ⟨z1, z2, z3, z4⟩) | (go_split_ands; exact ⟨b6.keep (by assumption), b6.keep (by assumption), b6.keep (by assumption), b6.keep (by assumption)⟩) | (go_split_ands; exact ⟨b5.keep (by assumption), b5.keep (by assumption), b5.keep (by assumption), b5.keep (by assumption)⟩) | go_keep)
          (first
            | (go_at_call_of 74 p0; refine (vertexBehind x y p0 _ htop i1).mono ?_; rintro e w5 ⟨rfl, b5⟩; have v1 : w5.cell? ⟨g, q * 2, none⟩ = some (.int .i64 p0) := b5.keep (by first | exact w1' | exact u1); have v2 : w5.cell? ⟨g, q * 2 + 1, none⟩ = some (.int .i64 p1) := b5.keep (by first | exact w2' | exact u2); have v3 : w5.frozen? ⟨g, q * 2, none⟩ = false := b5.keepf (by first | exact hgV | exact hgW) (by first | exact fq0 | exact u3); have v4 : w5.frozen? ⟨g, q * 2 + 1, none⟩ = false := b5.keepf (by first | exact hgV | exact hgW) (by first | exact fq1 | exact u4); have hgU : g < w5.heap.size := Nat.lt_of_lt_of_le (by first | exact hgV | exact hgW) b5.size)
            | (go_at_call_of 74 p1; refine (vertexBehind x y p1 _ htop i2).mono ?_; rintro e w6 ⟨rfl, b6⟩; have u1 : w6.cell? ⟨g, q * 2, none⟩ = some (.int .i64 p0) := b6.keep (by first | exact w1' | exact v1); have u2 : w6.cell? ⟨g, q * 2 + 1, none⟩ = some (.int .i64 p1) := b6.keep (by first | exact w2' | exact v2); have u3 : w6.frozen? ⟨g, q * 2, none⟩ = false := b6.keepf (by first | exact hgV | exact hgU) (by first | exact fq0 | exact v3); have u4 : w6.frozen? ⟨g, q * 2 + 1, none⟩ = false := b6.keepf (by first | exact hgV | exact hgU) (by first | exact fq1 | exact v4); have hgW : g < w6.heap.size := Nat.lt_of_lt_of_le (by first | exact hgV | exact hgU) b6.size))
        all_goals
          first
          | (have bb := ((Qt.refl V).drew.below.next b5).next b6)
          | (have bb := ((Qt.refl V).drew.below.next b6).next b5)
          have hbr := HV.out.2.next bb
          have hset := (HH.out.below hbr).set HQL.out (vb (lowI x y) (topI x y) p0) (vb (lowI x y) (topI x y) p1)
          have est : (conEP (lowI x y) (topI x y) es q).set q (vb (lowI x y) (topI x y) p0, vb (lowI x y) (topI x y) p1) = conEP (lowI x y) (topI x y) es (q + 1) := HST.out
          rw [est] at hset
          have HR := Lib.hid (⟨hset, HFIN.out _ (.int .i64 (vb (lowI x y) (topI x y) p0)) (.int .i64 (vb (lowI x y) (topI x y) p1)) hbr⟩ : _ ∧ _)
          clear bb hbr hset est
          go_wp2
          go_roundw
          case rel => exact ⟨q+1, by omega, by go_num, Lib.hid HR.out.1, HR.out.2⟩
          case measure => simp [intOf]; omega
      · obtain rfl : q = m := by omega
        have efin : conEP (lowI x y) (topI x y) es q = es.map (conE (lowI x y) (topI x y)) := by
          unfold conEP
          rw [List.take_of_length_le (by rw [HEL.out]; exact Nat.le_refl _), List.drop_of_length_le (by rw [HEL.out]; exact Nat.le_refl _), List.append_nil]
        have hH := HH.out
        rw [efin] at hH
        have hEl : (es.map (conE (lowI x y) (topI x y))).length = q := by rw [List.length_map]; exact HEL.out
        have HHH := Lib.hid hH
        have HELL := Lib.hid hEl
        have hsw : IntKind.i64.wrap (s - 1) = s - 1 := IntWalk.i64_in _ (by omega)
        clear hH hEl efin
        go_wp2_with fail
        refine (graphWith (s - 1) _ q c4 (es.map (conE (lowI x y) (topI x y))) _ HHH.out.rde HELL.out (by omega) (by rw [← HELL.out]; exact HCI.out)).mono ?_
        rw [HUC.out]
        rintro e w8 ⟨a8, c8, rfl, o8, b8⟩
        have hRr : R < wr.heap.size := by omega
        replace k3 := b8.keep k3
        replace k4 := b8.keep k4
        replace f3 := b8.keepf hRr f3
        replace f4 := b8.keepf hRr f4
        replace hB := hB.next b8
        have hz8 := b8.size
        clear b8 c1 c2 k1
        go_wp2
        refine bodyPost_ret (v := .tuple #[.agg #[.int .i64 (s - 1), .slice a8 F.length c8], .int .i64 0]) (by simp [results, Try.results31, go_sem, k3, k4]) rfl ⟨a8, c8, rfl, ?_, ?_⟩
        · refine (OwR.chg (lo' := w.heap.size) (hi' := wr.heap.size) o8 ?_ (.inr (Nat.le_refl _))).mono (by omega) (by simp [World.setCell])
          repeat (refine Chg.setCell ?_ (by constructor <;> simp <;> omega) _)
          exact Chg.refl _ _ _
        · repeat (refine Below.setCell ?_ (by simp <;> omega) _)
          exact hB

theorem implCon {lo hi : Nat} (s : Int) (a : Option Addr) (n c : Nat) (xss : List (List Int)) (k : Int) (w : World) (h : RdR lo hi w (.slice a n c) xss) (hn : xss.length = n) :
    Calls Try.prog 31 #[.agg #[.int .i64 s, .slice a n c], .int .i64 k] w fun e w' => ∃ a' c', e = .returned (.tuple #[.agg #[.int .i64 (conOf s xss k).1.1, .slice a' (conOf s xss k).1.2.length c'], .int .i64 (conOf s xss k).2]) ∧ OwR w.heap.size w'.heap.size w' (.slice a' (conOf s xss k).1.2.length c') (conOf s xss k).1.2 ∧ Below w.heap.size w w' := by
  by_cases hc : edgeCode s xss k = 0
  · obtain ⟨_, h0, h1⟩ := edgeCode_ok hc
    obtain ⟨K, rfl⟩ : ∃ K : Nat, k = K := ⟨k.toNat, by omega⟩
    exact implCon_yes s a n c xss K w h hn hc
  · have e1 : conOf s xss k = ((0, []), edgeCode s xss k) := by unfold conOf; rw [if_pos hc]
    rw [e1]
    exact (implCon_no s a n c xss k w h hn hc).mono fun e w' ⟨he, hb⟩ => ⟨none, 0, he, OwR.nil (World.ownsRow_nil _ _ _ _) (Nat.le_refl _), hb⟩

end Go.Proofs.Ytecobmmlpoaggaa
