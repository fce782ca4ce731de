/- LineGraph of the program. -/
import Derived.Test.YtebgbplhcaocoaaLgP
set_option linter.unusedSimpArgs false
set_option linter.unusedVariables false
set_option maxRecDepth 100000
namespace Go.Proofs.Ytebgbplhcaocoaa
open Go.RowKit

/-- the result's box, and what lies below -/
structure RbL (B y : Nat) (s : Int) (a : Option Addr) (n c : Nat) (w W : World) : Prop where
  below : Below B w W
  y0 : W.cell? ⟨y, 0, none⟩ = some (.int .i64 0)
  y1 : W.cell? ⟨y, 1, none⟩ = some (.slice none 0 0)
  f0 : W.frozen? ⟨y, 0, none⟩ = false
  f1 : W.frozen? ⟨y, 1, none⟩ = false
  ylt : y < W.heap.size
  by0 : B ≤ y
  k0 : W.cell? ⟨B, 0, none⟩ = some (.int .i64 s)
  k1 : W.cell? ⟨B, 1, none⟩ = some (.slice a n c)
theorem RbL.next {B y : Nat} {s : Int} {a : Option Addr} {n c : Nat} {w W W' : World} (h : RbL B y s a n c w W) (b : Below W.heap.size W W') : RbL B y s a n c w W' := by
  have h1 := h.ylt
  have h2 := h.by0
  exact ⟨h.below.trans (b.mono (by omega)), b.keep h.y0, b.keep h.y1, b.keepf h1 h.f0, b.keepf h1 h.f1, Nat.lt_of_lt_of_le h1 b.size, h2, b.keep h.k0, b.keep h.k1⟩
theorem RbL.chg {B y lo hi : Nat} {s : Int} {a : Option Addr} {n c : Nat} {w W W' : World} (h : RbL B y s a n c w W) (b : Chg lo hi W W') (hl : y < lo) : RbL B y s a n c w W' := by
  have h1 := h.ylt
  have h2 := h.by0
  exact ⟨h.below.chgn b (by omega) (by omega), b.cell h.y0 (.inl hl), b.cell h.y1 (.inl hl), b.frozen h1 (.inl hl) h.f0, b.frozen h1 (.inl hl) h.f1, Nat.lt_of_lt_of_le h1 b.size, h2, b.cell h.k0 (.inl (by show B < lo; omega)), b.cell h.k1 (.inl (by show B < lo; omega))⟩
theorem ownE_shape {w : World} {base e size n : Nat} {v : Value} {xs : List Value} (h : w.ownsRow base e size v n xs) : ∃ a c, v = .slice a n c := by
  rcases h.2 with ⟨rfl, h1⟩ | ⟨g, cap, cur, rfl, _⟩
  · exact ⟨none, 0, by rw [h1]⟩
  · exact ⟨_, _, rfl⟩

set_option maxHeartbeats 6400000 in
theorem implLg {lo hi : Nat} (s : Int) (a : Option Addr) (n c : Nat) (xss : List (List Int)) (w : World) (h : RdR lo hi w (.slice a n c) xss) (hn : xss.length = n) :
    Calls Try.prog 39 #[.agg #[.int .i64 s, .slice a n c]] w fun e w' => ∃ a' c', e = .returned (.tuple #[.agg #[.int .i64 (lgOf s xss).1.1, .slice a' (lgOf s xss).1.2.length c'], .int .i64 (lgOf s xss).2]) ∧ OwR w.heap.size w'.heap.size w' (.slice a' (lgOf s xss).1.2.length c') (lgOf s xss).1.2 ∧ Below w.heap.size w w' := by
  have hb0 : ∀ o o', Below w.heap.size w ((w.alloc o).alloc o') := fun o o' => ((Below.refl _ _).alloc (Nat.le_refl _) o).alloc (by simp) o'
  have HI := Lib.hid (fun W (hB : Below w.heap.size w W) => implIsGraph s a n c xss W (h.below hB) hn)
  cases hg : grB s xss with
  | false =>
    rw [hg] at HI
    rw [lgOf_no hg]
    clear h hn hg
    go_enter Try.func39, Try.ntmps39
    go_wp2_with fail
    refine calls_gen (fun W => RbL w.heap.size (w.heap.size + 1) s a n c w W) ⟨hb0 _ _, by go_simp, by go_simp, by go_simp, by go_simp, by simp, by omega, by go_simp, by go_simp⟩ ?_
    rintro W hI
    refine (HI.out W hI.below).mono ?_
    rintro e w1 ⟨rfl, b1⟩
    have hI1 := hI.next b1
    obtain ⟨y0, y1, f0, f1, ylt, hB5⟩ := (⟨hI1.y0, hI1.y1, hI1.f0, hI1.f1, hI1.ylt, hI1.below⟩ : _ ∧ _ ∧ _ ∧ _ ∧ _ ∧ _)
    clear b1 HI hI hI1
    go_wp2
    refine bodyPost_ret (v := .tuple #[.agg #[.int .i64 0, .slice none 0 0], .int .i64 1]) (by simp [results, Try.results39, go_sem, y0, y1, f0, f1]) rfl ⟨none, 0, rfl, OwR.nil (World.ownsRow_nil _ _ _ _) (Nat.le_refl _), ?_⟩
    repeat (refine Below.setCell ?_ (by simp <;> omega) _)
    exact hB5
  | true =>
    rw [hg] at HI
    have hg4 := grB_iff hg
    obtain ⟨S, hS⟩ : ∃ S : Nat, s = (S : Int) := ⟨s.toNat, by omega⟩
    subst hS
    have hn10 : n ≤ 10 := by omega
    have HE := Lib.hid (fun W (hB : Below w.heap.size w W) => edgesOf (S : Int) a n c xss W (h.below hB) hg hn)
    have hpl : (pairs xss).length = n := by rw [pairs_len, hn]
    have HC := Lib.hid (fun (a1 : Option Addr) (c1 : Nat) (W : World) (hW : RdE W a1 (pairs xss)) => containsLoop a1 n c1 (pairs xss) W hW hpl (by omega))
    have HM := Lib.hid (fun (a1 : Option Addr) (c1 : Nat) (W : World) (hW : RdE W a1 (pairs xss)) => meetingsOf a1 n c1 (pairs xss) (pE xss) (qE xss) W hW hpl hn10 (fun k hk => by have h1 := pq_get hg (k := k) (by omega); exact ⟨h1.1, by omega, by omega⟩))
    have HPL := Lib.hid hpl
    have HST := Lib.hid (fun e => lgOf_st hg e)
    have HLM := Lib.hid (fun e1 e2 => lgOf_lim hg e1 e2)
    have HYS := Lib.hid (fun e1 e2 => lgOf_yes hg e1 e2)
    have hLe : lgL xss = mtT (pE xss) (qE xss) n n := by unfold lgL; rw [hn]
    rw [← hLe] at HM
    have HGB := Lib.hid (fun e1 => lgL_grB (xss := xss) e1)
    have HLL := Lib.hid (show (lgL xss).length ≤ 1000 by rw [hLe]; have := mtT_len (pE xss) (qE xss) n n; have : n * (2 * n) ≤ 10 * 20 := Nat.mul_le_mul hn10 (by omega); omega)
    have HLI := Lib.hid (show ∀ j, j < (lgL xss).length → I64 ((lgL xss).getD j (0, 0)).1 ∧ I64 ((lgL xss).getD j (0, 0)).2 from fun j hj => by
      have hm : (lgL xss).getD j (0, 0) ∈ lgL xss := by
        have : (lgL xss).getD j (0, 0) = (lgL xss)[j] := by simp [List.getD, List.getElem?_eq_getElem hj]
        rw [this]; exact List.getElem_mem hj
      have := mtT_mem (P := pE xss) (Q := qE xss) (n := n) n (Nat.le_refl _) _ (by rw [← hLe]; exact hm)
      unfold I64; omega)
    rw [hn] at HST HLM HYS HGB
    generalize lgOf (S : Int) xss = R at HST HLM HYS ⊢
    generalize lgL xss = L at HM HLM HYS HGB HLL HLI
    generalize pairs xss = es at HE HC HM HST HLM HYS HPL
    clear h hn hg hg4 hLe hpl
    go_enter Try.func39, Try.ntmps39
    go_wp2_with fail
    refine calls_gen (fun W => RbL w.heap.size (w.heap.size + 1) S a n c w W) ⟨hb0 _ _, by go_simp, by go_simp, by go_simp, by go_simp, by simp, by omega, by go_simp, by go_simp⟩ ?_
    rintro W hI
    refine (HI.out W hI.below).mono ?_
    rintro e w1 ⟨rfl, b1⟩
    replace hI := hI.next b1
    have k0 := hI.k0
    have k1 := hI.k1
    have HB := Lib.hid hI
    clear b1 HI hI
    go_wp2_with fail
    refine (HE.out w1 HB.out.below).mono ?_
    rintro e w2 ⟨a1, c1, rfl, o1, b1⟩
    have hI := HB.out.next b1
    have HE1 := Lib.hid (show RdE w2 a1 es from RdE.mk o1 HPL.out)
    clear o1 b1 HE HB k0 k1
    by_cases hn0 : n = 0
    · subst hn0
      have hR := HST.out (.inl rfl)
      subst hR
      obtain ⟨y0, y1, f0, f1, ylt, hB5⟩ := (⟨hI.y0, hI.y1, hI.f0, hI.f1, hI.ylt, hI.below⟩ : _ ∧ _ ∧ _ ∧ _ ∧ _ ∧ _)
      clear hI
      go_wp2
      refine bodyPost_ret (v := .tuple #[.agg #[.int .i64 0, .slice none 0 0], .int .i64 5]) (by simp [results, Try.results39, go_sem, y0, y1, f0, f1]) rfl ⟨none, 0, rfl, OwR.nil (World.ownsRow_nil _ _ _ _) (Nat.le_refl _), ?_⟩
      repeat (refine Below.setCell ?_ (by simp <;> omega) _)
      exact hB5
    · have hnb : ((n : Int) == 0) = false := by simp; omega
      have HB := Lib.hid hI
      clear hI
      go_wp2_with fail
      refine (HC.out a1 c1 w2 HE1.out).mono ?_
      rintro e w3 ⟨rfl, b3⟩
      have hI := HB.out.next b3
      have HE3 := Lib.hid (HE1.out.below b3)
      clear b3 HB HE1 HC
      cases hlp : lpE es with
      | true =>
        have hR := HST.out (.inr hlp)
        subst hR
        obtain ⟨y0, y1, f0, f1, ylt, hB5⟩ := (⟨hI.y0, hI.y1, hI.f0, hI.f1, hI.ylt, hI.below⟩ : _ ∧ _ ∧ _ ∧ _ ∧ _ ∧ _)
        clear hI hlp
        go_wp2
        refine bodyPost_ret (v := .tuple #[.agg #[.int .i64 0, .slice none 0 0], .int .i64 5]) (by simp [results, Try.results39, go_sem, y0, y1, f0, f1]) rfl ⟨none, 0, rfl, OwR.nil (World.ownsRow_nil _ _ _ _) (Nat.le_refl _), ?_⟩
        repeat (refine Below.setCell ?_ (by simp <;> omega) _)
        exact hB5
      | false =>
        have hno : ¬ (n = 0 ∨ lpE es = true) := by rw [hlp]; simp; exact hn0
        have HNO := Lib.hid hno
        have HB := Lib.hid hI
        clear hI hno
        go_wp2_with fail
        refine (HM.out a1 c1 w3 HE3.out).mono ?_
        rintro e w4 ⟨v4, rfl, o4, b4⟩
        obtain ⟨a4, c4, rfl⟩ := ownE_shape o4
        have HB4 := Lib.hid (HB.out.next b4)
        obtain ⟨ln, hln⟩ : ∃ ln, ln = L.length := ⟨_, rfl⟩
        have HGW := Lib.hid (graphWith (n : Int) a4 L.length c4 L w4 (RdE.mk o4 rfl) rfl HLL.out HLI.out)
        rw [← hln] at HGW ⊢
        have HLN := Lib.hid hln
        clear hln o4 b4 HB HM HE3
        go_wp2_with fail
        refine HGW.out.mono ?_
        rintro e w5 ⟨a5, c5, rfl, o5, b5⟩
        have hI5 := HB4.out.next b5
        have ba := (Below.refl w5.heap.size w5).alloc (Nat.le_refl _) (.cells #[.int .i64 (n : Int), .slice a5 (unp L).length c5] 28)
        have hI6 := hI5.next ba
        have x0 : (w5.alloc (.cells #[.int .i64 (n : Int), .slice a5 (unp L).length c5] 28)).cell? ⟨w5.heap.size, 0, none⟩ = some (.int .i64 (n : Int)) := by go_simp
        have x1 : (w5.alloc (.cells #[.int .i64 (n : Int), .slice a5 (unp L).length c5] 28)).cell? ⟨w5.heap.size, 1, none⟩ = some (.slice a5 (unp L).length c5) := by go_simp
        have o6 := o5.below ba
        have hyl := hI5.ylt
        have hul : (unp L).length = ln := by rw [unp_len, HLN.out]
        rw [hul] at ba hI6 x0 x1 o6 ⊢
        have HUL := Lib.hid (⟨hul, HLN.out⟩ : _ ∧ _)
        have HX := Lib.hid (show OwR w4.heap.size _ _ (.slice a5 ln c5) (unp L) ∧ w4.heap.size ≤ w5.heap.size ∧ w.heap.size + 1 < w4.heap.size ∧ w5.heap.size ≤ _ from ⟨o6, b5.size, HB4.out.ylt, ba.size⟩)
        clear o5 b5 HGW HB4 hI5 ba o6 hul
        obtain ⟨X, hX⟩ : ∃ X, X = w5.heap.size := ⟨_, rfl⟩
        have HXX := Lib.hid hX
        go_wp2_with fail
        refine calls_gen (fun W => W = w5.alloc (.cells #[.int .i64 (n : Int), .slice a5 ln c5] 28)) rfl ?_
        rintro W rfl
        rw [← hX] at x0 x1 ⊢
        generalize w5.alloc (.cells #[.int .i64 (n : Int), .slice a5 ln c5] 28) = V at hI6 x0 x1 HX ⊢
        refine (implIsGraph (n : Int) a5 ln c5 (unp L) V HX.out.1.rd HUL.out.1).mono ?_
        rw [HGB.out (by omega)]
        rintro e w7 ⟨rfl, b7⟩
        replace hI6 := hI6.next b7
        replace x0 := b7.keep x0
        replace x1 := b7.keep x1
        have HO7 := Lib.hid (⟨HX.out.1.below b7, HX.out.2, b7.size⟩ : OwR w4.heap.size _ w7 _ _ ∧ _ ∧ _)
        obtain ⟨y0, y1, f0, f1, ylt, hB5⟩ := (⟨hI6.y0, hI6.y1, hI6.f0, hI6.f1, hI6.ylt, hI6.below⟩ : _ ∧ _ ∧ _ ∧ _ ∧ _ ∧ _)
        have HBB := Lib.hid hB5
        have HVX := Lib.hid (show w.heap.size + 1 < X by rw [HXX.out]; have h1 := HX.out.2.1; have h2 := HX.out.2.2.1; omega)
        clear b7 hI6 HX HXX hX hB5
        by_cases h3 : n ≤ 8 ∧ L.length ≤ 10
        · have hR := HYS.out HNO.out h3
          have hlnL : L.length = ln := HUL.out.2.symm
          have hb : decide (n ≤ 8 ∧ L.length ≤ 10) = true := decide_eq_true h3
          rw [hb]
          subst hR
          clear hb h3 hlnL
          have hyX := HVX.out
          have hch : Chg (w.heap.size + 1) (w.heap.size + 1 + 1) w7 ((w7.setCell ⟨w.heap.size + 1, 0, none⟩ (.int .i64 (n : Int))).setCell ⟨w.heap.size + 1, 1, none⟩ (.slice a5 ln c5)) := by
            repeat (refine Chg.setCell ?_ (by constructor <;> simp <;> omega) _)
            exact Chg.refl _ _ _
          have hor2 := (HO7.out.1.chg hch (.inr (by have := HO7.out.2.1.2.1; omega))).mono (show w.heap.size ≤ w4.heap.size by have := HO7.out.2.1.2.1; omega) (Nat.le_refl _)
          have HF := Lib.hid hor2
          clear hch hor2
          go_wp2
          refine bodyPost_ret (v := .tuple #[.agg #[.int .i64 (n : Int), .slice a5 ln c5], .int .i64 0]) (by simp [results, Try.results39, go_sem, y0, y1, f0, f1, x0, x1]) rfl ⟨a5, c5, ?_, ?_, ?_⟩
          · show _ = Ending.returned (.tuple #[.agg #[.int .i64 (n : Int), .slice a5 (unp L).length c5], .int .i64 0])
            rw [HUL.out.1]
          · show OwR _ _ _ (.slice a5 (unp L).length c5) (unp L)
            rw [HUL.out.1]; exact HF.out.mono (Nat.le_refl _) (by simp; have h1 := HO7.out.2.1.2.2; have h2 := HO7.out.2.2; omega)
          · repeat (refine Below.setCell ?_ (by simp <;> omega) _)
            exact HBB.out
        · have hR := HLM.out HNO.out h3
          have hb : decide (n ≤ 8 ∧ L.length ≤ 10) = false := decide_eq_false h3
          rw [hb]
          subst hR
          clear hb h3
          go_wp2
          refine bodyPost_ret (v := .tuple #[.agg #[.int .i64 0, .slice none 0 0], .int .i64 3]) (by simp [results, Try.results39, go_sem, y0, y1, f0, f1]) rfl ⟨none, 0, rfl, OwR.nil (World.ownsRow_nil _ _ _ _) (Nat.le_refl _), ?_⟩
          repeat (refine Below.setCell ?_ (by simp <;> omega) _)
          exact HBB.out

end Go.Proofs.Ytebgbplhcaocoaa
