/- DerivedGraph of the model. -/
import Derived.Test.YtlahfglblgppgaaDerS
import Derived.Test.YtlahfglblgppgaaDerM
set_option linter.unusedSimpArgs false
set_option linter.unusedVariables false
set_option maxRecDepth 100000
namespace Go.Proofs.Ytlahfglblgppgaa
open Go.RowKit

set_option maxHeartbeats 3200000 in
theorem l04Told {lo hi lo' hi' : Nat} (s : Int) (a : Option Addr) (n c : Nat) (xss : List (List Int)) (sh : Int) (ta : Option Addr) (tn tc : Nat) (ts : List (List Int)) (w : World)
    (h : RdR lo hi w (.slice a n c) xss) (hn : xss.length = n) (h' : RdR lo' hi' w (.slice ta tn tc) ts) (hn' : ts.length = tn) :
    Calls Try.prog 101 #[.agg #[.int .i64 s, .slice a n c, .int .i64 sh, .slice ta tn tc]] w fun e w' => ∃ a' c', e = .returned (.tuple #[.agg #[.int .i64 (derOf s xss sh ts).1.1, .slice a' (derOf s xss sh ts).1.2.length c'], .int .i64 (derOf s xss sh ts).2]) ∧ OwR w.heap.size w'.heap.size w' (.slice a' (derOf s xss sh ts).1.2.length c') (derOf s xss sh ts).1.2 ∧ Below w.heap.size w w' := by
  have hb0 : ∀ o o', Below w.heap.size w ((w.alloc o).alloc o') := fun o o' => ((Below.refl _ _).alloc (Nat.le_refl _) o).alloc (by simp) o'
  have HIC := Lib.hid (fun W (hB : Below w.heap.size w W) => l04Is s a n c xss sh ta tn tc ts W (h.below hB) hn (h'.below hB) hn')
  have HDG := Lib.hid (fun (s' S : Nat) (e1 : s = (s' : Int)) (e2 : sh = (S : Int)) (hc : cvB s xss sh ts = true) W (hB : Below w.heap.size w W) => l04Derived s' a n c xss S ta tn tc ts W (h.below hB) hn (h'.below hB) hn' (by rw [← e1, ← e2]; exact hc))
  have HN := Lib.hid hn
  clear h hn h' hn'
  obtain ⟨y, hy⟩ : ∃ y, y = w.heap.size + 1 := ⟨_, rfl⟩
  cases hcv : cvB s xss sh ts with
  | false =>
    rw [derOf_no hcv]
    rw [hcv] at HIC
    dsimp only [List.length_nil]
    clear hcv HDG
    go_enter Try.func101, Try.ntmps101
    go_wp2_with fail
    refine calls_gen (fun W => Below w.heap.size w W ∧ BoxG W y (.int .i64 0) (.slice none 0 0)) ⟨hb0 _ _, by rw [hy]; simp, by rw [hy]; go_simp, by rw [hy]; go_simp, by rw [hy]; go_simp, by rw [hy]; go_simp⟩ ?_
    rw [← hy]
    have hyw : w.heap.size < y := by omega
    clear hy
    rintro W ⟨hB, hY⟩
    refine (HIC.out W hB).mono ?_
    rintro e w1 ⟨rfl, b1⟩
    replace hB := hB.next b1
    replace hY := hY.below b1
    have HP := Lib.hid (hY.put (.int .i64 0) (.slice none 0 0))
    have hch := chgG w1 y (.int .i64 0) (.slice none 0 0)
    have hyl := hY.lt
    have HB := Lib.hid (hB.chgn hch (by omega) (by omega))
    obtain ⟨_, c0, c1, f0, f1⟩ := hY
    clear b1 hB hch
    go_wp2
    obtain ⟨v0, v1⟩ := HP.out
    refine bodyPost_ret (v := .tuple #[.agg #[.int .i64 0, .slice none 0 0], .int .i64 1]) (by simp [results, Try.results101, go_sem, v0, v1]) rfl ⟨none, 0, rfl, OwR.nil (World.ownsRow_nil _ _ _ _) (Nat.le_refl _), HB.out⟩
  | true =>
    obtain ⟨hg, hs8, ⟨hS1, hS4⟩, _, _⟩ := cvB_hd hcv
    have hg4 := grB_iff hg
    obtain ⟨s', rfl⟩ : ∃ s' : Nat, s = (s' : Int) := ⟨s.toNat, by omega⟩
    obtain ⟨S, rfl⟩ : ∃ S : Nat, sh = (S : Int) := ⟨sh.toNat, by omega⟩
    have hdg := HDG.out s' S rfl rfl hcv
    have HD2 := Lib.hid hdg
    rw [hcv] at HIC
    have hlen : ((derR S xss ts n).length : Int) = (n : Int) * (S : Int) := by rw [derR_len, Int.natCast_mul]
    have hl40 : (derR S xss ts n).length ≤ 40 := by
      rw [derR_len]
      have hn := HN.out
      exact Nat.mul_le_mul (show n ≤ 10 by omega) (show S ≤ 4 by omega)
    obtain ⟨P, hP⟩ : ∃ P, P = derOf (s' : Int) xss (S : Int) ts := ⟨_, rfl⟩
    rw [← hP]
    have HPE := Lib.hid hP
    clear hdg HDG hg hg4 hs8 hS1 hS4 hP
    go_enter Try.func101, Try.ntmps101
    go_wp2_with fail
    refine calls_gen (fun W => Below w.heap.size w W ∧ BoxG W y (.int .i64 0) (.slice none 0 0) ∧ W.cell? ⟨w.heap.size, 0, none⟩ = some (.int .i64 (s' : Int)) ∧ W.cell? ⟨w.heap.size, 1, none⟩ = some (.slice a n c) ∧ W.cell? ⟨w.heap.size, 2, none⟩ = some (.int .i64 (S : Int)) ∧ W.cell? ⟨w.heap.size, 3, none⟩ = some (.slice ta tn tc)) ⟨hb0 _ _, ⟨by rw [hy]; simp, by rw [hy]; go_simp, by rw [hy]; go_simp, by rw [hy]; go_simp, by rw [hy]; go_simp⟩, by go_simp, by go_simp, by go_simp, by go_simp⟩ ?_
    rw [← hy]
    have hyw : w.heap.size < y := by omega
    clear hy
    rintro W ⟨hB, hY, k0, k1, k2, k3⟩
    refine (HIC.out W hB).mono ?_
    rintro e w1 ⟨rfl, b1⟩
    replace hB := hB.next b1
    replace hY := hY.below b1
    replace k0 := b1.keep k0
    replace k1 := b1.keep k1
    replace k2 := b1.keep k2
    replace k3 := b1.keep k3
    clear b1
    go_wp2_with fail
    refine (HD2.out w1 hB).mono ?_
    clear k0 k1 k2 k3
    rintro e w2 ⟨a', c', rfl, o2, b2⟩
    have hsz1 : w.heap.size ≤ w1.heap.size := hB.size
    have hyw1 : y < w1.heap.size := hY.lt
    replace hB := hB.next b2
    replace hY := hY.below b2
    generalize hrows : derR S xss ts n = rows at *
    obtain ⟨ZS, hZS⟩ : ∃ ZS, ZS = (s' : Int) * (S : Int) := ⟨_, rfl⟩
    rw [← hZS]
    have hbA := (Below.refl w2.heap.size w2).alloc (Nat.le_refl _) (.cells #[.int .i64 ZS, .slice a' rows.length c'] 29)
    have j0 : (w2.alloc (.cells #[.int .i64 ZS, .slice a' rows.length c'] 29)).cell? ⟨w2.heap.size, 0, none⟩ = some (.int .i64 ZS) := by go_simp
    have j1 : (w2.alloc (.cells #[.int .i64 ZS, .slice a' rows.length c'] 29)).cell? ⟨w2.heap.size, 1, none⟩ = some (.slice a' rows.length c') := by go_simp
    have hHY := hY.below hbA
    have hP1 := hHY.put (.int .i64 ZS) (.slice a' rows.length c')
    have hP2 := hHY.put (.int .i64 0) (.slice none 0 0)
    have hch1 := chgG (w2.alloc (.cells #[.int .i64 ZS, .slice a' rows.length c'] 29)) y (.int .i64 ZS) (.slice a' rows.length c')
    have hch2 := chgG (w2.alloc (.cells #[.int .i64 ZS, .slice a' rows.length c'] 29)) y (.int .i64 0) (.slice none 0 0)
    have hyl := hHY.lt
    have hBn := hB.next hbA
    have hF1 := hBn.chgn hch1 (by omega) (by have := hBn.size; omega)
    have hF2 := hBn.chgn hch2 (by omega) (by have := hBn.size; omega)
    have hO1 := ((o2.below hbA).chg hch1 (.inr (by omega))).mono hsz1 (show w2.heap.size ≤ (((w2.alloc (.cells #[.int .i64 ZS, .slice a' rows.length c'] 29)).setCell ⟨y, 0, none⟩ (.int .i64 ZS)).setCell ⟨y, 1, none⟩ (.slice a' rows.length c')).heap.size by rw [World.size_setCell, World.size_setCell]; exact hbA.size)
    obtain ⟨_, c0, c1, f0, f1⟩ := hHY
    by_cases hbd : ZS ≤ 8 ∧ (rows.length : Int) ≤ 10
    · have hpe := HPE.out
      rw [derOf_yes hcv (by rw [HN.out, ← hlen, ← hZS]; exact hbd), HN.out, hrows, ← hZS] at hpe
      have HF := Lib.hid (⟨hpe, hO1, hF1, hP1⟩ : _ ∧ _ ∧ _ ∧ _)
      obtain ⟨hb1, hb2⟩ := hbd
      clear hpe hO1 hF1 hP1 hF2 hP2 hch1 hch2 hBn o2 hB hY b2 hbA hcv hrows hlen hZS
      have hb1' : ¬ (8 : Int) < ZS := by omega
      have hb2' : ¬ (10 : Int) < (rows.length : Int) := by omega
      go_wp2
      obtain ⟨p1, p2, p3, v0, v1⟩ := HF.out
      refine bodyPost_ret (v := .tuple #[.agg #[.int .i64 ZS, .slice a' rows.length c'], .int .i64 0]) (by simp [results, Try.results101, go_sem, v0, v1]) rfl ⟨a', c', by rw [p1], by rw [p1]; exact p2, p3⟩
    · have hpe := HPE.out
      rw [derOf_big hcv (by rw [HN.out, ← hlen, ← hZS]; exact hbd)] at hpe
      have HF := Lib.hid (⟨hpe, hF2, hP2⟩ : _ ∧ _ ∧ _)
      have hcs : (8 : Int) < ZS ∨ (¬ (8 : Int) < ZS ∧ (10 : Int) < (rows.length : Int)) := by omega
      clear hpe hO1 hF1 hP1 hF2 hP2 hch1 hch2 hBn o2 hB hY b2 hbA hcv hrows hlen hZS hbd
      rcases hcs with hb1 | ⟨hb1, hb2⟩
      · go_wp2
        obtain ⟨p1, p3, v0, v1⟩ := HF.out
        refine bodyPost_ret (v := .tuple #[.agg #[.int .i64 0, .slice none 0 0], .int .i64 3]) (by simp [results, Try.results101, go_sem, v0, v1]) rfl ⟨none, 0, by rw [p1]; rfl, by rw [p1]; exact OwR.nil (World.ownsRow_nil _ _ _ _) (Nat.le_refl _), p3⟩
      · go_wp2
        obtain ⟨p1, p3, v0, v1⟩ := HF.out
        refine bodyPost_ret (v := .tuple #[.agg #[.int .i64 0, .slice none 0 0], .int .i64 3]) (by simp [results, Try.results101, go_sem, v0, v1]) rfl ⟨none, 0, by rw [p1]; rfl, by rw [p1]; exact OwR.nil (World.ownsRow_nil _ _ _ _) (Nat.le_refl _), p3⟩

set_option maxHeartbeats 1600000 in
theorem specDer {lo hi lo' hi' : Nat} (s : Int) (a : Option Addr) (n c : Nat) (xss : List (List Int)) (sh : Int) (ta : Option Addr) (tn tc : Nat) (ts : List (List Int)) (w : World)
    (h : RdR lo hi w (.slice a n c) xss) (hn : xss.length = n) (h' : RdR lo' hi' w (.slice ta tn tc) ts) (hn' : ts.length = tn) :
    Calls Try.prog 47 #[.agg #[.int .i64 s, .slice a n c, .int .i64 sh, .slice ta tn tc]] w fun e w' => ∃ a' c', e = .returned (.tuple #[.agg #[.int .i64 (derOf s xss sh ts).1.1, .slice a' (derOf s xss sh ts).1.2.length c'], .int .i64 (derOf s xss sh ts).2]) ∧ OwR w.heap.size w'.heap.size w' (.slice a' (derOf s xss sh ts).1.2.length c') (derOf s xss sh ts).1.2 ∧ Below w.heap.size w w' := by
  have hb0 : ∀ o o', Below w.heap.size w ((w.alloc o).alloc o') := fun o o' => ((Below.refl _ _).alloc (Nat.le_refl _) o).alloc (by simp) o'
  have HIC := Lib.hid (fun W (hB : Below w.heap.size w W) => l04Told s a n c xss sh ta tn tc ts W (h.below hB) hn (h'.below hB) hn')
  generalize derOf s xss sh ts = P at *
  obtain ⟨⟨p1, rows⟩, p2⟩ := P
  dsimp only at HIC ⊢
  clear h hn h' hn'
  obtain ⟨y, hy⟩ : ∃ y, y = w.heap.size + 1 := ⟨_, rfl⟩
  go_enter Try.func47, Try.ntmps47
  go_wp2_with fail
  refine calls_gen (fun W => Below w.heap.size w W ∧ BoxG W y (.int .i64 0) (.slice none 0 0)) ⟨hb0 _ _, by rw [hy]; simp, by rw [hy]; go_simp, by rw [hy]; go_simp, by rw [hy]; go_simp, by rw [hy]; go_simp⟩ ?_
  rw [← hy]
  have hyw : w.heap.size < y := by omega
  clear hy
  rintro W ⟨hB, hY⟩
  refine (HIC.out W hB).mono ?_
  clear HIC
  rintro e w1 ⟨a', c', rfl, o1, b1⟩
  have hsz : w.heap.size ≤ W.heap.size := hB.size
  have hyW : y < W.heap.size := hY.lt
  replace hB := hB.next b1
  replace hY := hY.below b1
  have hbA := (Below.refl w1.heap.size w1).alloc (Nat.le_refl _) (.cells #[.int .i64 p1, .slice a' rows.length c'] 29)
  have hHY := hY.below hbA
  have hP1 := hHY.put (.int .i64 p1) (.slice a' rows.length c')
  have hch1 := chgG (w1.alloc (.cells #[.int .i64 p1, .slice a' rows.length c'] 29)) y (.int .i64 p1) (.slice a' rows.length c')
  have hyl := hHY.lt
  have hBn := hB.next hbA
  have hF1 := hBn.chgn hch1 (by omega) (by have := hBn.size; omega)
  have hO1 := ((o1.below hbA).chg hch1 (.inr (by omega))).mono hsz (show w1.heap.size ≤ (((w1.alloc (.cells #[.int .i64 p1, .slice a' rows.length c'] 29)).setCell ⟨y, 0, none⟩ (.int .i64 p1)).setCell ⟨y, 1, none⟩ (.slice a' rows.length c')).heap.size by rw [World.size_setCell, World.size_setCell]; exact hbA.size)
  obtain ⟨_, c0, c1, f0, f1⟩ := hHY
  have HF := Lib.hid (⟨hO1, hF1, hP1⟩ : _ ∧ _ ∧ _)
  clear hO1 hF1 hP1 hch1 hBn o1 hB hY b1 hbA
  go_wp2
  obtain ⟨q2, q3, v0, v1⟩ := HF.out
  refine bodyPost_ret (v := .tuple #[.agg #[.int .i64 p1, .slice a' rows.length c'], .int .i64 p2]) (by simp [results, Try.results47, go_sem, v0, v1]) rfl ⟨a', c', rfl, q2, q3⟩

end Go.Proofs.Ytlahfglblgppgaa
