/- DerivedGraph of the program. -/
import Derived.Test.YtlahfglblgppgaaDerI
set_option linter.unusedSimpArgs false
set_option linter.unusedVariables false
set_option maxRecDepth 100000
namespace Go.Proofs.Ytlahfglblgppgaa
open Go.RowKit

structure BoxG (W : World) (y : Nat) (v0 v1 : Value) : Prop where
  lt : y < W.heap.size
  c0 : W.cell? ⟨y, 0, none⟩ = some v0
  c1 : W.cell? ⟨y, 1, none⟩ = some v1
  f0 : W.frozen? ⟨y, 0, none⟩ = false
  f1 : W.frozen? ⟨y, 1, none⟩ = false
theorem BoxG.below {W W' : World} {y : Nat} {v0 v1 : Value} (h : BoxG W y v0 v1) (b : Below W.heap.size W W') : BoxG W' y v0 v1 :=
  ⟨Nat.lt_of_lt_of_le h.lt b.size, b.keep h.c0, b.keep h.c1, b.keepf h.lt h.f0, b.keepf h.lt h.f1⟩
theorem BoxG.put {W : World} {y : Nat} {v0 v1 : Value} (h : BoxG W y v0 v1) (u0 u1 : Value) : ((W.setCell ⟨y, 0, none⟩ u0).setCell ⟨y, 1, none⟩ u1).cell? ⟨y, 0, none⟩ = some u0 ∧ ((W.setCell ⟨y, 0, none⟩ u0).setCell ⟨y, 1, none⟩ u1).cell? ⟨y, 1, none⟩ = some u1 :=
  ⟨by rw [World.cell?_setCell_other _ _ _ _ (by simp)]; exact World.cell?_setCell_same _ _ _ h.c0, World.cell?_setCell_same _ _ _ (by rw [World.cell?_setCell_other _ _ _ _ (by simp)]; exact h.c1)⟩
theorem chgG (W : World) (y : Nat) (u0 u1 : Value) : Chg y (y + 1) W ((W.setCell ⟨y, 0, none⟩ u0).setCell ⟨y, 1, none⟩ u1) := by
  repeat (refine Chg.setCell ?_ (by constructor <;> simp) _)
  exact Chg.refl _ _ _

theorem derOf_no {s : Int} {xss : List (List Int)} {sh : Int} {ts : List (List Int)} (h : cvB s xss sh ts = false) : derOf s xss sh ts = ((0, []), 1) := by unfold derOf; rw [h, if_neg (by simp)]
theorem derOf_yes {s : Nat} {xss : List (List Int)} {S : Nat} {ts : List (List Int)} (h : cvB (s : Int) xss (S : Int) ts = true) (b : (s : Int) * (S : Int) ≤ 8 ∧ (xss.length : Int) * (S : Int) ≤ 10) : derOf s xss S ts = (((s : Int) * (S : Int), derR S xss ts xss.length), 0) := by
  unfold derOf; rw [if_pos h, if_pos b, Int.toNat_natCast]
theorem derOf_big {s : Nat} {xss : List (List Int)} {S : Nat} {ts : List (List Int)} (h : cvB (s : Int) xss (S : Int) ts = true) (b : ¬ ((s : Int) * (S : Int) ≤ 8 ∧ (xss.length : Int) * (S : Int) ≤ 10)) : derOf s xss S ts = ((0, []), 3) := by
  unfold derOf; rw [if_pos h, if_neg b]

set_option maxHeartbeats 3200000 in
theorem implDer {lo hi lo' hi' : Nat} (s : Int) (a : Option Addr) (n c : Nat) (xss : List (List Int)) (sh : Int) (ta : Option Addr) (tn tc : Nat) (ts : List (List Int)) (w : World)
    (h : RdR lo hi w (.slice a n c) xss) (hn : xss.length = n) (h' : RdR lo' hi' w (.slice ta tn tc) ts) (hn' : ts.length = tn) :
    Calls Try.prog 49 #[.agg #[.int .i64 s, .slice a n c, .int .i64 sh, .slice ta tn tc]] w fun e w' => ∃ a' c', e = .returned (.tuple #[.agg #[.int .i64 (derOf s xss sh ts).1.1, .slice a' (derOf s xss sh ts).1.2.length c'], .int .i64 (derOf s xss sh ts).2]) ∧ OwR w.heap.size w'.heap.size w' (.slice a' (derOf s xss sh ts).1.2.length c') (derOf s xss sh ts).1.2 ∧ Below w.heap.size w w' := by
  have hb0 : ∀ o o', Below w.heap.size w ((w.alloc o).alloc o') := fun o o' => ((Below.refl _ _).alloc (Nat.le_refl _) o).alloc (by simp) o'
  have HIC := Lib.hid (fun W (hB : Below w.heap.size w W) => implIsCover s a n c xss sh ta tn tc ts W (h.below hB) hn (h'.below hB) hn')
  have HDG := Lib.hid (fun (s' S : Nat) (e1 : s = (s' : Int)) (e2 : sh = (S : Int)) (hc : cvB s xss sh ts = true) W (hB : Below w.heap.size w W) => derivedOf s' a n c xss S ta tn tc ts W (h.below hB) hn (h'.below hB) hn' (by rw [← e1, ← e2]; exact hc))
  have HN := Lib.hid hn
  clear h hn h' hn'
  obtain ⟨y, hy⟩ : ∃ y, y = w.heap.size + 1 := ⟨_, rfl⟩
  cases hcv : cvB s xss sh ts with
  | false =>
    rw [derOf_no hcv]
    rw [hcv] at HIC
    dsimp only [List.length_nil]
    clear hcv HDG
    go_enter Try.func49, Try.ntmps49
    go_wp2_with fail
    refine calls_gen (fun W => Below w.heap.size w W ∧ BoxG W y (.int .i64 0) (.slice none 0 0)) ⟨hb0 _ _, by rw [hy]; simp, by rw [hy]; go_simp, by rw [hy]; go_simp, by rw [hy]; go_simp, by rw [hy]; go_simp⟩ ?_
    rw [← hy]
    have hyw : w.heap.size < y := by omega
    clear hy
    rintro W ⟨hB, hY⟩
    refine (HIC.out W hB).mono ?_
    rintro e w1 ⟨rfl, b1⟩
    replace hB := hB.next b1
    replace hY := hY.below b1
    have HP := Lib.hid (hY.put (.int .i64 0) (.slice none 0 0))
    have hch := chgG w1 y (.int .i64 0) (.slice none 0 0)
    have hyl := hY.lt
    have HB := Lib.hid (hB.chgn hch (by omega) (by omega))
    obtain ⟨_, c0, c1, f0, f1⟩ := hY
    clear b1 hB hch
    go_wp2
    obtain ⟨v0, v1⟩ := HP.out
    refine bodyPost_ret (v := .tuple #[.agg #[.int .i64 0, .slice none 0 0], .int .i64 1]) (by simp [results, Try.results49, go_sem, v0, v1]) rfl ⟨none, 0, rfl, OwR.nil (World.ownsRow_nil _ _ _ _) (Nat.le_refl _), HB.out⟩
  | true =>
    obtain ⟨hg, hs8, ⟨hS1, hS4⟩, _, _⟩ := cvB_hd hcv
    have hg4 := grB_iff hg
    obtain ⟨s', rfl⟩ : ∃ s' : Nat, s = (s' : Int) := ⟨s.toNat, by omega⟩
    obtain ⟨S, rfl⟩ : ∃ S : Nat, sh = (S : Int) := ⟨sh.toNat, by omega⟩
    have hdg := HDG.out s' S rfl rfl hcv
    have HD2 := Lib.hid hdg
    have hgr := der_graph hcv
    rw [HN.out] at hgr
    rw [hcv] at HIC
    have hlen : (derR S xss ts n).length ≤ 40 := by
      rw [derR_len]
      have hn := HN.out
      exact Nat.mul_le_mul (show n ≤ 10 by omega) (show S ≤ 4 by omega)
    obtain ⟨P, hP⟩ : ∃ P, P = derOf (s' : Int) xss (S : Int) ts := ⟨_, rfl⟩
    rw [← hP]
    have HPE := Lib.hid hP
    clear hdg HDG hg hg4 hs8 hS1 hS4 hP
    go_enter Try.func49, Try.ntmps49
    go_wp2_with fail
    refine calls_gen (fun W => Below w.heap.size w W ∧ BoxG W y (.int .i64 0) (.slice none 0 0) ∧ W.cell? ⟨w.heap.size, 0, none⟩ = some (.int .i64 (s' : Int)) ∧ W.cell? ⟨w.heap.size, 1, none⟩ = some (.slice a n c) ∧ W.cell? ⟨w.heap.size, 2, none⟩ = some (.int .i64 (S : Int)) ∧ W.cell? ⟨w.heap.size, 3, none⟩ = some (.slice ta tn tc)) ⟨hb0 _ _, ⟨by rw [hy]; simp, by rw [hy]; go_simp, by rw [hy]; go_simp, by rw [hy]; go_simp, by rw [hy]; go_simp⟩, by go_simp, by go_simp, by go_simp, by go_simp⟩ ?_
    rw [← hy]
    have hyw : w.heap.size < y := by omega
    clear hy
    rintro W ⟨hB, hY, k0, k1, k2, k3⟩
    refine (HIC.out W hB).mono ?_
    rintro e w1 ⟨rfl, b1⟩
    replace hB := hB.next b1
    replace hY := hY.below b1
    replace k0 := b1.keep k0
    replace k1 := b1.keep k1
    replace k2 := b1.keep k2
    replace k3 := b1.keep k3
    clear b1
    go_wp2_with fail
    refine (HD2.out w1 hB).mono ?_
    clear k0 k1 k2 k3
    rintro e w2 ⟨a', c', rfl, o2, b2⟩
    have hsz1 : w.heap.size ≤ w1.heap.size := hB.size
    have hyw1 : y < w1.heap.size := hY.lt
    replace hB := hB.next b2
    replace hY := hY.below b2
    have hbA := (Below.refl w2.heap.size w2).alloc (Nat.le_refl _) (.cells #[.int .i64 ((s' : Int) * (S : Int)), .slice a' (derR S xss ts n).length c'] 29)
    have HO := Lib.hid (⟨o2.below hbA, hB.next hbA, hY.below hbA, hbA.size⟩ : _ ∧ _ ∧ _ ∧ _)
    generalize hrows : derR S xss ts n = rows at *
    clear b2 o2 hB hY hbA
    go_wp2_with fail
    have j0 : (w2.alloc (.cells #[.int .i64 ((s' : Int) * (S : Int)), .slice a' rows.length c'] 29)).cell? ⟨w2.heap.size, 0, none⟩ = some (.int .i64 ((s' : Int) * (S : Int))) := by go_simp
    have j1 : (w2.alloc (.cells #[.int .i64 ((s' : Int) * (S : Int)), .slice a' rows.length c'] 29)).cell? ⟨w2.heap.size, 1, none⟩ = some (.slice a' rows.length c') := by go_simp
    generalize w2.alloc (.cells #[.int .i64 ((s' : Int) * (S : Int)), .slice a' rows.length c'] 29) = V at HO j0 j1 ⊢
    refine (implIsGraph ((s' : Int) * (S : Int)) a' rows.length c' rows V HO.out.1.rd rfl).mono ?_
    rw [hgr]
    rintro e w3 ⟨rfl, b3⟩
    replace j0 := b3.keep j0
    replace j1 := b3.keep j1
    obtain ⟨o2, hB, hY, hVs⟩ := HO.out
    replace hB := hB.next b3
    replace hY := hY.below b3
    have o3 := o2.below b3
    have hs3 : w2.heap.size ≤ w3.heap.size := Nat.le_trans hVs b3.size
    have hyl := hY.lt
    clear b3 HO o2 hgr hVs
    by_cases hbd : (s' : Int) * (S : Int) ≤ 8 ∧ (n : Int) * (S : Int) ≤ 10
    · have hpe := HPE.out
      rw [derOf_yes hcv (by rw [HN.out]; exact hbd), HN.out, hrows] at hpe
      have hP := hY.put (.int .i64 ((s' : Int) * (S : Int))) (.slice a' rows.length c')
      have hch := chgG w3 y (.int .i64 ((s' : Int) * (S : Int))) (.slice a' rows.length c')
      have hdc : decide ((s' : Int) * (S : Int) ≤ 8 ∧ (n : Int) * (S : Int) ≤ 10) = true := by simpa using hbd
      have HF := Lib.hid (⟨hpe, (o3.chg hch (.inr (by omega))).mono hsz1 (by rw [World.size_setCell, World.size_setCell]; exact hs3), hB.chgn hch (by omega) (by omega), hP⟩ : _ ∧ OwR w.heap.size ((w3.setCell ⟨y, 0, none⟩ (.int .i64 ((s' : Int) * (S : Int)))).setCell ⟨y, 1, none⟩ (.slice a' rows.length c')).heap.size _ _ _ ∧ _ ∧ _)
      obtain ⟨_, c0, c1, f0, f1⟩ := hY
      rw [hdc]
      clear hpe hP hch hdc hbd o3 hB hcv hrows hs3 hsz1
      go_wp2
      obtain ⟨p1, p2, p3, v0, v1⟩ := HF.out
      refine bodyPost_ret (v := .tuple #[.agg #[.int .i64 ((s' : Int) * (S : Int)), .slice a' rows.length c'], .int .i64 0]) (by simp [results, Try.results49, go_sem, v0, v1]) rfl ⟨a', c', by rw [p1], by rw [p1]; exact p2, p3⟩
    · have hpe := HPE.out
      rw [derOf_big hcv (by rw [HN.out]; exact hbd)] at hpe
      have hP := hY.put (.int .i64 0) (.slice none 0 0)
      have hch := chgG w3 y (.int .i64 0) (.slice none 0 0)
      have hdc : decide ((s' : Int) * (S : Int) ≤ 8 ∧ (n : Int) * (S : Int) ≤ 10) = false := by simpa using hbd
      have HF := Lib.hid (⟨hpe, hB.chgn hch (by omega) (by omega), hP⟩ : _ ∧ _ ∧ _)
      obtain ⟨_, c0, c1, f0, f1⟩ := hY
      rw [hdc]
      clear hpe hP hch hdc hbd o3 hB hcv hrows hs3 hsz1
      go_wp2
      obtain ⟨p1, p3, v0, v1⟩ := HF.out
      refine bodyPost_ret (v := .tuple #[.agg #[.int .i64 0, .slice none 0 0], .int .i64 3]) (by simp [results, Try.results49, go_sem, v0, v1]) rfl ⟨none, 0, by rw [p1]; rfl, by rw [p1]; exact OwR.nil (World.ownsRow_nil _ _ _ _) (Nat.le_refl _), p3⟩

end Go.Proofs.Ytlahfglblgppgaa
