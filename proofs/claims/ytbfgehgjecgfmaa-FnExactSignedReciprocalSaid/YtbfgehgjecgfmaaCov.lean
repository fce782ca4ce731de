/- The laws' helpers on covers: sizes, copies, equality, marks. -/
import Derived.Test.YtbfgehgjecgfmaaCoreA
import Derived.Test.YtbfgehgjecgfmaaCoreB
set_option linter.unusedSimpArgs false
set_option linter.unusedVariables false
set_option maxRecDepth 100000
namespace Go.Proofs.Ytbfgehgjecgfmaa
open Go.RowKit

theorem szC {lo hi lo' hi' : Nat} (s : Int) (a : Option Addr) (n c : Nat) (xss : List (List Int)) (sh : Int) (ta : Option Addr) (tn tc : Nat) (ts : List (List Int)) (l : Int) (h0 : 0 ≤ l) (h1 : l ≤ 1048576) (w : World)
    (h : RdR lo hi w (.slice a n c) xss) (hn : xss.length = n) (h' : RdR lo' hi' w (.slice ta tn tc) ts) (hn' : ts.length = tn) :
    Calls Try.prog 33 #[.agg #[.int .i64 s, .slice a n c, .int .i64 sh, .slice ta tn tc], .int .i64 l] w fun e w' => SzQ l (n + lens xss + (tn + lens ts)) e ∧ Below w.heap.size w w' := by
  have HN := Lib.hid hn
  have HN' := Lib.hid hn'
  clear hn hn'
  have hb0 : ∀ o, Below w.heap.size w (w.alloc o) := fun o => (Below.refl _ _).alloc (Nat.le_refl _) o
  go_enter Try.func33, Try.ntmps33
  go_wp2_with fail
  refine calls_gen (fun W => Below w.heap.size w W ∧ W.cell? ⟨w.heap.size, 3, none⟩ = some (.slice ta tn tc)) ⟨hb0 _, by go_simp⟩ ?_
  rintro W ⟨hb, k3⟩
  refine (szG s _ _ _ _ _ h0 h1 _ (h.below hb) HN.out).mono ?_
  rintro e w1 ⟨⟨r, hr, rfl⟩, b1⟩
  replace k3 := b1.keep k3
  replace hb := hb.next b1
  rcases hr with rfl | ⟨hr, hr2⟩
  · go_wp2
    go_ret
    exact ⟨⟨_, .inl rfl, rfl⟩, hb⟩
  · have hp : ¬ r < 0 := by omega
    have hr3 : r ≤ 1048576 := by omega
    have HR := Lib.hid hr2
    clear hr2
    go_wp2_with fail
    refine (szR _ _ _ hr hr3 _ (h'.below hb)).mono ?_
    rintro e w2 ⟨⟨q, hq, rfl⟩, b2⟩
    rw [HN'.out] at hq
    replace hb := hb.qt b2
    rcases hq with rfl | ⟨hq, hq2⟩
    · go_wp2
      go_ret
      exact ⟨⟨_, .inl rfl, rfl⟩, hb⟩
    · have hp : ¬ q < 0 := by omega
      have HQ := Lib.hid hq2
      clear hq2
      go_wp2
      go_ret
      exact ⟨⟨_, .inr ⟨hq, by have := HR.out; have := HQ.out; omega⟩, rfl⟩, hb⟩

theorem toC {lo hi lo' hi' : Nat} (s : Int) (a : Option Addr) (n c : Nat) (xss : List (List Int)) (sh : Int) (ta : Option Addr) (tn tc : Nat) (ts : List (List Int)) (w : World)
    (h : RdR lo hi w (.slice a n c) xss) (hhi : hi ≤ w.heap.size) (h' : RdR lo' hi' w (.slice ta tn tc) ts) (hhi' : hi' ≤ w.heap.size) :
    Calls Try.prog 35 #[.agg #[.int .i64 s, .slice a n c, .int .i64 sh, .slice ta tn tc]] w fun e w' => ∃ a' c' ta' tc' m, e = .returned (.agg #[.int .i64 s, .slice a' xss.length c', .int .i64 sh, .slice ta' ts.length tc']) ∧
      w.heap.size ≤ m ∧ m ≤ w'.heap.size ∧ OwR w.heap.size m w' (.slice a' xss.length c') xss ∧ OwR m w'.heap.size w' (.slice ta' ts.length tc') ts ∧ Below w.heap.size w w' := by
  have hb0 : ∀ o, Below w.heap.size w (w.alloc o) := fun o => (Below.refl _ _).alloc (Nat.le_refl _) o
  go_enter Try.func35, Try.ntmps35
  go_wp2_with fail
  obtain ⟨R, hR⟩ : ∃ R, R = w.heap.size + 1 := ⟨_, rfl⟩
  obtain ⟨X, hX⟩ : ∃ X, X = w.heap.size + 1 + 1 := ⟨_, rfl⟩
  refine calls_gen (fun W => Below w.heap.size w W ∧ W.heap.size = w.heap.size + 1 + 1 + 1 ∧ W.cell? ⟨w.heap.size, 2, none⟩ = some (.int .i64 sh) ∧ W.cell? ⟨w.heap.size, 3, none⟩ = some (.slice ta tn tc) ∧
    (W.cell? ⟨R, 0, none⟩ = some (.int .i64 0) ∧ W.cell? ⟨R, 1, none⟩ = some (.slice none 0 0) ∧ W.cell? ⟨R, 2, none⟩ = some (.int .i64 0) ∧ W.cell? ⟨R, 3, none⟩ = some (.slice none 0 0)) ∧
    (W.cell? ⟨X, 0, none⟩ = some (.int .i64 0) ∧ W.cell? ⟨X, 1, none⟩ = some (.slice none 0 0) ∧ W.cell? ⟨X, 2, none⟩ = some (.int .i64 0) ∧ W.cell? ⟨X, 3, none⟩ = some (.slice none 0 0)) ∧
    (W.frozen? ⟨R, 0, none⟩ = false ∧ W.frozen? ⟨R, 1, none⟩ = false ∧ W.frozen? ⟨R, 2, none⟩ = false ∧ W.frozen? ⟨R, 3, none⟩ = false) ∧
    (W.frozen? ⟨X, 0, none⟩ = false ∧ W.frozen? ⟨X, 1, none⟩ = false ∧ W.frozen? ⟨X, 2, none⟩ = false ∧ W.frozen? ⟨X, 3, none⟩ = false))
    ⟨?_, ?_, ?_, ?_, ⟨?_, ?_, ?_, ?_⟩, ⟨?_, ?_, ?_, ?_⟩, ⟨?_, ?_, ?_, ?_⟩, ⟨?_, ?_, ?_, ?_⟩⟩ ?_
  · exact (((Below.refl _ _).alloc (Nat.le_refl _) _).alloc (by simp) _).alloc (by simp; omega) _
  · simp
  iterate 18 (first | (rw [hR]; go_simp) | (rw [hX]; go_simp) | go_simp)
  rw [← hX, ← hR]
  rintro W ⟨hbW, hsz, k2, k3, ⟨c0, c1, c2, c3⟩, ⟨d0, d1, d2, d3⟩, ⟨f0, f1, f2, f3⟩, ⟨e0, e1, e2, e3⟩⟩
  have hsz1 : R < W.heap.size := by omega
  have hsz2 : X < W.heap.size := by omega
  have hne : w.heap.size < R ∧ R < X := by omega
  clear hsz hR hX
  refine (toG s a n c _ _ (h.below hbW) (by have := hbW.size; omega)).mono ?_
  rintro e w1 ⟨a', c', rfl, o1, b1⟩
  replace k2 := b1.keep k2
  replace k3 := b1.keep k3
  replace c0 := b1.keep c0
  replace c1 := b1.keep c1
  replace c2 := b1.keep c2
  replace c3 := b1.keep c3
  replace d0 := b1.keep d0
  replace d1 := b1.keep d1
  replace d2 := b1.keep d2
  replace d3 := b1.keep d3
  replace f0 := b1.keepf hsz1 f0
  replace f1 := b1.keepf hsz1 f1
  replace f2 := b1.keepf hsz1 f2
  replace f3 := b1.keepf hsz1 f3
  replace e0 := b1.keepf hsz2 e0
  replace e1 := b1.keepf hsz2 e1
  replace e2 := b1.keepf hsz2 e2
  replace e3 := b1.keepf hsz2 e3
  have hb1 := hbW.next b1
  have hz1 := b1.size
  have hzW := hbW.size
  have hneq : ¬ w.heap.size = X ∧ ¬ X = w.heap.size ∧ ¬ R = X ∧ ¬ X = R ∧ ¬ w.heap.size = R ∧ ¬ R = w.heap.size := by omega
  obtain ⟨q1, q2, q3, q4, q5, q6⟩ := hneq
  clear b1
  go_wp2_with fail
  refine calls_gen (fun V => Chg X (X+1) w1 V ∧ V.heap.size = w1.heap.size ∧ V.cell? ⟨X, 0, none⟩ = some (.int .i64 s) ∧ V.cell? ⟨X, 1, none⟩ = some (.slice a' xss.length c') ∧ V.cell? ⟨X, 2, none⟩ = some (.int .i64 sh) ∧ V.cell? ⟨X, 3, none⟩ = some (.slice none 0 0) ∧ V.frozen? ⟨X, 3, none⟩ = false)
    ⟨?_, ?_, ?_, ?_, ?_, ?_, ?_⟩ ?_
  · exact (((Chg.refl _ _ _).setCell (by constructor <;> simp) _).setCell (by constructor <;> simp) _).setCell (by constructor <;> simp) _
  · simp [World.setCell]
  · go_simp
  · go_simp
  · go_simp
  · go_simp
  · go_simp
  rintro V ⟨hch, hzV, m0, m1, m2, m3, n3⟩
  have hbV : Below w.heap.size w V := hb1.chgn hch (by omega) (by omega)
  have o1V := o1.chg hch (.inr (by omega))
  refine (toR _ _ _ (h'.below hbV) (by omega)).mono ?_
  rintro e w2 ⟨ta', tc', rfl, o2, b2⟩
  have hb2 := hbV.next b2
  replace c0 := b2.keep (hch.cell c0 (by simp <;> omega))
  replace c1 := b2.keep (hch.cell c1 (by simp <;> omega))
  replace c2 := b2.keep (hch.cell c2 (by simp <;> omega))
  replace c3 := b2.keep (hch.cell c3 (by simp <;> omega))
  replace f0 := b2.keepf (by show R < _; omega) (hch.frozen (show R < _ by omega) (show R < X ∨ X + 1 ≤ R by omega) f0)
  replace f1 := b2.keepf (by show R < _; omega) (hch.frozen (show R < _ by omega) (show R < X ∨ X + 1 ≤ R by omega) f1)
  replace f2 := b2.keepf (by show R < _; omega) (hch.frozen (show R < _ by omega) (show R < X ∨ X + 1 ≤ R by omega) f2)
  replace f3 := b2.keepf (by show R < _; omega) (hch.frozen (show R < _ by omega) (show R < X ∨ X + 1 ≤ R by omega) f3)
  replace m0 := b2.keep m0
  replace m1 := b2.keep m1
  replace m2 := b2.keep m2
  replace m3 := b2.keep m3
  replace n3 := b2.keepf (by show X < _; omega) n3
  have o1W := o1V.below b2
  have hz2 := b2.size
  clear d0 d1 d2 d3 e0 e1 e2 e3
  go_wp2
  refine bodyPost_ret (v := .agg #[.int .i64 s, .slice a' xss.length c', .int .i64 sh, .slice ta' ts.length tc']) (by simp [results, Try.results35, go_sem, c0, c1, c2, c3, q3, q4, q5, q6]) rfl ⟨a', c', ta', tc', w1.heap.size, rfl, by omega, by simp [World.setCell]; omega, ?_, ?_, ?_⟩
  · refine (OwR.chg (lo' := R) (hi' := W.heap.size) o1W ?_ (.inr (Nat.le_refl _))).mono hzW (Nat.le_refl _)
    repeat (refine Chg.setCell ?_ (by constructor <;> simp <;> omega) _)
    exact Chg.refl _ _ _
  · refine (OwR.chg (lo' := R) (hi' := W.heap.size) o2 ?_ (.inr (by omega))).mono (by omega) (by simp [World.setCell])
    repeat (refine Chg.setCell ?_ (by constructor <;> simp <;> omega) _)
    exact Chg.refl _ _ _
  · repeat (refine Below.setCell ?_ (by simp <;> omega) _)
    exact hb2

theorem toC' {lo hi lo' hi' : Nat} (s : Int) (a : Option Addr) (n c : Nat) (xss : List (List Int)) (sh : Int) (ta : Option Addr) (tn tc : Nat) (ts : List (List Int)) (w0 w : World) (hb : Below w0.heap.size w0 w)
    (h : RdR lo hi w0 (.slice a n c) xss) (hhi : hi ≤ w0.heap.size) (h' : RdR lo' hi' w0 (.slice ta tn tc) ts) (hhi' : hi' ≤ w0.heap.size) :
    Calls Try.prog 35 #[.agg #[.int .i64 s, .slice a n c, .int .i64 sh, .slice ta tn tc]] w fun e w' => ∃ a' c' ta' tc' m, e = .returned (.agg #[.int .i64 s, .slice a' xss.length c', .int .i64 sh, .slice ta' ts.length tc']) ∧
      w.heap.size ≤ m ∧ m ≤ w'.heap.size ∧ OwR w.heap.size m w' (.slice a' xss.length c') xss ∧ OwR m w'.heap.size w' (.slice ta' ts.length tc') ts ∧ Below w.heap.size w w' :=
  toC s a n c xss sh ta tn tc ts w (h.below hb) (Nat.le_trans hhi hb.size) (h'.below hb) (Nat.le_trans hhi' hb.size)

theorem eqC1 {lo hi lo' hi' lo2 hi2 lo3 hi3 : Nat} (s : Int) (a a' : Option Addr) (n c n' c' : Nat) (xss : List (List Int)) (sh : Int) (ta ta' : Option Addr) (tn tc tn' tc' : Nat) (ts : List (List Int)) (w0 w : World) (hb : Below w0.heap.size w0 w)
    (h : RdR lo hi w0 (.slice a n c) xss) (h2 : RdR lo2 hi2 w0 (.slice ta tn tc) ts) (h' : RdR lo' hi' w (.slice a' n' c') xss) (h3 : RdR lo3 hi3 w (.slice ta' tn' tc') ts) :
    Calls Try.prog 37 #[.agg #[.int .i64 s, .slice a n c, .int .i64 sh, .slice ta tn tc], .agg #[.int .i64 s, .slice a' n' c', .int .i64 sh, .slice ta' tn' tc']] w fun e w' => e = .returned (.bool true) ∧ Below w.heap.size w w' := by
  replace h := h.below hb
  replace h2 := h2.below hb
  have hb0 : ∀ o o', Below w.heap.size w ((w.alloc o).alloc o') := fun o o' => ((Below.refl _ _).alloc (Nat.le_refl _) o).alloc (by simp) o'
  have hsh : (sh != sh) = false := by simp
  go_enter Try.func37, Try.ntmps37
  go_wp2_with fail
  refine calls_gen (fun W => Below w.heap.size w W ∧ W.cell? ⟨w.heap.size, 2, none⟩ = some (.int .i64 sh) ∧ W.cell? ⟨w.heap.size, 3, none⟩ = some (.slice ta tn tc) ∧ W.cell? ⟨w.heap.size + 1, 2, none⟩ = some (.int .i64 sh) ∧ W.cell? ⟨w.heap.size + 1, 3, none⟩ = some (.slice ta' tn' tc')) ⟨hb0 _ _, by go_simp, by go_simp, by go_simp, by go_simp⟩ ?_
  rintro W ⟨hbW, k2, k3, j2, j3⟩
  refine (eqG1 s _ _ _ _ _ _ _ W W (Below.refl _ _) (h.below hbW) (h'.below hbW)).mono ?_
  rintro e w1 ⟨rfl, b1⟩
  replace k2 := b1.keep k2
  replace k3 := b1.keep k3
  replace j2 := b1.keep j2
  replace j3 := b1.keep j3
  have hb1 := hbW.next b1
  go_wp2_with fail
  refine (eqR1 _ _ _ _ (h2.below hb1) (h3.below hb1)).mono ?_
  rintro e w2 ⟨rfl, b2⟩
  have hb2 := hb1.qt b2
  go_wp2
  go_ret
  exact ⟨rfl, hb2⟩

theorem markC {lo hi lo' hi' : Nat} (s : Int) (a : Option Addr) (n c : Nat) (xss : List (List Int)) (sh : Int) (ta : Option Addr) (tn tc : Nat) (ts : List (List Int)) (k : Int) (w : World)
    (h : OwR lo hi w (.slice a n c) xss) (h' : OwR lo' hi' w (.slice ta tn tc) ts) (hd : hi ≤ lo') (hk0 : 0 ≤ k) (hk1 : k + lens xss + lens ts ≤ 17592186044416) (hhi : hi' ≤ w.heap.size) (hlo : lo ≤ hi) (hlo' : lo' ≤ hi') :
    Calls Try.prog 38 #[.agg #[.int .i64 s, .slice a n c, .int .i64 sh, .slice ta tn tc], .int .i64 k] w fun e w' => e = .returned (.int .i64 (k + lens xss + lens ts)) ∧ OwR lo hi w' (.slice a n c) (marksR k xss) ∧ OwR lo' hi' w' (.slice ta tn tc) (marksR (k + lens xss) ts) ∧ Chg lo hi' w w' := by
  have hb0 : ∀ o, Below w.heap.size w (w.alloc o) := fun o => (Below.refl _ _).alloc (Nat.le_refl _) o
  go_enter Try.func38, Try.ntmps38
  go_wp2_with fail
  refine calls_gen (fun W => Below w.heap.size w W ∧ w.heap.size < W.heap.size ∧ W.cell? ⟨w.heap.size, 3, none⟩ = some (.slice ta tn tc)) ⟨hb0 _, by simp, by go_simp⟩ ?_
  rintro W ⟨hbW, hsW, k3⟩
  refine (markG s _ _ _ _ _ _ (h.below hbW) hk0 (by omega) (by omega)).mono ?_
  rintro e w1 ⟨rfl, o1, c1⟩
  replace k3 := c1.cell k3 (by simp <;> omega)
  have ho' := (h'.below hbW).chg c1 (.inr hd)
  have hs1 := c1.size
  go_wp2_with fail
  refine (markR _ _ _ _ ho' (by omega) (by omega)).mono ?_
  rintro e w2 ⟨rfl, o2, c2⟩
  have o3 := o1.chg c2 (.inl hd)
  have hch : Chg lo hi' w w2 := ((hbW.chg lo hi').trans (c1.mono (Nat.le_refl _) (by omega))).trans (c2.mono (by omega) (Nat.le_refl _))
  go_wp2
  go_ret
  exact ⟨rfl, o3, o2, hch⟩

end Go.Proofs.Ytbfgehgjecgfmaa
