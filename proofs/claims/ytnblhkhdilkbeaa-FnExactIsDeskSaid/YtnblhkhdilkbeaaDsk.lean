/- The laws' helpers on desks: sizes, copies, equality. -/
import Derived.Test.YtnblhkhdilkbeaaCoreA
import Derived.Test.YtnblhkhdilkbeaaCoreB
set_option linter.unusedSimpArgs false
set_option linter.unusedVariables false
set_option maxRecDepth 100000
namespace Go.Proofs.Ytnblhkhdilkbeaa
open Go.RowKit

theorem szD {lo hi lo' hi' lo2 hi2 : Nat} (s : Int) (a : Option Addr) (n c : Nat) (xss : List (List Int)) (sa : Option Addr) (sn sc : Nat) (ss : List Int) (ca : Option Addr) (cn cc : Nat) (cs : List Int) (l : Int) (h0 : 0 ≤ l) (h1 : l ≤ 1048576) (w : World)
    (h : RdR lo hi w (.slice a n c) xss) (hn : xss.length = n) (h' : RdI lo' hi' w (.slice sa sn sc) ss) (h2 : RdI lo2 hi2 w (.slice ca cn cc) cs) :
    Calls Try.prog 13 #[.agg #[.int .i64 s, .slice a n c, .slice sa sn sc, .slice ca cn cc], .int .i64 l] w fun e w' => SzQ l (n + lens xss + (ss.length + cs.length)) e ∧ Below w.heap.size w w' := by
  have HN := Lib.hid hn
  clear hn
  have hb0 : ∀ o, Below w.heap.size w (w.alloc o) := fun o => (Below.refl _ _).alloc (Nat.le_refl _) o
  go_enter Try.func13, Try.ntmps13
  go_wp2_with fail
  refine calls_gen (fun W => Below w.heap.size w W ∧ W.cell? ⟨w.heap.size, 2, none⟩ = some (.slice sa sn sc) ∧ W.cell? ⟨w.heap.size, 3, none⟩ = some (.slice ca cn cc)) ⟨hb0 _, by go_simp, by go_simp⟩ ?_
  rintro W ⟨hb, k2, k3⟩
  refine (szG s _ _ _ _ _ h0 h1 _ (h.below hb) HN.out).mono ?_
  rintro e w1 ⟨⟨r, hr, rfl⟩, b1⟩
  replace k2 := b1.keep k2
  replace k3 := b1.keep k3
  replace hb := hb.next b1
  rcases hr with rfl | ⟨hr, hr2⟩
  · go_wp2
    go_ret
    exact ⟨⟨_, .inl rfl, rfl⟩, hb⟩
  · have hp : ¬ r < 0 := by omega
    have hr3 : r ≤ 1048576 := by omega
    have HR := Lib.hid hr2
    clear hr2
    go_wp2_with fail
    refine (szI _ _ _ hr hr3 _ (h'.below hb)).mono ?_
    rintro e w2 ⟨rfl, b2⟩
    replace k2 := b2.cell k2
    replace k3 := b2.cell k3
    replace hb := hb.qt b2
    by_cases hq : r < (ss.length : Int)
    · rw [if_pos hq]
      go_wp2
      go_ret
      exact ⟨⟨_, .inl rfl, rfl⟩, hb⟩
    · rw [if_neg hq]
      obtain ⟨q, hqe⟩ : ∃ q, q = r - (ss.length : Int) := ⟨_, rfl⟩
      rw [← hqe]
      have hq0 : 0 ≤ q := by omega
      have hq1 : q ≤ 1048576 := by omega
      have hp2 : ¬ q < 0 := by omega
      have HQ := Lib.hid hqe
      clear hqe
      go_wp2_with fail
      refine (szI _ _ _ hq0 hq1 _ (h2.below hb)).mono ?_
      rintro e w3 ⟨rfl, b3⟩
      replace hb := hb.qt b3
      by_cases hz : q < (cs.length : Int)
      · rw [if_pos hz]
        go_wp2
        go_ret
        exact ⟨⟨_, .inl rfl, rfl⟩, hb⟩
      · rw [if_neg hz]
        obtain ⟨z, hze⟩ : ∃ z, z = q - (cs.length : Int) := ⟨_, rfl⟩
        rw [← hze]
        have hz0 : 0 ≤ z := by omega
        have hp3 : ¬ z < 0 := by omega
        have HZ := Lib.hid hze
        clear hze
        go_wp2
        go_ret
        exact ⟨⟨_, .inr ⟨hz0, by have := HR.out; have := HQ.out; have := HZ.out; omega⟩, rfl⟩, hb⟩

theorem toD {lo hi lo' hi' lo2 hi2 : Nat} (s : Int) (a : Option Addr) (n c : Nat) (xss : List (List Int)) (sa : Option Addr) (sn sc : Nat) (ss : List Int) (ca : Option Addr) (cn cc : Nat) (cs : List Int) (w : World)
    (h : RdR lo hi w (.slice a n c) xss) (hhi : hi ≤ w.heap.size) (h' : RdI lo' hi' w (.slice sa sn sc) ss) (h2 : RdI lo2 hi2 w (.slice ca cn cc) cs) :
    Calls Try.prog 15 #[.agg #[.int .i64 s, .slice a n c, .slice sa sn sc, .slice ca cn cc]] w fun e w' => ∃ a' c' sa' sc' ca' cc' m, e = .returned (.agg #[.int .i64 s, .slice a' xss.length c', .slice sa' ss.length sc', .slice ca' cs.length cc']) ∧
      w.heap.size ≤ m ∧ m ≤ w'.heap.size ∧ OwR w.heap.size m w' (.slice a' xss.length c') xss ∧ OwI m w'.heap.size w' (.slice sa' ss.length sc') ss ∧ OwI m w'.heap.size w' (.slice ca' cs.length cc') cs ∧ Below w.heap.size w w' := by
  have hb0 : ∀ o, Below w.heap.size w (w.alloc o) := fun o => (Below.refl _ _).alloc (Nat.le_refl _) o
  go_enter Try.func15, Try.ntmps15
  go_wp2_with fail
  obtain ⟨R, hR⟩ : ∃ R, R = w.heap.size + 1 := ⟨_, rfl⟩
  obtain ⟨X, hX⟩ : ∃ X, X = w.heap.size + 1 + 1 := ⟨_, rfl⟩
  refine calls_gen (fun W => Below w.heap.size w W ∧ W.heap.size = w.heap.size + 1 + 1 + 1 ∧ W.cell? ⟨w.heap.size, 2, none⟩ = some (.slice sa sn sc) ∧ W.cell? ⟨w.heap.size, 3, none⟩ = some (.slice ca cn cc) ∧
    (W.cell? ⟨R, 0, none⟩ = some (.int .i64 0) ∧ W.cell? ⟨R, 1, none⟩ = some (.slice none 0 0) ∧ W.cell? ⟨R, 2, none⟩ = some (.slice none 0 0) ∧ W.cell? ⟨R, 3, none⟩ = some (.slice none 0 0)) ∧
    (W.cell? ⟨X, 0, none⟩ = some (.int .i64 0) ∧ W.cell? ⟨X, 1, none⟩ = some (.slice none 0 0) ∧ W.cell? ⟨X, 2, none⟩ = some (.slice none 0 0) ∧ W.cell? ⟨X, 3, none⟩ = some (.slice none 0 0)) ∧
    (W.frozen? ⟨R, 0, none⟩ = false ∧ W.frozen? ⟨R, 1, none⟩ = false ∧ W.frozen? ⟨R, 2, none⟩ = false ∧ W.frozen? ⟨R, 3, none⟩ = false) ∧
    (W.frozen? ⟨X, 0, none⟩ = false ∧ W.frozen? ⟨X, 1, none⟩ = false ∧ W.frozen? ⟨X, 2, none⟩ = false ∧ W.frozen? ⟨X, 3, none⟩ = false))
    ⟨?_, ?_, ?_, ?_, ⟨?_, ?_, ?_, ?_⟩, ⟨?_, ?_, ?_, ?_⟩, ⟨?_, ?_, ?_, ?_⟩, ⟨?_, ?_, ?_, ?_⟩⟩ ?_
  · exact (((Below.refl _ _).alloc (Nat.le_refl _) _).alloc (by simp) _).alloc (by simp; omega) _
  · simp
  iterate 18 (first | (rw [hR]; go_simp) | (rw [hX]; go_simp) | go_simp)
  rw [← hX, ← hR]
  rintro W ⟨hbW, hsz, k2, k3, ⟨c0, c1, c2, c3⟩, ⟨d0, d1, d2, d3⟩, ⟨f0, f1, f2, f3⟩, ⟨e0, e1, e2, e3⟩⟩
  have hsz1 : R < W.heap.size := by omega
  have hsz2 : X < W.heap.size := by omega
  have hne : w.heap.size < R ∧ R < X := by omega
  clear hsz hR hX
  refine (toG s a n c _ _ (h.below hbW) (by have := hbW.size; omega)).mono ?_
  rintro e w1 ⟨a', c', rfl, o1, b1⟩
  replace k2 := b1.keep k2
  replace k3 := b1.keep k3
  replace c0 := b1.keep c0
  replace c1 := b1.keep c1
  replace c2 := b1.keep c2
  replace c3 := b1.keep c3
  replace d0 := b1.keep d0
  replace d1 := b1.keep d1
  replace d2 := b1.keep d2
  replace d3 := b1.keep d3
  replace f0 := b1.keepf hsz1 f0
  replace f1 := b1.keepf hsz1 f1
  replace f2 := b1.keepf hsz1 f2
  replace f3 := b1.keepf hsz1 f3
  replace e0 := b1.keepf hsz2 e0
  replace e1 := b1.keepf hsz2 e1
  replace e2 := b1.keepf hsz2 e2
  replace e3 := b1.keepf hsz2 e3
  have hb1 := hbW.next b1
  have hz1 := b1.size
  have hzW := hbW.size
  have hneq : ¬ w.heap.size = X ∧ ¬ X = w.heap.size ∧ ¬ R = X ∧ ¬ X = R ∧ ¬ w.heap.size = R ∧ ¬ R = w.heap.size := by omega
  obtain ⟨q1, q2, q3, q4, q5, q6⟩ := hneq
  clear b1
  go_wp2_with fail
  refine calls_gen (fun V => Chg X (X+1) w1 V ∧ V.heap.size = w1.heap.size ∧ V.cell? ⟨X, 0, none⟩ = some (.int .i64 s) ∧ V.cell? ⟨X, 1, none⟩ = some (.slice a' xss.length c') ∧ V.cell? ⟨X, 2, none⟩ = some (.slice none 0 0) ∧ V.cell? ⟨X, 3, none⟩ = some (.slice none 0 0) ∧ V.frozen? ⟨X, 2, none⟩ = false ∧ V.frozen? ⟨X, 3, none⟩ = false)
    ⟨?_, ?_, ?_, ?_, ?_, ?_, ?_, ?_⟩ ?_
  · exact ((Chg.refl _ _ _).setCell (by constructor <;> simp) _).setCell (by constructor <;> simp) _
  · simp [World.setCell]
  · go_simp
  · go_simp
  · go_simp
  · go_simp
  · go_simp
  · go_simp
  rintro V ⟨hch, hzV, m0, m1, m2, m3, n2, n3⟩
  have hbV : Below w.heap.size w V := hb1.chgn hch (by omega) (by omega)
  have o1V := o1.chg hch (.inr (by omega))
  have hXV : X < V.heap.size := by omega
  have hRV : R < V.heap.size := by omega
  refine (toI _ _ _ (h'.below hbV)).mono ?_
  rintro e w2 ⟨sa', sc', rfl, o2, b2⟩
  have hb2 := hbV.next b2
  replace k3 := b2.keep (hch.cell k3 (by simp <;> omega))
  replace c0 := b2.keep (hch.cell c0 (by simp <;> omega))
  replace c1 := b2.keep (hch.cell c1 (by simp <;> omega))
  replace c2 := b2.keep (hch.cell c2 (by simp <;> omega))
  replace c3 := b2.keep (hch.cell c3 (by simp <;> omega))
  replace f0 := b2.keepf (by show R < _; omega) (hch.frozen (show R < _ by omega) (show R < X ∨ X + 1 ≤ R by omega) f0)
  replace f1 := b2.keepf (by show R < _; omega) (hch.frozen (show R < _ by omega) (show R < X ∨ X + 1 ≤ R by omega) f1)
  replace f2 := b2.keepf (by show R < _; omega) (hch.frozen (show R < _ by omega) (show R < X ∨ X + 1 ≤ R by omega) f2)
  replace f3 := b2.keepf (by show R < _; omega) (hch.frozen (show R < _ by omega) (show R < X ∨ X + 1 ≤ R by omega) f3)
  replace m0 := b2.keep m0
  replace m1 := b2.keep m1
  replace m2 := b2.keep m2
  replace m3 := b2.keep m3
  replace n2 := b2.keepf (by show X < _; omega) n2
  replace n3 := b2.keepf (by show X < _; omega) n3
  have o1W := o1V.below b2
  have hz2 := b2.size
  clear d0 d1 d2 d3 e0 e1 e2 e3
  go_wp2_with fail
  refine calls_gen (fun V' => Chg X (X+1) w2 V' ∧ V'.heap.size = w2.heap.size ∧ V'.cell? ⟨X, 0, none⟩ = some (.int .i64 s) ∧ V'.cell? ⟨X, 1, none⟩ = some (.slice a' xss.length c') ∧ V'.cell? ⟨X, 2, none⟩ = some (.slice sa' ss.length sc') ∧ V'.cell? ⟨X, 3, none⟩ = some (.slice none 0 0) ∧ V'.frozen? ⟨X, 3, none⟩ = false)
    ⟨?_, ?_, ?_, ?_, ?_, ?_, ?_⟩ ?_
  · exact (Chg.refl _ _ _).setCell (by constructor <;> simp) _
  · simp [World.setCell]
  · go_simp
  · go_simp
  · go_simp
  · go_simp
  · go_simp
  clear m0 m1 m2 m3 n2 n3
  rintro V' ⟨hch2, hzV2, m0, m1, m2, m3, n3⟩
  have hbV2 : Below w.heap.size w V' := hb2.chgn hch2 (by omega) (by omega)
  have o1X := o1W.chg hch2 (.inr (by omega))
  have o2X := o2.chg hch2 (.inr (by omega))
  refine (toI _ _ _ (h2.below hbV2)).mono ?_
  rintro e w3 ⟨ca', cc', rfl, o3, b3⟩
  have hb3 := hbV2.next b3
  have hz3 := b3.size
  replace c0 := b3.keep (hch2.cell c0 (by simp <;> omega))
  replace c1 := b3.keep (hch2.cell c1 (by simp <;> omega))
  replace c2 := b3.keep (hch2.cell c2 (by simp <;> omega))
  replace c3 := b3.keep (hch2.cell c3 (by simp <;> omega))
  replace f0 := b3.keepf (by show R < _; omega) (hch2.frozen (show R < _ by omega) (show R < X ∨ X + 1 ≤ R by omega) f0)
  replace f1 := b3.keepf (by show R < _; omega) (hch2.frozen (show R < _ by omega) (show R < X ∨ X + 1 ≤ R by omega) f1)
  replace f2 := b3.keepf (by show R < _; omega) (hch2.frozen (show R < _ by omega) (show R < X ∨ X + 1 ≤ R by omega) f2)
  replace f3 := b3.keepf (by show R < _; omega) (hch2.frozen (show R < _ by omega) (show R < X ∨ X + 1 ≤ R by omega) f3)
  replace m0 := b3.keep m0
  replace m1 := b3.keep m1
  replace m2 := b3.keep m2
  replace m3 := b3.keep m3
  replace n3 := b3.keepf (by show X < _; omega) n3
  have o1Y := o1X.below b3
  have o2Y := o2X.below b3
  go_wp2
  refine bodyPost_ret (v := .agg #[.int .i64 s, .slice a' xss.length c', .slice sa' ss.length sc', .slice ca' cs.length cc']) (by simp [results, Try.results15, go_sem, c0, c1, c2, c3, q3, q4, q5, q6]) rfl ⟨a', c', sa', sc', ca', cc', w1.heap.size, rfl, by omega, by simp [World.setCell]; omega, ?_, ?_, ?_, ?_⟩
  · refine (OwR.chg (lo' := R) (hi' := W.heap.size) o1Y ?_ (.inr (Nat.le_refl _))).mono hzW (Nat.le_refl _)
    repeat (refine Chg.setCell ?_ (by constructor <;> simp <;> omega) _)
    exact Chg.refl _ _ _
  · refine (OwI.chg (lo' := R) (hi' := W.heap.size) o2Y ?_ (.inr (by omega))).mono (by omega) (by simp [World.setCell]; omega)
    repeat (refine Chg.setCell ?_ (by constructor <;> simp <;> omega) _)
    exact Chg.refl _ _ _
  · refine (OwI.chg (lo' := R) (hi' := W.heap.size) o3 ?_ (.inr (by omega))).mono (by omega) (by simp [World.setCell])
    repeat (refine Chg.setCell ?_ (by constructor <;> simp <;> omega) _)
    exact Chg.refl _ _ _
  · repeat (refine Below.setCell ?_ (by simp <;> omega) _)
    exact hb3

theorem toD' {lo hi lo' hi' lo2 hi2 : Nat} (s : Int) (a : Option Addr) (n c : Nat) (xss : List (List Int)) (sa : Option Addr) (sn sc : Nat) (ss : List Int) (ca : Option Addr) (cn cc : Nat) (cs : List Int) (w0 w : World) (hb : Below w0.heap.size w0 w)
    (h : RdR lo hi w0 (.slice a n c) xss) (hhi : hi ≤ w0.heap.size) (h' : RdI lo' hi' w0 (.slice sa sn sc) ss) (h2 : RdI lo2 hi2 w0 (.slice ca cn cc) cs) :
    Calls Try.prog 15 #[.agg #[.int .i64 s, .slice a n c, .slice sa sn sc, .slice ca cn cc]] w fun e w' => ∃ a' c' sa' sc' ca' cc' m, e = .returned (.agg #[.int .i64 s, .slice a' xss.length c', .slice sa' ss.length sc', .slice ca' cs.length cc']) ∧
      w.heap.size ≤ m ∧ m ≤ w'.heap.size ∧ OwR w.heap.size m w' (.slice a' xss.length c') xss ∧ OwI m w'.heap.size w' (.slice sa' ss.length sc') ss ∧ OwI m w'.heap.size w' (.slice ca' cs.length cc') cs ∧ Below w.heap.size w w' :=
  toD s a n c xss sa sn sc ss ca cn cc cs w (h.below hb) (Nat.le_trans hhi hb.size) (h'.below hb) (h2.below hb)

theorem eqD1 {lo hi lo' hi' lo2 hi2 lo3 hi3 lo4 hi4 lo5 hi5 : Nat} (s : Int) (a a' : Option Addr) (n c n' c' : Nat) (xss : List (List Int)) (sa sa' : Option Addr) (sn sc sn' sc' : Nat) (ss : List Int) (ca ca' : Option Addr) (cn cc cn' cc' : Nat) (cs : List Int) (w0 w : World) (hb : Below w0.heap.size w0 w)
    (h : RdR lo hi w0 (.slice a n c) xss) (h2 : RdI lo2 hi2 w0 (.slice sa sn sc) ss) (h4 : RdI lo4 hi4 w0 (.slice ca cn cc) cs) (h' : RdR lo' hi' w (.slice a' n' c') xss) (h3 : RdI lo3 hi3 w (.slice sa' sn' sc') ss) (h5 : RdI lo5 hi5 w (.slice ca' cn' cc') cs) :
    Calls Try.prog 17 #[.agg #[.int .i64 s, .slice a n c, .slice sa sn sc, .slice ca cn cc], .agg #[.int .i64 s, .slice a' n' c', .slice sa' sn' sc', .slice ca' cn' cc']] w fun e w' => e = .returned (.bool true) ∧ Below w.heap.size w w' := by
  replace h := h.below hb
  replace h2 := h2.below hb
  replace h4 := h4.below hb
  have hb0 : ∀ o o', Below w.heap.size w ((w.alloc o).alloc o') := fun o o' => ((Below.refl _ _).alloc (Nat.le_refl _) o).alloc (by simp) o'
  go_enter Try.func17, Try.ntmps17
  go_wp2_with fail
  refine calls_gen (fun W => Below w.heap.size w W ∧ (W.cell? ⟨w.heap.size, 2, none⟩ = some (.slice sa sn sc) ∧ W.cell? ⟨w.heap.size, 3, none⟩ = some (.slice ca cn cc)) ∧ W.cell? ⟨w.heap.size + 1, 2, none⟩ = some (.slice sa' sn' sc') ∧ W.cell? ⟨w.heap.size + 1, 3, none⟩ = some (.slice ca' cn' cc')) ⟨hb0 _ _, ⟨by go_simp, by go_simp⟩, by go_simp, by go_simp⟩ ?_
  rintro W ⟨hbW, ⟨k2, k3⟩, j2, j3⟩
  refine (eqG1 s _ _ _ _ _ _ _ W W (Below.refl _ _) (h.below hbW) (h'.below hbW)).mono ?_
  rintro e w1 ⟨rfl, b1⟩
  replace k2 := b1.keep k2
  replace k3 := b1.keep k3
  replace j2 := b1.keep j2
  replace j3 := b1.keep j3
  have hb1 := hbW.next b1
  go_wp2_with fail
  refine (eqI1 _ _ _ _ (h2.below hb1) (h3.below hb1)).mono ?_
  rintro e w2 ⟨rfl, b2⟩
  have hb2 := hb1.qt b2
  replace k3 := b2.cell k3
  replace j3 := b2.cell j3
  go_wp2_with fail
  refine (eqI1 _ _ _ _ (h4.below hb2) (h5.below hb2)).mono ?_
  rintro e w3 ⟨rfl, b3⟩
  have hb3 := hb2.qt b3
  go_wp2
  go_ret
  exact ⟨rfl, hb3⟩
end Go.Proofs.Ytnblhkhdilkbeaa
