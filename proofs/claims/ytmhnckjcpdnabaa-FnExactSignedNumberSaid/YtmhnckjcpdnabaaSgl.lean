/- SignedLaplacian by the program. -/
import Derived.Test.YtmhnckjcpdnabaaCoreL
import Derived.Test.YtmhnckjcpdnabaaDbl
import Derived.Deep.RegionHeld3
set_option linter.unusedSimpArgs false
set_option linter.unusedVariables false
set_option maxRecDepth 100000
namespace Go.Proofs.Ytmhnckjcpdnabaa
open Go.RowKit

def sb1 (f : Nat → Nat → Int) (i j : Nat) (y : Int) : Nat → Nat → Int := put f i j (wrap64 (f i j - y))
def slE (f : Nat → Nat → Int) (a b : Nat) (y : Int) : Nat → Nat → Int := sb1 (sb1 (up1 (up1 f a a) b b) a b y) b a y
def slS (es : List (Int × Int)) (ys : List Int) : Nat → Nat → Nat → Int
  | 0 => zeros
  | q + 1 => slE (slS es ys q) (es.getD q (0, 0)).1.toNat (es.getD q (0, 0)).2.toNat (ys.getD q 0)
theorem slS_step (es : List (Int × Int)) (ys : List Int) (q : Nat) : slS es ys (q + 1) = sb1 (sb1 (up1 (up1 (slS es ys q) (es.getD q (0, 0)).1.toNat (es.getD q (0, 0)).1.toNat) (es.getD q (0, 0)).2.toNat (es.getD q (0, 0)).2.toNat) (es.getD q (0, 0)).1.toNat (es.getD q (0, 0)).2.toNat (ys.getD q 0)) (es.getD q (0, 0)).2.toNat (es.getD q (0, 0)).1.toNat (ys.getD q 0) := rfl

set_option maxHeartbeats 6400000 in
theorem implSgl_yes {lo hi lo' hi' : Nat} (S : Nat) (a : Option Addr) (n c : Nat) (xss : List (List Int)) (aS : Option Addr) (nS cS : Nat) (ys : List Int) (w : World) (h : RdR lo hi w (.slice a n c) xss) (hn : xss.length = n) (hS : RdI lo' hi' w (.slice aS nS cS) ys) (hnS : ys.length = nS) (hd : dblCode (S : Int) xss ys = 0) :
    Calls Try.prog 22 #[.agg #[.int .i64 (S : Int), .slice a n c], .slice aS nS cS] w fun e w' => ∃ a' c', e = .returned (.tuple #[.slice a' S c', .int .i64 0]) ∧ OwR w.heap.size w'.heap.size w' (.slice a' S c') (tab S (slS (pairs xss) ys n)) ∧ Below w.heap.size w w' := by
  obtain ⟨hg, hyl, hys, _⟩ := dbl_ok hd
  have hSn : n = nS := by omega
  subst hSn
  have hg4 := grB_iff hg
  have hn10 : n ≤ 10 := by omega
  have hS8 : S ≤ 8 := by omega
  have HR := Lib.hid h
  have HS := Lib.hid (fun W' (hB : Below w.heap.size w W') => hS.below hB)
  have HSL := Lib.hid hnS
  have HI := Lib.hid (fun W' (hB : Below w.heap.size w W') => checkSigns (S : Int) a n c xss aS n cS ys W' (h.below hB) hn (hS.below hB) hnS)
  have HED := Lib.hid (fun W' (h' : RdR lo hi W' (.slice a n c) xss) => edgesOf (S : Int) a n c xss W' h' hg hn)
  have HG := Lib.hid hd
  have HPI := Lib.hid (show ∀ q, q < n → ∃ A B : Nat, (pairs xss).getD q (0, 0) = ((A : Int), (B : Int)) ∧ A < S ∧ B < S from fun q hq => by
    have := hg4.2.2.2 q (by omega)
    rw [pairs_getD]
    exact ⟨((xss.getD q []).getD 0 0).toNat, ((xss.getD q []).getD 1 0).toNat, by simp only [Prod.mk.injEq]; omega, by omega, by omega⟩)
  have hpl : (pairs xss).length = n := by rw [pairs_len, hn]
  generalize pairs xss = es at HED HPI hpl ⊢
  have HPL := Lib.hid hpl
  clear h hn hg hg4 hpl hS hnS hd hyl hys
  go_enter Try.func22, Try.ntmps22
  go_wp2_with fail
  refine calls_gen (fun W => Below w.heap.size w W ∧ w.heap.size < W.heap.size ∧ W.cell? ⟨w.heap.size, 0, none⟩ = some (.int .i64 (S : Int)) ∧ W.cell? ⟨w.heap.size, 1, none⟩ = some (.slice a n c)) ⟨(Below.refl _ _).alloc (Nat.le_refl _) _, by simp, by go_simp, by go_simp⟩ ?_
  rintro W ⟨hB, hzz, k0, k1⟩
  refine (HI.out W hB).mono ?_
  rw [HG.out]
  rintro e w1 ⟨rfl, b1⟩
  replace hB := hB.next b1
  replace k0 := b1.keep k0
  replace k1 := b1.keep k1
  replace hzz := Nat.lt_of_lt_of_le hzz b1.size
  clear b1 HG
  have hSi : (0 : Int) ≤ (S : Int) := by omega
  have hzr := zeroRows S w1 (by omega) (.inr (by omega))
  have HK := Lib.hid (⟨hB, k0, k1⟩ : _ ∧ _ ∧ _)
  clear hB k1
  go_wp2_with fail
  refine hzr.mono ?_
  clear hzr k0
  rintro e w4 ⟨v, rfl, o4, b4⟩
  obtain ⟨a9, c9, rfl⟩ := o4.rd.shape
  rw [tab_len] at o4 ⊢
  obtain ⟨hB, k0, k1⟩ := HK.out
  obtain ⟨L, hL⟩ : ∃ L, L = w1.heap.size := ⟨_, rfl⟩
  have hBL : w.heap.size ≤ L := by omega
  rw [← hL] at o4
  obtain ⟨H1, hH1⟩ : ∃ H, H = w4.heap.size := ⟨_, rfl⟩
  rw [← hH1] at o4
  have hLH : L ≤ H1 := by rw [hL, hH1]; exact b4.size
  replace hB := hB.next b4
  replace k0 := b4.keep k0
  replace k1 := b4.keep k1
  have HK4 := Lib.hid (⟨o4, hB, hH1⟩ : _ ∧ _ ∧ _)
  have hed := HED.out w4 (HR.out.below hB)
  clear o4 b4 hB hL hH1 hzz HK HED
  go_wp2_with fail
  refine hed.mono ?_
  clear hed k0 k1
  rintro e w5 ⟨a2, c2, rfl, o5, b5⟩
  have HLO := Lib.hid (show ∀ b, a2 = some (⟨b, 0, none⟩ : Addr) → H1 ≤ b from fun b e => by
    have := (o5.lt b (by rw [e]; rfl)).1; rw [HK4.out.2.2]; exact this)
  have HP0 := Lib.hid (⟨HK4.out.1.below b5, RdE.mk o5 HPL.out, HK4.out.2.1.next b5, by rw [HK4.out.2.2]; exact b5.size⟩ : OwR L H1 w5 (.slice a9 S c9) (tab S (slS es ys 0)) ∧ _ ∧ _ ∧ H1 ≤ w5.heap.size)
  clear o5 b5 HK4
  go_wp2
  go_loopw [22] (fun i wr => ∃ q : Nat, q ≤ n ∧ i = .int .i64 q ∧ OwR L H1 wr (.slice a9 S c9) (tab S (slS es ys q)) ∧ RdE wr a2 es ∧ Below w.heap.size w wr ∧ H1 ≤ wr.heap.size) (fun i _ => n - (intOf i).toNat)
  case atStart => exact ⟨0, Nat.zero_le _, rfl, HP0.out⟩
  case round =>
    clear HP0
    obtain ⟨q, hq, rfl, hO, hRE, hBl, hHz⟩ := hrel
    by_cases hlq : q < n
    · obtain ⟨d, rfl, hdw, x1, x2⟩ := hRE q (by rw [HPL.out]; exact hlq)
      obtain ⟨A, B, hAB, hA, hB⟩ := HPI.out q hlq
      obtain ⟨bS, oS, rfl, hs0⟩ := (HS.out w (Below.refl _ _)).at HSL.out q hlq
      have hst := slS_step es ys q
      generalize ys.getD q 0 = y at hs0 hst
      have HS0 := Lib.hid hs0
      rw [hAB] at x1 x2 hst
      dsimp only at x1 x2 hst
      rw [Int.toNat_natCast, Int.toNat_natCast] at hst
      have HST := Lib.hid hst
      generalize slS es ys q = f at hO hst HST
      have hAl := (Below.refl wr.heap.size wr).alloc (Nat.le_refl _) (.cells #[.int .i64 (A : Int), .int .i64 (B : Int)] 66)
      have u0 : (wr.alloc (.cells #[.int .i64 (A : Int), .int .i64 (B : Int)] 66)).cell? ⟨wr.heap.size, 0, none⟩ = some (.int .i64 (A : Int)) := by go_simp
      have u1 : (wr.alloc (.cells #[.int .i64 (A : Int), .int .i64 (B : Int)] 66)).cell? ⟨wr.heap.size, 1, none⟩ = some (.int .i64 (B : Int)) := by go_simp
      have HO := Lib.hid (⟨hO.below hAl, hRE.below hAl, HLO.out, hBl.next hAl, Nat.le_trans hHz hAl.size, u0, u1, hHz, hBL, hLH⟩ : LapI L H1 S a9 c9 wr.heap.size (A : Int) (B : Int) (some ⟨d, 0, none⟩) es w.heap.size w f _)
      clear hst hAB hO hRE hBl hAl hdw u0 u1
      go_wp2_with fail
      clear x1 x2
      have HO2 := Lib.hid HO.out
      generalize wr.alloc (.cells #[.int .i64 (A : Int), .int .i64 (B : Int)] 66) = V at HO HO2 ⊢
      clear HO
      obtain ⟨X, hX⟩ : ∃ X, X = wr.heap.size := ⟨_, rfl⟩
      rw [← hX] at HO2 ⊢
      clear hX
      have hBV : w.heap.size ≤ V.heap.size := Nat.le_trans hBL (Nat.le_trans hLH HO2.out.size)
      have u0 := HO2.out.c0
      have u1 := HO2.out.c1
      have HO3 := Lib.hid HO2.out
      have HFN := Lib.hid (HST.out)
      have hqI : (q : Int) < (n : Int) := by omega
      have hq0 : (0 : Int) ≤ (q : Int) := by omega
      clear u0 u1 hBV HO2 HST
      have hA0 : (0 : Int) ≤ (A : Int) := by omega
      have hA1 : (A : Int) < (S : Int) := by omega
      have hB0 : (0 : Int) ≤ (B : Int) := by omega
      have hB1 : (B : Int) < (S : Int) := by omega
      go_wp2_with fail
      obtain ⟨g4, b4, cb4, e4, r1, r2, r3, hput⟩ := HO3.out.bump (i := A) (j := A) hA hA
      subst e4
      have u0 := HO3.out.c0
      have u1 := HO3.out.c1
      obtain ⟨t, ht⟩ : ∃ t, t = wrap64 (f A A + 1) := ⟨_, rfl⟩
      have hfin := hput t (by rw [ht]; exact wrap_I64 _)
      rw [show put (f) A A t = up1 (f) A A from by rw [ht]; rfl] at hfin
      have t1 : IntKind.i64.wrap (f A A + 1) = t := by rw [IntWalk.i64_left, ht]
      have t2 : wrap64 (f A A + 1) = t := ht.symm
      generalize f A A = d0 at r2 t1 t2
      have H4 := Lib.hid hfin
      have d1 : V.drew.cell? ⟨g4, A, none⟩ = _ := r1
      have d2 : V.drew.cell? ⟨b4, A, none⟩ = _ := r2
      have d3 : V.drew.frozen? ⟨b4, A, none⟩ = _ := r3
      clear hput hfin ht HO3
      go_still_tail 11, (by kernel_rfl)
      change wpList _ _ _ _ _ V.drew
      clear u0 u1 t1 t2 r1 r2 r3
      generalize V.drew = Z4 at H4 d1 d2 d3 ⊢
      go_wp2_with fail
      clear d1 d2 d3
      generalize Z4.setCell _ _ = Y4 at H4 ⊢
      obtain ⟨g5, b5, cb5, e5, r1, r2, r3, hput⟩ := H4.out.bump (i := B) (j := B) hB hB
      obtain rfl : g4 = g5 := by simpa using e5
      have u0 := H4.out.c0
      have u1 := H4.out.c1
      obtain ⟨t, ht⟩ : ∃ t, t = wrap64 (up1 f A A B B + 1) := ⟨_, rfl⟩
      have hfin := hput t (by rw [ht]; exact wrap_I64 _)
      rw [show put (up1 f A A) B B t = up1 (up1 f A A) B B from by rw [ht]; rfl] at hfin
      have t1 : IntKind.i64.wrap (up1 f A A B B + 1) = t := by rw [IntWalk.i64_left, ht]
      have t2 : wrap64 (up1 f A A B B + 1) = t := ht.symm
      generalize up1 f A A B B = d0 at r2 t1 t2
      have H5 := Lib.hid hfin
      have d1 : Y4.drew.cell? ⟨g4, B, none⟩ = _ := r1
      have d2 : Y4.drew.cell? ⟨b5, B, none⟩ = _ := r2
      have d3 : Y4.drew.frozen? ⟨b5, B, none⟩ = _ := r3
      clear hput hfin ht H4
      go_still_tail 11, (by kernel_rfl)
      change wpList _ _ _ _ _ Y4.drew
      clear u0 u1 t1 t2 r1 r2 r3
      generalize Y4.drew = Z5 at H5 d1 d2 d3 ⊢
      go_wp2_with fail
      clear d1 d2 d3
      generalize Z5.setCell _ _ = Y5 at H5 ⊢
      obtain ⟨g6, b6, cb6, e6, r1, r2, r3, hput⟩ := H5.out.bump (i := A) (j := B) hA hB
      obtain rfl : g4 = g6 := by simpa using e6
      have u0 := H5.out.c0
      have u1 := H5.out.c1
      obtain ⟨t, ht⟩ : ∃ t, t = wrap64 (up1 (up1 f A A) B B A B - y) := ⟨_, rfl⟩
      have hfin := hput t (by rw [ht]; exact wrap_I64 _)
      rw [show put (up1 (up1 f A A) B B) A B t = sb1 (up1 (up1 f A A) B B) A B y from by rw [ht]; rfl] at hfin
      have t1 : IntKind.i64.wrap (up1 (up1 f A A) B B A B - y) = t := by rw [IntWalk.i64_left, ht]
      have t2 : wrap64 (up1 (up1 f A A) B B A B - y) = t := ht.symm
      generalize up1 (up1 f A A) B B A B = d0 at r2 t1 t2
      have H6 := Lib.hid hfin
      have d1 : Y5.drew.cell? ⟨g4, A, none⟩ = _ := r1
      have d2 : Y5.drew.cell? ⟨b6, B, none⟩ = _ := r2
      have d3 : Y5.drew.frozen? ⟨b6, B, none⟩ = _ := r3
      clear hput hfin ht
      have s0 := (H5.out.below).keep HS0.out
      have s1 : Y5.drew.cell? ⟨bS, oS + q, none⟩ = some (.int .i64 y) := s0
      go_still_tail 15, (by kernel_rfl)
      change wpList _ _ _ _ _ Y5.drew
      clear u0 u1 t1 t2 r1 r2 r3 s0 s1
      generalize Y5.drew = Z6 at H6 d1 d2 d3 ⊢
      go_wp2_with fail
      clear d1 d2 d3
      generalize Z6.setCell _ _ = Y6 at H6 ⊢
      obtain ⟨g7, b7, cb7, e7, r1, r2, r3, hput⟩ := H6.out.bump (i := B) (j := A) hB hA
      obtain rfl : g4 = g7 := by simpa using e7
      have u0 := H6.out.c0
      have u1 := H6.out.c1
      obtain ⟨t, ht⟩ : ∃ t, t = wrap64 (sb1 (up1 (up1 f A A) B B) A B y B A - y) := ⟨_, rfl⟩
      have hfin := hput t (by rw [ht]; exact wrap_I64 _)
      rw [show put (sb1 (up1 (up1 f A A) B B) A B y) B A t = sb1 (sb1 (up1 (up1 f A A) B B) A B y) B A y from by rw [ht]; rfl] at hfin
      have t1 : IntKind.i64.wrap (sb1 (up1 (up1 f A A) B B) A B y B A - y) = t := by rw [IntWalk.i64_left, ht]
      have t2 : wrap64 (sb1 (up1 (up1 f A A) B B) A B y B A - y) = t := ht.symm
      generalize sb1 (up1 (up1 f A A) B B) A B y B A = d0 at r2 t1 t2
      have H7 := Lib.hid hfin
      have d1 : Y6.drew.cell? ⟨g4, B, none⟩ = _ := r1
      have d2 : Y6.drew.cell? ⟨b7, A, none⟩ = _ := r2
      have d3 : Y6.drew.frozen? ⟨b7, A, none⟩ = _ := r3
      clear hput hfin ht
      have s0 := (H6.out.below).keep HS0.out
      have s1 : Y6.drew.cell? ⟨bS, oS + q, none⟩ = some (.int .i64 y) := s0
      go_still_tail 15, (by kernel_rfl)
      change wpList _ _ _ _ _ Y6.drew
      clear u0 u1 t1 t2 r1 r2 r3 s0 s1
      generalize Y6.drew = Z7 at H7 d1 d2 d3 ⊢
      go_wp2_with fail
      clear d1 d2 d3
      generalize Z7.setCell _ _ = Y7 at H7 ⊢
      rw [← HFN.out] at H7
      have HF := Lib.hid (⟨H7.out.rows, H7.out.edges, H7.out.below, H7.out.size⟩ : OwR L H1 Y7 (.slice (some ⟨g4, 0, none⟩) S c9) (tab S (slS es ys (q+1))) ∧ _ ∧ _ ∧ _)
      clear H7 HFN
      go_wp2
      go_roundw
      case rel => exact ⟨q+1, by omega, by go_num, HF.out⟩
      case measure => simp [intOf]; omega
    · obtain rfl : q = n := by omega
      have HF := Lib.hid (⟨hO.mono hBL hHz, hBl⟩ : OwR w.heap.size wr.heap.size wr (.slice a9 S c9) (tab S (slS es ys q)) ∧ _)
      clear hO hRE hBl
      go_wp2
      go_ret2
      exact ⟨a9, c9, rfl, HF.out⟩

end Go.Proofs.Ytmhnckjcpdnabaa
