/- Merged: Lap, SpecLap, LapMat (the plain kit of these proofs). -/
import Derived.Test.YtnblhkhdilkbeaaCoreG
import Derived.Test.YtnblhkhdilkbeaaCoreB
import Derived.Deep.RegionHeld3
set_option linter.unusedSimpArgs false
set_option linter.unusedVariables false
/- Laplacian rows: plain mathematics, and the program's loop over the edges. -/
set_option maxRecDepth 100000
namespace Go.Proofs.Ytnblhkhdilkbeaa
open Go.RowKit

def up1 (f : Nat → Nat → Int) (i j : Nat) : Nat → Nat → Int := put f i j (wrap64 (f i j + 1))
def dn1 (f : Nat → Nat → Int) (i j : Nat) : Nat → Nat → Int := put f i j (wrap64 (f i j - 1))
/-- an edge more, as the program counts it -/
def lapE (f : Nat → Nat → Int) (a b : Nat) : Nat → Nat → Int := if a = b then f else dn1 (dn1 (up1 (up1 f a a) b b) a b) b a
/-- .. and as the model does -/
theorem lapE_model {f : Nat → Nat → Int} {a b : Nat} (h : a ≠ b) : dn1 (up1 (dn1 (up1 f a a) a b) b b) b a = lapE f a b := by
  have h' : b ≠ a := fun e => h e.symm
  unfold lapE
  rw [if_neg h]
  unfold dn1 up1
  funext i j
  unfold put
  simp only [h, h', and_self, and_false, false_and, if_true, if_false]
  by_cases e1 : i = b ∧ j = a
  · rw [if_pos e1, if_pos e1]
  · rw [if_neg e1, if_neg e1]
    by_cases e2 : i = b ∧ j = b
    · have : ¬ (i = a ∧ j = b) := by omega
      rw [if_pos e2, if_neg this, if_pos e2]
    · rw [if_neg e2, if_neg e2]
def lapS (es : List (Int × Int)) : Nat → Nat → Nat → Int
  | 0 => zeros
  | q + 1 => lapE (lapS es q) (es.getD q (0, 0)).1.toNat (es.getD q (0, 0)).2.toNat
theorem lapS_step (es : List (Int × Int)) (q : Nat) : lapS es (q + 1) = lapE (lapS es q) (es.getD q (0, 0)).1.toNat (es.getD q (0, 0)).2.toNat := rfl
def lapOf (s : Int) (xss : List (List Int)) : List (List Int) × Int := if grB s xss = true then (tab s.toNat (lapS (pairs xss) xss.length), 0) else ([], 1)
theorem lapOf_lens (s : Int) (xss : List (List Int)) : lens (lapOf s xss).1 ≤ 1000 := by
  unfold lapOf
  split
  · rename_i hg
    have h1 := grB_iff hg
    simp only [tab_lens]
    have h2 : s.toNat ≤ 8 := by omega
    exact Nat.le_trans (Nat.mul_le_mul h2 h2) (by decide)
  · simp [lens]

theorem RdE.chgL {lo hi : Nat} {w w' : World} {a : Option Addr} {es : List (Int × Int)} (h : RdE w a es) (hb : Chg lo hi w w') (ho : ∀ b, a = some ⟨b, 0, none⟩ → b < lo ∨ hi ≤ b) : RdE w' a es := fun j hj => by
  obtain ⟨b, h1, h2, h3, h4⟩ := h j hj
  have := ho b h1
  exact ⟨b, h1, Nat.lt_of_lt_of_le h2 hb.size, hb.cell h3 this, hb.cell h4 this⟩

/-- the rows while the edges are counted -/
structure LapI (L H1 S : Nat) (a : Option Addr) (c X : Nat) (p q : Int) (a2 : Option Addr) (es : List (Int × Int)) (B0 : Nat) (w : World) (f : Nat → Nat → Int) (W : World) : Prop where
  rows : OwR L H1 W (.slice a S c) (tab S f)
  edges : RdE W a2 es
  out : ∀ b, a2 = some ⟨b, 0, none⟩ → H1 ≤ b
  below : Below B0 w W
  size : H1 ≤ W.heap.size
  c0 : W.cell? ⟨X, 0, none⟩ = some (.int .i64 p)
  c1 : W.cell? ⟨X, 1, none⟩ = some (.int .i64 q)
  hi : H1 ≤ X
  lo : B0 ≤ L
  lh : L ≤ H1
theorem LapI.next {L H1 S : Nat} {a : Option Addr} {c X : Nat} {p q : Int} {a2 : Option Addr} {es : List (Int × Int)} {B0 : Nat} {w : World} {f : Nat → Nat → Int} {W W' : World} (h : LapI L H1 S a c X p q a2 es B0 w f W) (b : Below W.heap.size W W') (hB : B0 ≤ W.heap.size) : LapI L H1 S a c X p q a2 es B0 w f W' :=
  ⟨h.rows.below b, h.edges.below b, h.out, h.below.trans (b.mono hB), Nat.le_trans h.size b.size, b.keep h.c0, b.keep h.c1, h.hi, h.lo, h.lh⟩
theorem LapI.bump {L H1 S : Nat} {a : Option Addr} {c X : Nat} {p q : Int} {a2 : Option Addr} {es : List (Int × Int)} {B0 : Nat} {w : World} {f : Nat → Nat → Int} {W : World} (h : LapI L H1 S a c X p q a2 es B0 w f W) {i j : Nat} (hi : i < S) (hj : j < S) :
    ∃ g b cb, a = some ⟨g, 0, none⟩ ∧ W.cell? ⟨g, i, none⟩ = some (.slice (some ⟨b, 0, none⟩) S cb) ∧ W.cell? ⟨b, j, none⟩ = some (.int .i64 (f i j)) ∧ W.frozen? ⟨b, j, none⟩ = false ∧
      ∀ x, I64 x → LapI L H1 S a c X p q a2 es B0 w (put f i j x) (W.drew.setCell ⟨b, j, none⟩ (.int .i64 x)) := by
  obtain ⟨g, b, cb, e1, e2, e3, e4, e5, e6, e7, e8⟩ := (h.rows.qt ((Qt.refl W).drew)).ent hi hj
  refine ⟨g, b, cb, e1, e2, e3, e4, fun x hx => ?_⟩
  have hch : Chg b (b + 1) W.drew (W.drew.setCell ⟨b, j, none⟩ (.int .i64 x)) := (Chg.refl b (b + 1) W.drew).setCell (p := ⟨b, j, none⟩) ⟨Nat.le_refl _, Nat.lt_succ_self _⟩ _
  have hlo := h.lo
  have hhi := h.hi
  exact ⟨e8 x hx, (show RdE W.drew a2 es from h.edges).chgL hch (fun k hk => .inr (by have := h.out k hk; omega)), h.out, h.below.drew.setCell (p := ⟨b, j, none⟩) (by show B0 ≤ b; omega) _, by rw [World.size_setCell]; exact h.size, hch.cell (show W.drew.cell? ⟨X, 0, none⟩ = _ from h.c0) (.inr (by show b + 1 ≤ X; omega)), hch.cell (show W.drew.cell? ⟨X, 1, none⟩ = _ from h.c1) (.inr (by show b + 1 ≤ X; omega)), hhi, hlo, h.lh⟩

theorem isLoopL (x y : Int) (w : World) :
    Calls Try.prog 98 #[.agg #[.int .i64 x, .int .i64 y]] w fun e w' => e = .returned (.bool (x == y)) ∧ Below w.heap.size w w' := by
  have hb0 : ∀ o, Below w.heap.size w (w.alloc o) := fun o => (Below.refl _ _).alloc (Nat.le_refl _) o
  go_enter Try.func98, Try.ntmps98
  go_wp2
  have c1 : (w.alloc (.cells #[.int .i64 x, .int .i64 y] 113)).cell? ⟨w.heap.size, 0, none⟩ = some (.int .i64 x) := by go_simp
  have c2 : (w.alloc (.cells #[.int .i64 x, .int .i64 y] 113)).cell? ⟨w.heap.size, 1, none⟩ = some (.int .i64 y) := by go_simp
  have hB := hb0 (.cells #[.int .i64 x, .int .i64 y] 113)
  obtain ⟨W, hW⟩ : ∃ W, W = w.alloc (.cells #[.int .i64 x, .int .i64 y] 113) := ⟨_, rfl⟩
  rw [← hW] at c1 c2 hB ⊢
  clear hW
  have hq := eq_edge x y y x
  go_region_held3 (fun W' => W'.cell? ⟨w.heap.size, 0, none⟩ = some (.int .i64 x) ∧ W'.cell? ⟨w.heap.size, 1, none⟩ = some (.int .i64 y))
    (first | (exact ⟨c1, c2⟩) | (go_split_ands; exact ⟨b4.keep (by assumption), b4.keep (by assumption)⟩) | go_keep)
    (first
      | (go_at_call 110; refine (reversed x y _).mono ?_; rintro e w4 ⟨rfl, b4⟩))
  all_goals
    have hBB := hB.next ((Qt.refl W).drew.below.next b4)
    have hxx : (x == y && y == x) = (x == y) := by
      by_cases h : x = y
      · subst h; simp
      · have h1 : (x == y) = false := by simpa using h
        rw [h1]; rfl
    go_wp2
    go_ret
    exact ⟨by rw [hxx]; rfl, hBB⟩


set_option maxHeartbeats 6400000 in
theorem implLap_yes {lo hi : Nat} (S : Nat) (a : Option Addr) (n c : Nat) (xss : List (List Int)) (w : World) (h : RdR lo hi w (.slice a n c) xss) (hn : xss.length = n) (hg : grB (S : Int) xss = true) :
    Calls Try.prog 59 #[.agg #[.int .i64 (S : Int), .slice a n c]] w fun e w' => ∃ a' c', e = .returned (.tuple #[.slice a' S c', .int .i64 0]) ∧ OwR w.heap.size w'.heap.size w' (.slice a' S c') (tab S (lapS (pairs xss) n)) ∧ Below w.heap.size w w' := by
  have hg4 := grB_iff hg
  have hn10 : n ≤ 10 := by omega
  have hS8 : S ≤ 8 := by omega
  have HR := Lib.hid h
  have HI := Lib.hid (fun W' (h' : RdR lo hi W' (.slice a n c) xss) => implIsGraph (S : Int) a n c xss W' h' hn)
  have HED := Lib.hid (fun W' (h' : RdR lo hi W' (.slice a n c) xss) => edgesOf (S : Int) a n c xss W' h' hg hn)
  have HG := Lib.hid hg
  have HPI := Lib.hid (show ∀ q, q < n → ∃ A B : Nat, (pairs xss).getD q (0, 0) = ((A : Int), (B : Int)) ∧ A < S ∧ B < S from fun q hq => by
    have := hg4.2.2.2 q (by omega)
    rw [pairs_getD]
    exact ⟨((xss.getD q []).getD 0 0).toNat, ((xss.getD q []).getD 1 0).toNat, by simp only [Prod.mk.injEq]; omega, by omega, by omega⟩)
  have hpl : (pairs xss).length = n := by rw [pairs_len, hn]
  generalize pairs xss = es at HED HPI hpl ⊢
  have HPL := Lib.hid hpl
  clear h hn hg hg4 hpl
  go_enter Try.func59, Try.ntmps59
  go_wp2_with fail
  refine calls_gen (fun W => Below w.heap.size w W ∧ w.heap.size < W.heap.size ∧ W.cell? ⟨w.heap.size, 0, none⟩ = some (.int .i64 (S : Int)) ∧ W.cell? ⟨w.heap.size, 1, none⟩ = some (.slice a n c)) ⟨(Below.refl _ _).alloc (Nat.le_refl _) _, by simp, by go_simp, by go_simp⟩ ?_
  rintro W ⟨hB, hzz, k0, k1⟩
  refine (HI.out W (HR.out.below hB)).mono ?_
  rw [HG.out]
  rintro e w1 ⟨rfl, b1⟩
  replace hB := hB.next b1
  replace k0 := b1.keep k0
  replace k1 := b1.keep k1
  replace hzz := Nat.lt_of_lt_of_le hzz b1.size
  clear b1 HG
  have hSi : (0 : Int) ≤ (S : Int) := by omega
  have hzr := zeroRows S w1 (by omega) (.inr (by omega))
  have HK := Lib.hid (⟨hB, k0, k1⟩ : _ ∧ _ ∧ _)
  clear hB k1
  go_wp2_with fail
  refine hzr.mono ?_
  clear hzr k0
  rintro e w4 ⟨v, rfl, o4, b4⟩
  obtain ⟨a9, c9, rfl⟩ := o4.rd.shape
  rw [tab_len] at o4 ⊢
  obtain ⟨hB, k0, k1⟩ := HK.out
  obtain ⟨L, hL⟩ : ∃ L, L = w1.heap.size := ⟨_, rfl⟩
  have hBL : w.heap.size ≤ L := by omega
  rw [← hL] at o4
  obtain ⟨H1, hH1⟩ : ∃ H, H = w4.heap.size := ⟨_, rfl⟩
  rw [← hH1] at o4
  have hLH : L ≤ H1 := by rw [hL, hH1]; exact b4.size
  replace hB := hB.next b4
  replace k0 := b4.keep k0
  replace k1 := b4.keep k1
  have HK4 := Lib.hid (⟨o4, hB, hH1⟩ : _ ∧ _ ∧ _)
  have hed := HED.out w4 (HR.out.below hB)
  clear o4 b4 hB hL hH1 hzz HK HED
  go_wp2_with fail
  refine hed.mono ?_
  clear hed k0 k1
  rintro e w5 ⟨a2, c2, rfl, o5, b5⟩
  have HLO := Lib.hid (show ∀ b, a2 = some (⟨b, 0, none⟩ : Addr) → H1 ≤ b from fun b e => by
    have := (o5.lt b (by rw [e]; rfl)).1; rw [HK4.out.2.2]; exact this)
  have HP0 := Lib.hid (⟨HK4.out.1.below b5, RdE.mk o5 HPL.out, HK4.out.2.1.next b5, by rw [HK4.out.2.2]; exact b5.size⟩ : OwR L H1 w5 (.slice a9 S c9) (tab S (lapS es 0)) ∧ _ ∧ _ ∧ H1 ≤ w5.heap.size)
  clear o5 b5 HK4
  go_wp2
  go_loopw [16] (fun i wr => ∃ q : Nat, q ≤ n ∧ i = .int .i64 q ∧ OwR L H1 wr (.slice a9 S c9) (tab S (lapS es q)) ∧ RdE wr a2 es ∧ Below w.heap.size w wr ∧ H1 ≤ wr.heap.size) (fun i _ => n - (intOf i).toNat)
  case atStart => exact ⟨0, Nat.zero_le _, rfl, HP0.out⟩
  case round =>
    clear HP0
    obtain ⟨q, hq, rfl, hO, hRE, hBl, hHz⟩ := hrel
    by_cases hlq : q < n
    · obtain ⟨d, rfl, hdw, x1, x2⟩ := hRE q (by rw [HPL.out]; exact hlq)
      obtain ⟨A, B, hAB, hA, hB⟩ := HPI.out q hlq
      have hst := lapS_step es q
      rw [hAB] at x1 x2 hst
      dsimp only at x1 x2 hst
      rw [Int.toNat_natCast, Int.toNat_natCast] at hst
      have HST := Lib.hid hst
      generalize lapS es q = f at hO hst HST
      have hAl := (Below.refl wr.heap.size wr).alloc (Nat.le_refl _) (.cells #[.int .i64 (A : Int), .int .i64 (B : Int)] 113)
      have u0 : (wr.alloc (.cells #[.int .i64 (A : Int), .int .i64 (B : Int)] 113)).cell? ⟨wr.heap.size, 0, none⟩ = some (.int .i64 (A : Int)) := by go_simp
      have u1 : (wr.alloc (.cells #[.int .i64 (A : Int), .int .i64 (B : Int)] 113)).cell? ⟨wr.heap.size, 1, none⟩ = some (.int .i64 (B : Int)) := by go_simp
      have HO := Lib.hid (⟨hO.below hAl, hRE.below hAl, HLO.out, hBl.next hAl, Nat.le_trans hHz hAl.size, u0, u1, hHz, hBL, hLH⟩ : LapI L H1 S a9 c9 wr.heap.size (A : Int) (B : Int) (some ⟨d, 0, none⟩) es w.heap.size w f _)
      clear hst hAB hO hRE hBl hAl hdw u0 u1
      go_wp2_with fail
      clear x1 x2
      have HO2 := Lib.hid HO.out
      generalize wr.alloc (.cells #[.int .i64 (A : Int), .int .i64 (B : Int)] 113) = V at HO HO2 ⊢
      clear HO
      obtain ⟨X, hX⟩ : ∃ X, X = wr.heap.size := ⟨_, rfl⟩
      rw [← hX] at HO2 ⊢
      clear hX
      have hBV : w.heap.size ≤ V.heap.size := Nat.le_trans hBL (Nat.le_trans hLH HO2.out.size)
      have u0 := HO2.out.c0
      have u1 := HO2.out.c1
      go_wp2_with fail
      refine (isLoopL _ _ _).mono ?_
      rintro e V2 ⟨rfl, b2⟩
      have HO3 := Lib.hid (HO2.out.next b2 hBV)
      clear b2 HO2 u0 u1 hBV
      by_cases hab : A = B
      · have hb : ((A : Int) == (B : Int)) = true := by simp; omega
        have hfin : lapS es (q+1) = f := by rw [HST.out]; unfold lapE; rw [if_pos hab]
        have HF := Lib.hid (⟨by rw [hfin]; exact HO3.out.rows, HO3.out.edges, HO3.out.below, HO3.out.size⟩ : OwR L H1 V2 (.slice a9 S c9) (tab S (lapS es (q+1))) ∧ _ ∧ _ ∧ _)
        clear hfin HO3 HST
        go_wp2
        go_roundw
        case rel => exact ⟨q+1, by omega, by go_num, HF.out⟩
        case measure => simp [intOf]; omega
      · have hb : ((A : Int) == (B : Int)) = false := by simp; omega
        have hfin0 : lapS es (q+1) = dn1 (dn1 (up1 (up1 f A A) B B) A B) B A := by rw [HST.out]; unfold lapE; rw [if_neg hab]
        have HFN := Lib.hid hfin0
        clear hfin0 HST
        have hA0 : (0 : Int) ≤ (A : Int) := by omega
        have hA1 : (A : Int) < (S : Int) := by omega
        have hB0 : (0 : Int) ≤ (B : Int) := by omega
        have hB1 : (B : Int) < (S : Int) := by omega
        go_wp2_with fail
        obtain ⟨g4, b4, cb4, e4, r1, r2, r3, hput⟩ := HO3.out.bump (i := A) (j := A) hA hA
        subst e4
        have u0 := HO3.out.c0
        have u1 := HO3.out.c1
        obtain ⟨t, ht⟩ : ∃ t, t = wrap64 (f A A + 1) := ⟨_, rfl⟩
        have hfin := hput t (by rw [ht]; exact wrap_I64 _)
        rw [show put (f) A A t = up1 (f) A A from by rw [ht]; rfl] at hfin
        have t1 : IntKind.i64.wrap (f A A + 1) = t := by rw [IntWalk.i64_left, ht]
        have t2 : wrap64 (f A A + 1) = t := ht.symm
        generalize f A A = d0 at r2 t1 t2
        have H4 := Lib.hid hfin
        have d1 : V2.drew.cell? ⟨g4, A, none⟩ = _ := r1
        have d2 : V2.drew.cell? ⟨b4, A, none⟩ = _ := r2
        have d3 : V2.drew.frozen? ⟨b4, A, none⟩ = _ := r3
        clear hput hfin ht HO3
        go_still_tail 11, (by kernel_rfl)
        change wpList _ _ _ _ _ V2.drew
        clear u0 u1 t1 t2 r1 r2 r3
        generalize V2.drew = Z4 at H4 d1 d2 d3 ⊢
        go_wp2_with fail
        clear d1 d2 d3
        generalize Z4.setCell _ _ = Y4 at H4 ⊢
        obtain ⟨g5, b5, cb5, e5, r1, r2, r3, hput⟩ := H4.out.bump (i := B) (j := B) hB hB
        obtain rfl : g4 = g5 := by simpa using e5
        have u0 := H4.out.c0
        have u1 := H4.out.c1
        obtain ⟨t, ht⟩ : ∃ t, t = wrap64 (up1 f A A B B + 1) := ⟨_, rfl⟩
        have hfin := hput t (by rw [ht]; exact wrap_I64 _)
        rw [show put (up1 f A A) B B t = up1 (up1 f A A) B B from by rw [ht]; rfl] at hfin
        have t1 : IntKind.i64.wrap (up1 f A A B B + 1) = t := by rw [IntWalk.i64_left, ht]
        have t2 : wrap64 (up1 f A A B B + 1) = t := ht.symm
        generalize up1 f A A B B = d0 at r2 t1 t2
        have H5 := Lib.hid hfin
        have d1 : Y4.drew.cell? ⟨g4, B, none⟩ = _ := r1
        have d2 : Y4.drew.cell? ⟨b5, B, none⟩ = _ := r2
        have d3 : Y4.drew.frozen? ⟨b5, B, none⟩ = _ := r3
        clear hput hfin ht H4
        go_still_tail 11, (by kernel_rfl)
        change wpList _ _ _ _ _ Y4.drew
        clear u0 u1 t1 t2 r1 r2 r3
        generalize Y4.drew = Z5 at H5 d1 d2 d3 ⊢
        go_wp2_with fail
        clear d1 d2 d3
        generalize Z5.setCell _ _ = Y5 at H5 ⊢
        obtain ⟨g6, b6, cb6, e6, r1, r2, r3, hput⟩ := H5.out.bump (i := A) (j := B) hA hB
        obtain rfl : g4 = g6 := by simpa using e6
        have u0 := H5.out.c0
        have u1 := H5.out.c1
        obtain ⟨t, ht⟩ : ∃ t, t = wrap64 (up1 (up1 f A A) B B A B - 1) := ⟨_, rfl⟩
        have hfin := hput t (by rw [ht]; exact wrap_I64 _)
        rw [show put (up1 (up1 f A A) B B) A B t = dn1 (up1 (up1 f A A) B B) A B from by rw [ht]; rfl] at hfin
        have t1 : IntKind.i64.wrap (up1 (up1 f A A) B B A B - 1) = t := by rw [IntWalk.i64_left, ht]
        have t2 : wrap64 (up1 (up1 f A A) B B A B - 1) = t := ht.symm
        generalize up1 (up1 f A A) B B A B = d0 at r2 t1 t2
        have H6 := Lib.hid hfin
        have d1 : Y5.drew.cell? ⟨g4, A, none⟩ = _ := r1
        have d2 : Y5.drew.cell? ⟨b6, B, none⟩ = _ := r2
        have d3 : Y5.drew.frozen? ⟨b6, B, none⟩ = _ := r3
        clear hput hfin ht H5
        go_still_tail 11, (by kernel_rfl)
        change wpList _ _ _ _ _ Y5.drew
        clear u0 u1 t1 t2 r1 r2 r3
        generalize Y5.drew = Z6 at H6 d1 d2 d3 ⊢
        go_wp2_with fail
        clear d1 d2 d3
        generalize Z6.setCell _ _ = Y6 at H6 ⊢
        obtain ⟨g7, b7, cb7, e7, r1, r2, r3, hput⟩ := H6.out.bump (i := B) (j := A) hB hA
        obtain rfl : g4 = g7 := by simpa using e7
        have u0 := H6.out.c0
        have u1 := H6.out.c1
        obtain ⟨t, ht⟩ : ∃ t, t = wrap64 (dn1 (up1 (up1 f A A) B B) A B B A - 1) := ⟨_, rfl⟩
        have hfin := hput t (by rw [ht]; exact wrap_I64 _)
        rw [show put (dn1 (up1 (up1 f A A) B B) A B) B A t = dn1 (dn1 (up1 (up1 f A A) B B) A B) B A from by rw [ht]; rfl] at hfin
        have t1 : IntKind.i64.wrap (dn1 (up1 (up1 f A A) B B) A B B A - 1) = t := by rw [IntWalk.i64_left, ht]
        have t2 : wrap64 (dn1 (up1 (up1 f A A) B B) A B B A - 1) = t := ht.symm
        generalize dn1 (up1 (up1 f A A) B B) A B B A = d0 at r2 t1 t2
        have H7 := Lib.hid hfin
        have d1 : Y6.drew.cell? ⟨g4, B, none⟩ = _ := r1
        have d2 : Y6.drew.cell? ⟨b7, A, none⟩ = _ := r2
        have d3 : Y6.drew.frozen? ⟨b7, A, none⟩ = _ := r3
        clear hput hfin ht H6
        go_still_tail 11, (by kernel_rfl)
        change wpList _ _ _ _ _ Y6.drew
        clear u0 u1 t1 t2 r1 r2 r3
        generalize Y6.drew = Z7 at H7 d1 d2 d3 ⊢
        go_wp2_with fail
        clear d1 d2 d3
        generalize Z7.setCell _ _ = Y7 at H7 ⊢
        rw [← HFN.out] at H7
        have HF := Lib.hid (⟨H7.out.rows, H7.out.edges, H7.out.below, H7.out.size⟩ : OwR L H1 Y7 (.slice (some ⟨g4, 0, none⟩) S c9) (tab S (lapS es (q+1))) ∧ _ ∧ _ ∧ _)
        clear H7 HFN
        go_wp2
        go_roundw
        case rel => exact ⟨q+1, by omega, by go_num, HF.out⟩
        case measure => simp [intOf]; omega
    · obtain rfl : q = n := by omega
      have HF := Lib.hid (⟨hO.mono hBL hHz, hBl⟩ : OwR w.heap.size wr.heap.size wr (.slice a9 S c9) (tab S (lapS es q)) ∧ _)
      clear hO hRE hBl
      go_wp2
      go_ret2
      exact ⟨a9, c9, rfl, HF.out⟩

end Go.Proofs.Ytnblhkhdilkbeaa

/- Laplacian rows of the model. -/
set_option maxRecDepth 100000
namespace Go.Proofs.Ytnblhkhdilkbeaa
open Go.RowKit

theorem OwR.row2 {lo hi : Nat} {w : World} {g n c b cb : Nat} {f : Nat → Nat → Int} (h : OwR lo hi w (.slice (some ⟨g, 0, none⟩) n c) (tab n f)) {i j : Nat} (hi' : i < n) (hj : j < n) (hc : w.cell? ⟨g, i, none⟩ = some (.slice (some ⟨b, 0, none⟩) n cb)) :
    w.cell? ⟨b, j, none⟩ = some (.int .i64 (f i j)) ∧ w.frozen? ⟨b, j, none⟩ = false ∧ lo ≤ b ∧ b < hi ∧ b < w.heap.size ∧ g ≠ b ∧
      ∀ x, I64 x → OwR lo hi (w.setCell ⟨b, j, none⟩ (.int .i64 x)) (.slice (some ⟨g, 0, none⟩) n c) (tab n (put f i j x)) := by
  obtain ⟨g', c', b', cb', e1, e2, e3, e4, e5, e6, e7, _, _, _, e9, _, e8⟩ := h.store (k := i) (j := j) (by rw [tab_len]; exact hi') (by rw [tab_rlen f hi']; exact hj)
  rw [tab_rlen f hi'] at e2
  rw [tab_get f hi' hj] at e3
  simp only [Value.slice.injEq, Option.some.injEq, Addr.mk.injEq] at e1
  obtain ⟨⟨rfl, _⟩, _, rfl⟩ := e1
  rw [hc] at e2
  simp only [Option.some.injEq, Value.slice.injEq, Addr.mk.injEq] at e2
  obtain ⟨⟨rfl, _⟩, _, rfl⟩ := e2
  refine ⟨e3, e4, e5, e6, e7, e9, fun x hx => ?_⟩
  have := e8 x hx
  rw [tab_set f x hi' hj] at this
  exact this
/-- the rows while the edges are counted, with the headers of two rows known -/
structure LapJ (L H1 S g c A B b1 c1 b2 c2 : Nat) (a : Option Addr) (n cc B0 : Nat) (w : World) (f : Nat → Nat → Int) (W : World) : Prop where
  rows : OwR L H1 W (.slice (some ⟨g, 0, none⟩) S c) (tab S f)
  r1 : W.cell? ⟨g, A, none⟩ = some (.slice (some ⟨b1, 0, none⟩) S c1)
  r2 : W.cell? ⟨g, B, none⟩ = some (.slice (some ⟨b2, 0, none⟩) S c2)
  below : Below B0 w W
  k0 : W.cell? ⟨B0, 0, none⟩ = some (.int .i64 (S : Int))
  k1 : W.cell? ⟨B0, 1, none⟩ = some (.slice a n cc)
  size : H1 ≤ W.heap.size
  lo : B0 < L
theorem LapJ.drewN {L H1 S g c A B b1 c1 b2 c2 : Nat} {a : Option Addr} {n cc B0 : Nat} {w : World} {f : Nat → Nat → Int} {W : World} (h : LapJ L H1 S g c A B b1 c1 b2 c2 a n cc B0 w f W) (N : Nat) : LapJ L H1 S g c A B b1 c1 b2 c2 a n cc B0 w f (W.drewN N) :=
  ⟨h.rows.qt ((Qt.refl W).drewN N), h.r1, h.r2, h.below.drewN N, h.k0, h.k1, h.size, h.lo⟩
theorem LapJ.bump1 {L H1 S g c A B b1 c1 b2 c2 : Nat} {a : Option Addr} {n cc B0 : Nat} {w : World} {f : Nat → Nat → Int} {W : World} (h : LapJ L H1 S g c A B b1 c1 b2 c2 a n cc B0 w f W) (hA : A < S) {j : Nat} (hj : j < S) :
    W.cell? ⟨b1, j, none⟩ = some (.int .i64 (f A j)) ∧ W.frozen? ⟨b1, j, none⟩ = false ∧ ∀ x, I64 x → LapJ L H1 S g c A B b1 c1 b2 c2 a n cc B0 w (put f A j x) (W.setCell ⟨b1, j, none⟩ (.int .i64 x)) := by
  obtain ⟨e1, e2, e3, e4, e5, e6, e7⟩ := h.rows.row2 hA hj h.r1
  have hlo := h.lo
  have hch : Chg b1 (b1 + 1) W (W.setCell ⟨b1, j, none⟩ (.int .i64 (0 : Int))) := (Chg.refl b1 (b1 + 1) W).setCell (p := ⟨b1, j, none⟩) ⟨Nat.le_refl _, Nat.lt_succ_self _⟩ _
  refine ⟨e1, e2, fun x hx => ?_⟩
  have hch : Chg b1 (b1 + 1) W (W.setCell ⟨b1, j, none⟩ (.int .i64 x)) := (Chg.refl b1 (b1 + 1) W).setCell (p := ⟨b1, j, none⟩) ⟨Nat.le_refl _, Nat.lt_succ_self _⟩ _
  exact ⟨e7 x hx, hch.cell h.r1 (by show g < b1 ∨ b1 + 1 ≤ g; omega), hch.cell h.r2 (by show g < b1 ∨ b1 + 1 ≤ g; omega), h.below.setCell (p := ⟨b1, j, none⟩) (by show B0 ≤ b1; omega) _, hch.cell h.k0 (.inl (by show B0 < b1; omega)), hch.cell h.k1 (.inl (by show B0 < b1; omega)), by rw [World.size_setCell]; exact h.size, h.lo⟩
theorem LapJ.bump2 {L H1 S g c A B b1 c1 b2 c2 : Nat} {a : Option Addr} {n cc B0 : Nat} {w : World} {f : Nat → Nat → Int} {W : World} (h : LapJ L H1 S g c A B b1 c1 b2 c2 a n cc B0 w f W) (hB : B < S) {j : Nat} (hj : j < S) :
    W.cell? ⟨b2, j, none⟩ = some (.int .i64 (f B j)) ∧ W.frozen? ⟨b2, j, none⟩ = false ∧ ∀ x, I64 x → LapJ L H1 S g c A B b1 c1 b2 c2 a n cc B0 w (put f B j x) (W.setCell ⟨b2, j, none⟩ (.int .i64 x)) := by
  obtain ⟨e1, e2, e3, e4, e5, e6, e7⟩ := h.rows.row2 hB hj h.r2
  have hlo := h.lo
  refine ⟨e1, e2, fun x hx => ?_⟩
  have hch : Chg b2 (b2 + 1) W (W.setCell ⟨b2, j, none⟩ (.int .i64 x)) := (Chg.refl b2 (b2 + 1) W).setCell (p := ⟨b2, j, none⟩) ⟨Nat.le_refl _, Nat.lt_succ_self _⟩ _
  exact ⟨e7 x hx, hch.cell h.r1 (by show g < b2 ∨ b2 + 1 ≤ g; omega), hch.cell h.r2 (by show g < b2 ∨ b2 + 1 ≤ g; omega), h.below.setCell (p := ⟨b2, j, none⟩) (by show B0 ≤ b2; omega) _, hch.cell h.k0 (.inl (by show B0 < b2; omega)), hch.cell h.k1 (.inl (by show B0 < b2; omega)), by rw [World.size_setCell]; exact h.size, h.lo⟩

end Go.Proofs.Ytnblhkhdilkbeaa

/- LaplacianRows, both sides. -/
namespace Go.Proofs.Ytnblhkhdilkbeaa
open Go.RowKit

set_option maxRecDepth 100000 in
set_option maxHeartbeats 1600000 in
theorem implLap {lo hi : Nat} (s : Int) (a : Option Addr) (n c : Nat) (xss : List (List Int)) (w : World) (h : RdR lo hi w (.slice a n c) xss) (hn : xss.length = n) :
    Calls Try.prog 59 #[.agg #[.int .i64 s, .slice a n c]] w fun e w' => ∃ a' c', e = .returned (.tuple #[.slice a' (lapOf s xss).1.length c', .int .i64 (lapOf s xss).2]) ∧ OwR w.heap.size w'.heap.size w' (.slice a' (lapOf s xss).1.length c') (lapOf s xss).1 ∧ Below w.heap.size w w' := by
  cases hg : grB s xss with
  | true =>
    have hg4 := grB_iff hg
    obtain ⟨S, hS⟩ : ∃ S : Nat, s = (S : Int) := ⟨s.toNat, by omega⟩
    subst hS
    refine (implLap_yes S a n c xss w h hn hg).mono ?_
    rintro e w1 ⟨a', c', rfl, o, b⟩
    have hp : lapOf (S : Int) xss = (tab S (lapS (pairs xss) n), 0) := by
      unfold lapOf
      rw [if_pos hg, Int.toNat_natCast, hn]
    rw [hp]
    refine ⟨a', c', ?_, ?_, b⟩
    · rw [tab_len]
    · rw [tab_len]; exact o
  | false =>
    have HI := Lib.hid (fun W' (h' : RdR lo hi W' (.slice a n c) xss) => implIsGraph s a n c xss W' h' hn)
    have HR := Lib.hid h
    obtain ⟨P, hP⟩ : ∃ P, P = lapOf s xss := ⟨_, rfl⟩
    rw [← hP]
    unfold lapOf at hP
    rw [hn] at hP
    have HP := Lib.hid hP
    clear h hn hP
    go_enter Try.func59, Try.ntmps59
    go_wp2_with fail
    refine calls_gen (fun W => Below w.heap.size w W ∧ W.cell? ⟨w.heap.size, 0, none⟩ = some (.int .i64 s) ∧ W.cell? ⟨w.heap.size, 1, none⟩ = some (.slice a n c)) ⟨(Below.refl _ _).alloc (Nat.le_refl _) _, by go_simp, by go_simp⟩ ?_
    rintro W ⟨hB, k0, k1⟩
    refine (HI.out W (HR.out.below hB)).mono ?_
    rw [hg]
    rintro e w1 ⟨rfl, b1⟩
    replace hB := hB.next b1
    have hP := HP.out
    rw [hg, if_neg (by simp)] at hP
    clear k0 k1 b1 HP hg
    subst hP
    go_wp2
    go_ret2
    exact ⟨none, 0, rfl, OwR.nil (World.ownsRow_nil _ _ _ _) (Nat.le_refl _), hB⟩

end Go.Proofs.Ytnblhkhdilkbeaa
