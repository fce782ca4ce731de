/- Merged: Lap, SpecLap, LapMat (the plain kit of these proofs). -/
import Derived.Test.YtnblhkhdilkbeaaDoorCoreG
import Derived.Test.YtnblhkhdilkbeaaDoorCoreB
import Derived.Deep.RegionHeld3
set_option linter.unusedSimpArgs false
set_option linter.unusedVariables false
/- Laplacian rows: plain mathematics, and the program's loop over the edges. -/
set_option maxRecDepth 100000
namespace Go.Proofs.YtnblhkhdilkbeaaDoor
open Go.RowKit

def up1 (f : Nat → Nat → Int) (i j : Nat) : Nat → Nat → Int := put f i j (wrap64 (f i j + 1))
def dn1 (f : Nat → Nat → Int) (i j : Nat) : Nat → Nat → Int := put f i j (wrap64 (f i j - 1))
/-- an edge more, as the program counts it -/
def lapE (f : Nat → Nat → Int) (a b : Nat) : Nat → Nat → Int := if a = b then f else dn1 (dn1 (up1 (up1 f a a) b b) a b) b a
/-- .. and as the model does -/
theorem lapE_model {f : Nat → Nat → Int} {a b : Nat} (h : a ≠ b) : dn1 (up1 (dn1 (up1 f a a) a b) b b) b a = lapE f a b := by
  have h' : b ≠ a := fun e => h e.symm
  unfold lapE
  rw [if_neg h]
  unfold dn1 up1
  funext i j
  unfold put
  simp only [h, h', and_self, and_false, false_and, if_true, if_false]
  by_cases e1 : i = b ∧ j = a
  · rw [if_pos e1, if_pos e1]
  · rw [if_neg e1, if_neg e1]
    by_cases e2 : i = b ∧ j = b
    · have : ¬ (i = a ∧ j = b) := by omega
      rw [if_pos e2, if_neg this, if_pos e2]
    · rw [if_neg e2, if_neg e2]
def lapS (es : List (Int × Int)) : Nat → Nat → Nat → Int
  | 0 => zeros
  | q + 1 => lapE (lapS es q) (es.getD q (0, 0)).1.toNat (es.getD q (0, 0)).2.toNat
theorem lapS_step (es : List (Int × Int)) (q : Nat) : lapS es (q + 1) = lapE (lapS es q) (es.getD q (0, 0)).1.toNat (es.getD q (0, 0)).2.toNat := rfl
def lapOf (s : Int) (xss : List (List Int)) : List (List Int) × Int := if grB s xss = true then (tab s.toNat (lapS (pairs xss) xss.length), 0) else ([], 1)
theorem lapOf_lens (s : Int) (xss : List (List Int)) : lens (lapOf s xss).1 ≤ 1000 := by
  unfold lapOf
  split
  · rename_i hg
    have h1 := grB_iff hg
    simp only [tab_lens]
    have h2 : s.toNat ≤ 8 := by omega
    exact Nat.le_trans (Nat.mul_le_mul h2 h2) (by decide)
  · simp [lens]

theorem RdE.chgL {lo hi : Nat} {w w' : World} {a : Option Addr} {es : List (Int × Int)} (h : RdE w a es) (hb : Chg lo hi w w') (ho : ∀ b, a = some ⟨b, 0, none⟩ → b < lo ∨ hi ≤ b) : RdE w' a es := fun j hj => by
  obtain ⟨b, h1, h2, h3, h4⟩ := h j hj
  have := ho b h1
  exact ⟨b, h1, Nat.lt_of_lt_of_le h2 hb.size, hb.cell h3 this, hb.cell h4 this⟩

/-- the rows while the edges are counted -/
structure LapI (L H1 S : Nat) (a : Option Addr) (c X : Nat) (p q : Int) (a2 : Option Addr) (es : List (Int × Int)) (B0 : Nat) (w : World) (f : Nat → Nat → Int) (W : World) : Prop where
  rows : OwR L H1 W (.slice a S c) (tab S f)
  edges : RdE W a2 es
  out : ∀ b, a2 = some ⟨b, 0, none⟩ → H1 ≤ b
  below : Below B0 w W
  size : H1 ≤ W.heap.size
  c0 : W.cell? ⟨X, 0, none⟩ = some (.int .i64 p)
  c1 : W.cell? ⟨X, 1, none⟩ = some (.int .i64 q)
  hi : H1 ≤ X
  lo : B0 ≤ L
  lh : L ≤ H1
theorem LapI.next {L H1 S : Nat} {a : Option Addr} {c X : Nat} {p q : Int} {a2 : Option Addr} {es : List (Int × Int)} {B0 : Nat} {w : World} {f : Nat → Nat → Int} {W W' : World} (h : LapI L H1 S a c X p q a2 es B0 w f W) (b : Below W.heap.size W W') (hB : B0 ≤ W.heap.size) : LapI L H1 S a c X p q a2 es B0 w f W' :=
  ⟨h.rows.below b, h.edges.below b, h.out, h.below.trans (b.mono hB), Nat.le_trans h.size b.size, b.keep h.c0, b.keep h.c1, h.hi, h.lo, h.lh⟩
theorem LapI.bump {L H1 S : Nat} {a : Option Addr} {c X : Nat} {p q : Int} {a2 : Option Addr} {es : List (Int × Int)} {B0 : Nat} {w : World} {f : Nat → Nat → Int} {W : World} (h : LapI L H1 S a c X p q a2 es B0 w f W) {i j : Nat} (hi : i < S) (hj : j < S) :
    ∃ g b cb, a = some ⟨g, 0, none⟩ ∧ W.cell? ⟨g, i, none⟩ = some (.slice (some ⟨b, 0, none⟩) S cb) ∧ W.cell? ⟨b, j, none⟩ = some (.int .i64 (f i j)) ∧ W.frozen? ⟨b, j, none⟩ = false ∧
      ∀ x, I64 x → LapI L H1 S a c X p q a2 es B0 w (put f i j x) (W.drew.setCell ⟨b, j, none⟩ (.int .i64 x)) := by
  obtain ⟨g, b, cb, e1, e2, e3, e4, e5, e6, e7, e8⟩ := (h.rows.qt ((Qt.refl W).drew)).ent hi hj
  refine ⟨g, b, cb, e1, e2, e3, e4, fun x hx => ?_⟩
  have hch : Chg b (b + 1) W.drew (W.drew.setCell ⟨b, j, none⟩ (.int .i64 x)) := (Chg.refl b (b + 1) W.drew).setCell (p := ⟨b, j, none⟩) ⟨Nat.le_refl _, Nat.lt_succ_self _⟩ _
  have hlo := h.lo
  have hhi := h.hi
  exact ⟨e8 x hx, (show RdE W.drew a2 es from h.edges).chgL hch (fun k hk => .inr (by have := h.out k hk; omega)), h.out, h.below.drew.setCell (p := ⟨b, j, none⟩) (by show B0 ≤ b; omega) _, by rw [World.size_setCell]; exact h.size, hch.cell (show W.drew.cell? ⟨X, 0, none⟩ = _ from h.c0) (.inr (by show b + 1 ≤ X; omega)), hch.cell (show W.drew.cell? ⟨X, 1, none⟩ = _ from h.c1) (.inr (by show b + 1 ≤ X; omega)), hhi, hlo, h.lh⟩

end Go.Proofs.YtnblhkhdilkbeaaDoor

/- Laplacian rows of the model. -/
set_option maxRecDepth 100000
namespace Go.Proofs.YtnblhkhdilkbeaaDoor
open Go.RowKit

theorem OwR.row2 {lo hi : Nat} {w : World} {g n c b cb : Nat} {f : Nat → Nat → Int} (h : OwR lo hi w (.slice (some ⟨g, 0, none⟩) n c) (tab n f)) {i j : Nat} (hi' : i < n) (hj : j < n) (hc : w.cell? ⟨g, i, none⟩ = some (.slice (some ⟨b, 0, none⟩) n cb)) :
    w.cell? ⟨b, j, none⟩ = some (.int .i64 (f i j)) ∧ w.frozen? ⟨b, j, none⟩ = false ∧ lo ≤ b ∧ b < hi ∧ b < w.heap.size ∧ g ≠ b ∧
      ∀ x, I64 x → OwR lo hi (w.setCell ⟨b, j, none⟩ (.int .i64 x)) (.slice (some ⟨g, 0, none⟩) n c) (tab n (put f i j x)) := by
  obtain ⟨g', c', b', cb', e1, e2, e3, e4, e5, e6, e7, _, _, _, e9, _, e8⟩ := h.store (k := i) (j := j) (by rw [tab_len]; exact hi') (by rw [tab_rlen f hi']; exact hj)
  rw [tab_rlen f hi'] at e2
  rw [tab_get f hi' hj] at e3
  simp only [Value.slice.injEq, Option.some.injEq, Addr.mk.injEq] at e1
  obtain ⟨⟨rfl, _⟩, _, rfl⟩ := e1
  rw [hc] at e2
  simp only [Option.some.injEq, Value.slice.injEq, Addr.mk.injEq] at e2
  obtain ⟨⟨rfl, _⟩, _, rfl⟩ := e2
  refine ⟨e3, e4, e5, e6, e7, e9, fun x hx => ?_⟩
  have := e8 x hx
  rw [tab_set f x hi' hj] at this
  exact this
/-- the rows while the edges are counted, with the headers of two rows known -/
structure LapJ (L H1 S g c A B b1 c1 b2 c2 : Nat) (a : Option Addr) (n cc B0 : Nat) (w : World) (f : Nat → Nat → Int) (W : World) : Prop where
  rows : OwR L H1 W (.slice (some ⟨g, 0, none⟩) S c) (tab S f)
  r1 : W.cell? ⟨g, A, none⟩ = some (.slice (some ⟨b1, 0, none⟩) S c1)
  r2 : W.cell? ⟨g, B, none⟩ = some (.slice (some ⟨b2, 0, none⟩) S c2)
  below : Below B0 w W
  k0 : W.cell? ⟨B0, 0, none⟩ = some (.int .i64 (S : Int))
  k1 : W.cell? ⟨B0, 1, none⟩ = some (.slice a n cc)
  size : H1 ≤ W.heap.size
  lo : B0 < L
theorem LapJ.drewN {L H1 S g c A B b1 c1 b2 c2 : Nat} {a : Option Addr} {n cc B0 : Nat} {w : World} {f : Nat → Nat → Int} {W : World} (h : LapJ L H1 S g c A B b1 c1 b2 c2 a n cc B0 w f W) (N : Nat) : LapJ L H1 S g c A B b1 c1 b2 c2 a n cc B0 w f (W.drewN N) :=
  ⟨h.rows.qt ((Qt.refl W).drewN N), h.r1, h.r2, h.below.drewN N, h.k0, h.k1, h.size, h.lo⟩
theorem LapJ.bump1 {L H1 S g c A B b1 c1 b2 c2 : Nat} {a : Option Addr} {n cc B0 : Nat} {w : World} {f : Nat → Nat → Int} {W : World} (h : LapJ L H1 S g c A B b1 c1 b2 c2 a n cc B0 w f W) (hA : A < S) {j : Nat} (hj : j < S) :
    W.cell? ⟨b1, j, none⟩ = some (.int .i64 (f A j)) ∧ W.frozen? ⟨b1, j, none⟩ = false ∧ ∀ x, I64 x → LapJ L H1 S g c A B b1 c1 b2 c2 a n cc B0 w (put f A j x) (W.setCell ⟨b1, j, none⟩ (.int .i64 x)) := by
  obtain ⟨e1, e2, e3, e4, e5, e6, e7⟩ := h.rows.row2 hA hj h.r1
  have hlo := h.lo
  have hch : Chg b1 (b1 + 1) W (W.setCell ⟨b1, j, none⟩ (.int .i64 (0 : Int))) := (Chg.refl b1 (b1 + 1) W).setCell (p := ⟨b1, j, none⟩) ⟨Nat.le_refl _, Nat.lt_succ_self _⟩ _
  refine ⟨e1, e2, fun x hx => ?_⟩
  have hch : Chg b1 (b1 + 1) W (W.setCell ⟨b1, j, none⟩ (.int .i64 x)) := (Chg.refl b1 (b1 + 1) W).setCell (p := ⟨b1, j, none⟩) ⟨Nat.le_refl _, Nat.lt_succ_self _⟩ _
  exact ⟨e7 x hx, hch.cell h.r1 (by show g < b1 ∨ b1 + 1 ≤ g; omega), hch.cell h.r2 (by show g < b1 ∨ b1 + 1 ≤ g; omega), h.below.setCell (p := ⟨b1, j, none⟩) (by show B0 ≤ b1; omega) _, hch.cell h.k0 (.inl (by show B0 < b1; omega)), hch.cell h.k1 (.inl (by show B0 < b1; omega)), by rw [World.size_setCell]; exact h.size, h.lo⟩
theorem LapJ.bump2 {L H1 S g c A B b1 c1 b2 c2 : Nat} {a : Option Addr} {n cc B0 : Nat} {w : World} {f : Nat → Nat → Int} {W : World} (h : LapJ L H1 S g c A B b1 c1 b2 c2 a n cc B0 w f W) (hB : B < S) {j : Nat} (hj : j < S) :
    W.cell? ⟨b2, j, none⟩ = some (.int .i64 (f B j)) ∧ W.frozen? ⟨b2, j, none⟩ = false ∧ ∀ x, I64 x → LapJ L H1 S g c A B b1 c1 b2 c2 a n cc B0 w (put f B j x) (W.setCell ⟨b2, j, none⟩ (.int .i64 x)) := by
  obtain ⟨e1, e2, e3, e4, e5, e6, e7⟩ := h.rows.row2 hB hj h.r2
  have hlo := h.lo
  refine ⟨e1, e2, fun x hx => ?_⟩
  have hch : Chg b2 (b2 + 1) W (W.setCell ⟨b2, j, none⟩ (.int .i64 x)) := (Chg.refl b2 (b2 + 1) W).setCell (p := ⟨b2, j, none⟩) ⟨Nat.le_refl _, Nat.lt_succ_self _⟩ _
  exact ⟨e7 x hx, hch.cell h.r1 (by show g < b2 ∨ b2 + 1 ≤ g; omega), hch.cell h.r2 (by show g < b2 ∨ b2 + 1 ≤ g; omega), h.below.setCell (p := ⟨b2, j, none⟩) (by show B0 ≤ b2; omega) _, hch.cell h.k0 (.inl (by show B0 < b2; omega)), hch.cell h.k1 (.inl (by show B0 < b2; omega)), by rw [World.size_setCell]; exact h.size, h.lo⟩

end Go.Proofs.YtnblhkhdilkbeaaDoor

/- LaplacianRows, both sides. -/
namespace Go.Proofs.YtnblhkhdilkbeaaDoor
open Go.RowKit

end Go.Proofs.YtnblhkhdilkbeaaDoor
