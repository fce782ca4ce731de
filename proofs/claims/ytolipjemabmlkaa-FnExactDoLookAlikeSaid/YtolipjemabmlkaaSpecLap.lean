/- Laplacian rows of the model. -/
import Derived.Test.YtolipjemabmlkaaLap
set_option linter.unusedSimpArgs false
set_option linter.unusedVariables false
set_option maxRecDepth 100000
namespace Go.Proofs.Ytolipjemabmlkaa
open Go.RowKit

theorem OwR.row2 {lo hi : Nat} {w : World} {g n c b cb : Nat} {f : Nat → Nat → Int} (h : OwR lo hi w (.slice (some ⟨g, 0, none⟩) n c) (tab n f)) {i j : Nat} (hi' : i < n) (hj : j < n) (hc : w.cell? ⟨g, i, none⟩ = some (.slice (some ⟨b, 0, none⟩) n cb)) :
    w.cell? ⟨b, j, none⟩ = some (.int .i64 (f i j)) ∧ w.frozen? ⟨b, j, none⟩ = false ∧ lo ≤ b ∧ b < hi ∧ b < w.heap.size ∧ g ≠ b ∧
      ∀ x, I64 x → OwR lo hi (w.setCell ⟨b, j, none⟩ (.int .i64 x)) (.slice (some ⟨g, 0, none⟩) n c) (tab n (put f i j x)) := by
  obtain ⟨g', c', b', cb', e1, e2, e3, e4, e5, e6, e7, _, _, _, e9, _, e8⟩ := h.store (k := i) (j := j) (by rw [tab_len]; exact hi') (by rw [tab_rlen f hi']; exact hj)
  rw [tab_rlen f hi'] at e2
  rw [tab_get f hi' hj] at e3
  simp only [Value.slice.injEq, Option.some.injEq, Addr.mk.injEq] at e1
  obtain ⟨⟨rfl, _⟩, _, rfl⟩ := e1
  rw [hc] at e2
  simp only [Option.some.injEq, Value.slice.injEq, Addr.mk.injEq] at e2
  obtain ⟨⟨rfl, _⟩, _, rfl⟩ := e2
  refine ⟨e3, e4, e5, e6, e7, e9, fun x hx => ?_⟩
  have := e8 x hx
  rw [tab_set f x hi' hj] at this
  exact this
/-- the rows while the edges are counted, with the headers of two rows known -/
structure LapJ (L H1 S g c A B b1 c1 b2 c2 : Nat) (a : Option Addr) (n cc B0 : Nat) (w : World) (f : Nat → Nat → Int) (W : World) : Prop where
  rows : OwR L H1 W (.slice (some ⟨g, 0, none⟩) S c) (tab S f)
  r1 : W.cell? ⟨g, A, none⟩ = some (.slice (some ⟨b1, 0, none⟩) S c1)
  r2 : W.cell? ⟨g, B, none⟩ = some (.slice (some ⟨b2, 0, none⟩) S c2)
  below : Below B0 w W
  k0 : W.cell? ⟨B0, 0, none⟩ = some (.int .i64 (S : Int))
  k1 : W.cell? ⟨B0, 1, none⟩ = some (.slice a n cc)
  size : H1 ≤ W.heap.size
  lo : B0 < L
theorem LapJ.drewN {L H1 S g c A B b1 c1 b2 c2 : Nat} {a : Option Addr} {n cc B0 : Nat} {w : World} {f : Nat → Nat → Int} {W : World} (h : LapJ L H1 S g c A B b1 c1 b2 c2 a n cc B0 w f W) (N : Nat) : LapJ L H1 S g c A B b1 c1 b2 c2 a n cc B0 w f (W.drewN N) :=
  ⟨h.rows.qt ((Qt.refl W).drewN N), h.r1, h.r2, h.below.drewN N, h.k0, h.k1, h.size, h.lo⟩
theorem LapJ.bump1 {L H1 S g c A B b1 c1 b2 c2 : Nat} {a : Option Addr} {n cc B0 : Nat} {w : World} {f : Nat → Nat → Int} {W : World} (h : LapJ L H1 S g c A B b1 c1 b2 c2 a n cc B0 w f W) (hA : A < S) {j : Nat} (hj : j < S) :
    W.cell? ⟨b1, j, none⟩ = some (.int .i64 (f A j)) ∧ W.frozen? ⟨b1, j, none⟩ = false ∧ ∀ x, I64 x → LapJ L H1 S g c A B b1 c1 b2 c2 a n cc B0 w (put f A j x) (W.setCell ⟨b1, j, none⟩ (.int .i64 x)) := by
  obtain ⟨e1, e2, e3, e4, e5, e6, e7⟩ := h.rows.row2 hA hj h.r1
  have hlo := h.lo
  have hch : Chg b1 (b1 + 1) W (W.setCell ⟨b1, j, none⟩ (.int .i64 (0 : Int))) := (Chg.refl b1 (b1 + 1) W).setCell (p := ⟨b1, j, none⟩) ⟨Nat.le_refl _, Nat.lt_succ_self _⟩ _
  refine ⟨e1, e2, fun x hx => ?_⟩
  have hch : Chg b1 (b1 + 1) W (W.setCell ⟨b1, j, none⟩ (.int .i64 x)) := (Chg.refl b1 (b1 + 1) W).setCell (p := ⟨b1, j, none⟩) ⟨Nat.le_refl _, Nat.lt_succ_self _⟩ _
  exact ⟨e7 x hx, hch.cell h.r1 (by show g < b1 ∨ b1 + 1 ≤ g; omega), hch.cell h.r2 (by show g < b1 ∨ b1 + 1 ≤ g; omega), h.below.setCell (p := ⟨b1, j, none⟩) (by show B0 ≤ b1; omega) _, hch.cell h.k0 (.inl (by show B0 < b1; omega)), hch.cell h.k1 (.inl (by show B0 < b1; omega)), by rw [World.size_setCell]; exact h.size, h.lo⟩
theorem LapJ.bump2 {L H1 S g c A B b1 c1 b2 c2 : Nat} {a : Option Addr} {n cc B0 : Nat} {w : World} {f : Nat → Nat → Int} {W : World} (h : LapJ L H1 S g c A B b1 c1 b2 c2 a n cc B0 w f W) (hB : B < S) {j : Nat} (hj : j < S) :
    W.cell? ⟨b2, j, none⟩ = some (.int .i64 (f B j)) ∧ W.frozen? ⟨b2, j, none⟩ = false ∧ ∀ x, I64 x → LapJ L H1 S g c A B b1 c1 b2 c2 a n cc B0 w (put f B j x) (W.setCell ⟨b2, j, none⟩ (.int .i64 x)) := by
  obtain ⟨e1, e2, e3, e4, e5, e6, e7⟩ := h.rows.row2 hB hj h.r2
  have hlo := h.lo
  refine ⟨e1, e2, fun x hx => ?_⟩
  have hch : Chg b2 (b2 + 1) W (W.setCell ⟨b2, j, none⟩ (.int .i64 x)) := (Chg.refl b2 (b2 + 1) W).setCell (p := ⟨b2, j, none⟩) ⟨Nat.le_refl _, Nat.lt_succ_self _⟩ _
  exact ⟨e7 x hx, hch.cell h.r1 (by show g < b2 ∨ b2 + 1 ≤ g; omega), hch.cell h.r2 (by show g < b2 ∨ b2 + 1 ≤ g; omega), h.below.setCell (p := ⟨b2, j, none⟩) (by show B0 ≤ b2; omega) _, hch.cell h.k0 (.inl (by show B0 < b2; omega)), hch.cell h.k1 (.inl (by show B0 < b2; omega)), by rw [World.size_setCell]; exact h.size, h.lo⟩

end Go.Proofs.Ytolipjemabmlkaa
