/- CyclicCover of the program. -/
import Derived.Test.YtbfgehgjecgfmaaCyc
import Derived.Deep.RegionHeld3
import Derived.Deep.RegionLaw
set_option linter.unusedSimpArgs false
set_option linter.unusedVariables false
set_option maxRecDepth 100000
namespace Go.Proofs.Ytbfgehgjecgfmaa
open Go.RowKit

theorem RdI.cellsC {lo hi : Nat} {w : World} {a : Option Addr} {n c : Nat} {xs : List Int} (h : RdI lo hi w (.slice a n c) xs) (hn : xs.length = n) : ∀ j, j < n → ∃ b off, a = some ⟨b, off, none⟩ ∧ w.cell? ⟨b, off + j, none⟩ = some (.int .i64 (xs.getD j 0)) := by
  intro j hj
  obtain ⟨_, _, ⟨a', c', rfl, _⟩ | ⟨b, off, c', hv, _, _, _, hc⟩⟩ := h
  · simp at hn; omega
  · simp only [Value.slice.injEq] at hv
    obtain ⟨rfl, _, _⟩ := hv
    exact ⟨b, off, rfl, hc j (by omega)⟩


/-- a block of four cells -/
structure Box4 (w : World) (b : Nat) (v0 v1 v2 v3 : Value) : Prop where
  lt : b < w.heap.size
  c0 : w.cell? ⟨b, 0, none⟩ = some v0
  c1 : w.cell? ⟨b, 1, none⟩ = some v1
  c2 : w.cell? ⟨b, 2, none⟩ = some v2
  c3 : w.cell? ⟨b, 3, none⟩ = some v3
  f0 : w.frozen? ⟨b, 0, none⟩ = false
  f1 : w.frozen? ⟨b, 1, none⟩ = false
  f2 : w.frozen? ⟨b, 2, none⟩ = false
  f3 : w.frozen? ⟨b, 3, none⟩ = false
theorem Box4.chg {w w' : World} {b lo hi : Nat} {v0 v1 v2 v3 : Value} (h : Box4 w b v0 v1 v2 v3) (hc : Chg lo hi w w') (hb : b < lo ∨ hi ≤ b) : Box4 w' b v0 v1 v2 v3 :=
  ⟨Nat.lt_of_lt_of_le h.lt hc.size, hc.cell h.c0 hb, hc.cell h.c1 hb, hc.cell h.c2 hb, hc.cell h.c3 hb, hc.frozen h.lt hb h.f0, hc.frozen h.lt hb h.f1, hc.frozen h.lt hb h.f2, hc.frozen h.lt hb h.f3⟩
theorem Box4.below {w w' : World} {b : Nat} {v0 v1 v2 v3 : Value} (h : Box4 w b v0 v1 v2 v3) (hc : Below w.heap.size w w') : Box4 w' b v0 v1 v2 v3 := h.chg (hc.chg 0 0) (.inr (Nat.zero_le _))
theorem Box4.qt {w w' : World} {b : Nat} {v0 v1 v2 v3 : Value} (h : Box4 w b v0 v1 v2 v3) (hc : Qt w w') : Box4 w' b v0 v1 v2 v3 := h.below hc.below

def shB (sh : Int) : Bool := decide (1 ≤ sh) && decide (sh ≤ 4)
theorem isSheets (sh : Int) (w : World) : Calls Try.prog 146 #[.int .i64 sh] w fun e w' => e = .returned (.bool (shB sh)) ∧ Qt w w' := by
  by_cases h1 : 1 ≤ sh
  · go_enter Try.func146, Try.ntmps146
    go_wp2
    go_ret
    exact ⟨by first | (simp [shB, *]; done) | (simp [shB, *]; intros; omega), Qt.refl _⟩
  · go_enter Try.func146, Try.ntmps146
    go_wp2
    go_ret
    exact ⟨by first | (simp [shB, *]; done) | (simp [shB, *]; intros; omega), Qt.refl _⟩

def w1k (y : Int) : Bool := decide (-1000 ≤ y) && decide (y ≤ 1000)
theorem isWithin1k (y : Int) (w : World) : Calls Try.prog 148 #[.int .i64 y, .int .i64 1000] w fun e w' => e = .returned (.bool (w1k y)) ∧ Qt w w' := by
  by_cases h1 : -1000 ≤ y
  · go_enter Try.func148, Try.ntmps148
    go_wp2
    go_ret
    exact ⟨by first | (simp [w1k, *]; done) | (simp [w1k, *]; intros; omega), Qt.refl _⟩
  · go_enter Try.func148, Try.ntmps148
    go_wp2
    go_ret
    exact ⟨by first | (simp [w1k, *]; done) | (simp [w1k, *]; intros; omega), Qt.refl _⟩

def cycB (sh : Int) (n : Nat) (ys : List Int) : Bool := shB sh && (decide (ys.length = n) && ys.all w1k)
def cycCode (s : Int) (xss : List (List Int)) (sh : Int) (ys : List Int) : Int := if grB s xss then (if cycB sh xss.length ys then 0 else 2) else 1
theorem all_takeI {ys : List Int} {f : Int → Bool} {k : Nat} (hk : k < ys.length) (h : (ys.take k).all f = true) (e : f (ys.getD k 0) = true) : (ys.take (k+1)).all f = true := by
  rw [List.take_add_one, List.all_append, h, List.getElem?_eq_getElem hk]
  simp [List.getD, List.getElem?_eq_getElem hk] at e
  simp [e]
theorem all_notI {ys : List Int} {f : Int → Bool} {k : Nat} (hk : k < ys.length) (e : f (ys.getD k 0) = false) : ys.all f = false := by
  simp [List.getD, List.getElem?_eq_getElem hk] at e
  rw [List.all_eq_false]
  exact ⟨_, List.getElem_mem hk, by simp [e]⟩

end Go.Proofs.Ytbfgehgjecgfmaa
