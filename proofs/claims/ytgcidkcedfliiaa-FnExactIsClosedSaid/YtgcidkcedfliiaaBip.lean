/- IsBipartite: both try all choices of colours. -/
import Derived.Test.YtgcidkcedfliiaaRowsMore
import Derived.Test.YtgcidkcedfliiaaImplDegrees
set_option linter.unusedSimpArgs false
set_option linter.unusedVariables false
namespace Go.Proofs.Ytgcidkcedfliiaa
open Go.RowKit

def sb (c x : Int) : Int := bits .and .i64 (c / 2 ^ x.toNat) 1
def sepE (c : Int) (e : List Int) : Bool := !(sb c (e.getD 0 0) == sb c (e.getD 1 0))
def sepB (c : Int) (xss : List (List Int)) : Bool := xss.all (sepE c)
def bipB (m : Nat) (xss : List (List Int)) : Bool := (List.range m).any (fun c : Nat => sepB (c : Int) xss)
def bipartite (s : Int) (xss : List (List Int)) : Bool × Int := if grB s xss then (bipB (2 ^ s.toNat) xss, 0) else (false, 1)

theorem edges_cells {B n c' : Nat} {a' : Option Addr} {w1 : World} {xss : List (List Int)} (ho : w1.ownsRow B 64 2 (.slice a' n c') n (flat (pairs xss))) (hn : xss.length = n) :
    ∀ j, j < n → ∃ b, a' = some ⟨b, 0, none⟩ ∧ w1.cell? ⟨b, j * 2, none⟩ = some (.int .i64 ((xss.getD j []).getD 0 0)) ∧ w1.cell? ⟨b, j * 2 + 1, none⟩ = some (.int .i64 ((xss.getD j []).getD 1 0)) := by
  intro j hj
  obtain ⟨g, cap, hv, _, _⟩ := ho.form (by omega)
  simp only [Value.slice.injEq] at hv
  obtain ⟨rfl, _, rfl⟩ := hv
  obtain ⟨f1, f2⟩ := flat_get xss j (by omega)
  exact ⟨g, rfl, (ho.cellAt (j * 2) (by omega)).trans f1, (ho.cellAt (j * 2 + 1) (by omega)).trans f2⟩

theorem any_not_take {m k : Nat} {f : Nat → Bool} (h : (List.range k).any f = false) (e : f k = false) : (List.range (k+1)).any f = false := by
  rw [List.range_succ, List.any_append, h]; simp [e]
theorem any_yes {m k : Nat} {f : Nat → Bool} (h : k < m) (e : f k = true) : (List.range m).any f = true := by
  rw [List.any_eq_true]; exact ⟨k, List.mem_range.2 h, e⟩
theorem two_pow {s : Int} (h1 : 1 ≤ s) (h2 : s ≤ 8) : ∃ m : Nat, 2 ^ s.toNat = m ∧ m ≤ 256 ∧ wrap64 ((2 : Int) ^ s.toNat) = (m : Int) := by
  obtain ⟨t, rfl⟩ : ∃ t : Nat, s = t := ⟨s.toNat, by omega⟩
  have : t = 1 ∨ t = 2 ∨ t = 3 ∨ t = 4 ∨ t = 5 ∨ t = 6 ∨ t = 7 ∨ t = 8 := by omega
  rcases this with rfl | rfl | rfl | rfl | rfl | rfl | rfl | rfl <;> exact ⟨_, rfl, by decide, by decide +kernel⟩

theorem all_succ {xss : List (List Int)} {k : Nat} {f : List Int → Bool} (hk : k < xss.length) : (xss.take (k+1)).all f = ((xss.take k).all f && f (xss.getD k [])) := by
  rw [List.take_add_one, List.all_append, List.getElem?_eq_getElem hk]
  simp [List.getD, List.getElem?_eq_getElem hk]
theorem all_take_no {xss : List (List Int)} {k : Nat} {f : List Int → Bool} (h : (xss.take k).all f = false) : xss.all f = false := by
  rw [List.all_eq_false] at h ⊢
  obtain ⟨x, hx, e⟩ := h
  exact ⟨x, List.mem_of_mem_take hx, e⟩

end Go.Proofs.Ytgcidkcedfliiaa
