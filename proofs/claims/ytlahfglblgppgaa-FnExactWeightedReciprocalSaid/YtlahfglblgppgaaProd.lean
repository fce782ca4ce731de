/- Products of square rows, by the program; sums on diagonals. -/
import Derived.Test.YtlahfglblgppgaaZero
import Derived.Test.YtlahfglblgppgaaCoreA
import Derived.StillTailTactics
set_option linter.unusedSimpArgs false
set_option linter.unusedVariables false
namespace Go.Proofs.Ytlahfglblgppgaa
open Go.RowKit

theorem RdI.at' {lo hi : Nat} {w : World} {a : Option Addr} {n c : Nat} {xs : List Int} (h : RdI lo hi w (.slice a n c) xs) (hn : xs.length = n) : ∀ j, j < n → ∃ b off, a = some ⟨b, off, none⟩ ∧ w.cell? ⟨b, off + j, none⟩ = some (.int .i64 (xs.getD j 0)) := by
  intro j hj
  obtain ⟨_, _, ⟨a', c', rfl, _⟩ | ⟨b, off, c', hv, _, _, _, hc⟩⟩ := h
  · simp at hn; omega
  · simp only [Value.slice.injEq] at hv
    exact ⟨b, off, hv.1, hc j (by omega)⟩
theorem RdR.ent {lo hi : Nat} {w : World} {a : Option Addr} {n c : Nat} {f : Nat → Nat → Int} (h : RdR lo hi w (.slice a n c) (tab n f)) {i j : Nat} (hi' : i < n) (hj : j < n) :
    ∃ b off b' off' c', a = some ⟨b, off, none⟩ ∧ w.cell? ⟨b, off + i, none⟩ = some (.slice (some ⟨b', off', none⟩) n c') ∧ w.cell? ⟨b', off' + j, none⟩ = some (.int .i64 (f i j)) := by
  obtain ⟨b, off, rv, e1, e2, e3⟩ := h.at (tab_len _ _) i hi'
  obtain ⟨a', c', rfl⟩ := e3.shape
  rw [tab_rlen f hi'] at e2 e3
  obtain ⟨b', off', rfl, e4⟩ := e3.at' (tab_rlen f hi') j hj
  rw [tab_get f hi' hj] at e4
  exact ⟨b, off, b', off', c', e1, e2, e4⟩
theorem OwR.ent {lo hi : Nat} {w : World} {a : Option Addr} {n c : Nat} {f : Nat → Nat → Int} (h : OwR lo hi w (.slice a n c) (tab n f)) {i j : Nat} (hi' : i < n) (hj : j < n) :
    ∃ g b cb, a = some ⟨g, 0, none⟩ ∧ w.cell? ⟨g, i, none⟩ = some (.slice (some ⟨b, 0, none⟩) n cb) ∧ w.cell? ⟨b, j, none⟩ = some (.int .i64 (f i j)) ∧ w.frozen? ⟨b, j, none⟩ = false ∧ lo ≤ b ∧ b < hi ∧ b < w.heap.size ∧
      ∀ x, I64 x → OwR lo hi (w.setCell ⟨b, j, none⟩ (.int .i64 x)) (.slice a n c) (tab n (put f i j x)) := by
  obtain ⟨g, c', b, cb, e1, e2, e3, e4, e5, e6, e7, _, _, _, _, _, e8⟩ := h.store (k := i) (j := j) (by rw [tab_len]; exact hi') (by rw [tab_rlen f hi']; exact hj)
  rw [tab_rlen f hi'] at e2
  rw [tab_get f hi' hj] at e3
  simp only [Value.slice.injEq] at e1
  refine ⟨g, b, cb, e1.1, e2, e3, e4, e5, e6, e7, fun x hx => ?_⟩
  have := e8 x hx
  rw [tab_set f x hi' hj] at this
  exact this

/-- the product on the way: rows below i are done, of row i the numbers below j, and at i, j the first k products are added up -/
def stg (n : Nat) (A B : Nat → Nat → Int) (i j k : Nat) : Nat → Nat → Int := fun a b => if a < i ∨ (a = i ∧ b < j) then mulM n A B a b else if a = i ∧ b = j then dotW (A a) (fun q => B q b) k else 0
theorem stg_start (n : Nat) (A B : Nat → Nat → Int) : stg n A B 0 0 0 = zeros := by
  funext a b
  unfold stg zeros
  by_cases h : a = 0 ∧ b = 0
  · simp [h, dotW]
  · simp [h]
theorem stg_at (n : Nat) (A B : Nat → Nat → Int) (i j k : Nat) : stg n A B i j k i j = dotW (A i) (fun q => B q j) k := by simp [stg]
theorem stg_put (n : Nat) (A B : Nat → Nat → Int) (i j k : Nat) : put (stg n A B i j k) i j (wrap64 (dotW (A i) (fun q => B q j) k + wrap64 (A i k * B k j))) = stg n A B i j (k + 1) := by
  funext a b
  unfold put stg
  by_cases h : a = i ∧ b = j
  · obtain ⟨rfl, rfl⟩ := h
    simp [dotW]
  · rw [if_neg h, if_neg h, if_neg h]
theorem stg_next (n : Nat) (A B : Nat → Nat → Int) (i j : Nat) : stg n A B i j n = stg n A B i (j + 1) 0 := by
  funext a b
  unfold stg
  by_cases h : a = i ∧ b = j
  · obtain ⟨rfl, rfl⟩ := h
    simp [mulM]
  · by_cases h1 : a < i ∨ (a = i ∧ b < j)
    · have h2 : a < i ∨ (a = i ∧ b < j + 1) := by omega
      rw [if_pos h1, if_pos h2]
    · have h2 : ¬ (a < i ∨ (a = i ∧ b < j + 1)) := by omega
      rw [if_neg h1, if_neg h2, if_neg h]
      by_cases h3 : a = i ∧ b = j + 1
      · rw [if_pos h3]; rfl
      · rw [if_neg h3]
theorem stg_row (n : Nat) (A B : Nat → Nat → Int) (i : Nat) : tab n (stg n A B i n 0) = tab n (stg n A B (i + 1) 0 0) := by
  refine tab_congr fun a b ha hb => ?_
  unfold stg
  by_cases h1 : a < i ∨ (a = i ∧ b < n)
  · have h2 : a < i + 1 ∨ (a = i + 1 ∧ b < 0) := by omega
    rw [if_pos h1, if_pos h2]
  · have h2 : ¬ (a < i + 1 ∨ (a = i + 1 ∧ b < 0)) := by omega
    rw [if_neg h1, if_neg h2]
    have h3 : ¬ (a = i ∧ b = n) := by omega
    rw [if_neg h3]
    by_cases h4 : a = i + 1 ∧ b = 0
    · rw [if_pos h4]; rfl
    · rw [if_neg h4]
theorem stg_all (n : Nat) (A B : Nat → Nat → Int) : tab n (stg n A B n 0 0) = tab n (mulM n A B) := by
  refine tab_congr fun a b ha hb => ?_
  unfold stg
  rw [if_pos (by omega)]

end Go.Proofs.Ytlahfglblgppgaa
