/- WalkMatrix of the model. -/
import Derived.Test.YtolipjemabmlkaaSpecCl
set_option linter.unusedSimpArgs false
set_option linter.unusedVariables false
namespace Go.Proofs.Ytolipjemabmlkaa
open Go.RowKit

/-- the numbers of the walks from the directed edge a, added up by their last edges below b -/
def wmI (P : Nat → Nat → Int) (ds : List (Int × Int)) (a : Nat) (f : Nat → Nat → Int) : Nat → Nat → Nat → Int
  | 0 => f
  | b + 1 => put (wmI P ds a f b) (ds.getD a (0, 0)).1.toNat (ds.getD b (0, 0)).2.toNat (wrap64 (wmI P ds a f b (ds.getD a (0, 0)).1.toNat (ds.getD b (0, 0)).2.toNat + P a b))
def wmO (P : Nat → Nat → Int) (ds : List (Int × Int)) (N : Nat) : Nat → Nat → Nat → Int
  | 0 => zeros
  | a + 1 => wmI P ds a (wmO P ds N a) N
def wmRes (S kk N : Nat) (ds : List (Int × Int)) : List (List Int) := if kk = 0 then tab S unitM else tab S (wmO (pwZ N (edgeM ds) (kk - 1)) ds N N)
theorem wmRes_len (S kk N : Nat) (ds : List (Int × Int)) : (wmRes S kk N ds).length = S := by unfold wmRes; split <;> simp [tab_len]
theorem wmRes_lens (S kk N : Nat) (ds : List (Int × Int)) : lens (wmRes S kk N ds) = S * S := by unfold wmRes; split <;> simp [tab_lens]
def wmOf (s : Int) (xss : List (List Int)) (k : Int) : List (List Int) × Int :=
  if ccode s xss k 0 12 = 0 then (wmRes s.toNat k.toNat (2 * xss.length) (dirE (pairs xss)), 0) else ([], ccode s xss k 0 12)
theorem wmOf_lens (s : Int) (xss : List (List Int)) (k : Int) : lens (wmOf s xss k).1 ≤ 1000 := by
  unfold wmOf
  by_cases h : ccode s xss k 0 12 = 0
  · rw [if_pos h]
    have h1 := grB_iff (ccode_ok h).1
    have h2 : s.toNat ≤ 8 := by omega
    have h3 := Nat.mul_le_mul h2 h2
    simp only [wmRes_lens]; omega
  · rw [if_neg h]; simp [lens]
/-- the ends of directed edges are vertices -/
theorem dirE_in {s : Int} {xss : List (List Int)} (hg : grB s xss = true) {m : Nat} (hm : m < (dirE (pairs xss)).length) : (0 ≤ ((dirE (pairs xss)).getD m (0, 0)).1 ∧ ((dirE (pairs xss)).getD m (0, 0)).1 < s) ∧ (0 ≤ ((dirE (pairs xss)).getD m (0, 0)).2 ∧ ((dirE (pairs xss)).getD m (0, 0)).2 < s) := by
  obtain ⟨_, _, _, h4⟩ := grB_iff hg
  rw [dirE_len, pairs_len] at hm
  obtain ⟨q, hq⟩ : ∃ q, m = 2 * q ∨ m = 2 * q + 1 := ⟨m / 2, by omega⟩
  rcases hq with rfl | rfl
  · have := h4 q (by omega)
    rw [dirE_even, pairs_getD]
    simp only
    omega
  · have := h4 q (by omega)
    rw [dirE_odd _ _ (by rw [pairs_len]; omega), pairs_getD]
    simp only
    omega

/-- rows of zeros, the first k ones with a 1 on the diagonal where told -/
def zu (z : Bool) : Nat → Nat → Int := if z then unitM else zeros
theorem zu_row (z : Bool) {S k : Nat} (h : k < S) : (if z then ((madeCells #[Value.int .i64 0] S).toList).set k (.int .i64 1) else (madeCells #[Value.int .i64 0] S).toList) = ((List.range S).map (zu z k)).map (Value.int .i64) := by
  cases z with
  | true =>
    rw [if_pos rfl, toList_madeCells_one]
    apply List.ext_getElem
    · simp
    · intro j h1 h2
      rw [List.getElem_set]
      by_cases e : k = j
      · subst e; simp [zu, unitM]
      · simp [zu, unitM, e]
  | false =>
    rw [if_neg (by simp), toList_madeCells_one]
    apply List.ext_getElem
    · simp
    · intro j h1 h2
      simp [zu, zeros]
theorem zu_I64 (z : Bool) (i j : Nat) : I64 (zu z i j) := by
  cases z <;> simp [zu, zeros, unitM]
  · exact I64_zero
  · split <;> (unfold I64; omega)

theorem OwR.ent2 {lo hi : Nat} {w : World} {a : Option Addr} {n c : Nat} {f : Nat → Nat → Int} (h : OwR lo hi w (.slice a n c) (tab n f)) {i j : Nat} (hi' : i < n) (hj : j < n) :
    ∃ g b cb, a = some ⟨g, 0, none⟩ ∧ w.cell? ⟨g, i, none⟩ = some (.slice (some ⟨b, 0, none⟩) n cb) ∧ w.cell? ⟨b, j, none⟩ = some (.int .i64 (f i j)) ∧ w.frozen? ⟨b, j, none⟩ = false ∧ lo ≤ b ∧ b < hi ∧ b < w.heap.size ∧ g ≠ b ∧
      ∀ x, I64 x → OwR lo hi (w.setCell ⟨b, j, none⟩ (.int .i64 x)) (.slice a n c) (tab n (put f i j x)) := by
  obtain ⟨g, c', b, cb, e1, e2, e3, e4, e5, e6, e7, _, _, _, e9, _, e8⟩ := h.store (k := i) (j := j) (by rw [tab_len]; exact hi') (by rw [tab_rlen f hi']; exact hj)
  rw [tab_rlen f hi'] at e2
  rw [tab_get f hi' hj] at e3
  simp only [Value.slice.injEq] at e1
  refine ⟨g, b, cb, e1.1, e2, e3, e4, e5, e6, e7, e9, fun x hx => ?_⟩
  have := e8 x hx
  rw [tab_set f x hi' hj] at this
  exact this

end Go.Proofs.Ytolipjemabmlkaa
