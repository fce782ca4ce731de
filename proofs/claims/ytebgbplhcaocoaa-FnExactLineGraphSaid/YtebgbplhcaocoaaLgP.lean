/- Line graphs: plain facts. -/
import Derived.Test.YtebgbplhcaocoaaLgM
import Derived.Test.YtebgbplhcaocoaaSpOf
set_option linter.unusedSimpArgs false
set_option linter.unusedVariables false
set_option maxRecDepth 100000
namespace Go.Proofs.Ytebgbplhcaocoaa
open Go.RowKit

/-- what the vertices before v give with the edges i and k -/
def vtK (P Q : Nat → Nat) (i k : Nat) : Nat → List (Int × Int)
  | 0 => []
  | v + 1 => if (P i = v ∨ Q i = v) ∧ (P k = v ∨ Q k = v) then vtK P Q i k v ++ [((i : Int), (k : Int))] else vtK P Q i k v
theorem vtK_yes {P Q : Nat → Nat} {i k v : Nat} (h : (P i = v ∨ Q i = v) ∧ (P k = v ∨ Q k = v)) : vtK P Q i k (v + 1) = vtK P Q i k v ++ [((i : Int), (k : Int))] := by
  show (if _ then _ else _) = _
  rw [if_pos h]
theorem vtK_no {P Q : Nat → Nat} {i k v : Nat} (h : ¬ ((P i = v ∨ Q i = v) ∧ (P k = v ∨ Q k = v))) : vtK P Q i k (v + 1) = vtK P Q i k v := by
  show (if _ then _ else _) = _
  rw [if_neg h]
theorem vtK_len (P Q : Nat → Nat) (i k : Nat) : ∀ v, (vtK P Q i k v).length ≤ v
  | 0 => Nat.le_refl _
  | v + 1 => by
    have := vtK_len P Q i k v
    unfold vtK
    split
    · simp; omega
    · omega
def cnW (P Q : Nat → Nat) (i k v : Nat) : Nat := (if P i < v ∧ (P k = P i ∨ Q k = P i) then 1 else 0) + (if Q i < v ∧ (P k = Q i ∨ Q k = Q i) then 1 else 0)
theorem cnW_s {P Q : Nat → Nat} {i k v : Nat} (hne : P i ≠ Q i) : cnW P Q i k (v + 1) = cnW P Q i k v + (if (P i = v ∨ Q i = v) ∧ (P k = v ∨ Q k = v) then 1 else 0) := by
  unfold cnW
  by_cases a : P i = v
  · subst a
    have b : ¬ Q i = P i := fun e => hne e.symm
    have e3 : (Q i < P i + 1) ↔ (Q i < P i) := by omega
    by_cases A : P k = P i ∨ Q k = P i
    · simp [A, b, e3, Nat.lt_irrefl]
      omega
    · simp [A, b, e3, Nat.lt_irrefl]
  · by_cases b : Q i = v
    · subst b
      have e3 : (P i < Q i + 1) ↔ (P i < Q i) := by omega
      by_cases A : P k = Q i ∨ Q k = Q i
      · simp [A, a, e3, Nat.lt_irrefl]
      · simp [A, a, e3, Nat.lt_irrefl]
    · have e1 : (P i < v + 1) ↔ (P i < v) := by omega
      have e2 : (Q i < v + 1) ↔ (Q i < v) := by omega
      simp [e1, e2, a, b]
theorem vtK_rep {P Q : Nat → Nat} {i : Nat} (k : Nat) (hne : P i ≠ Q i) : ∀ v, vtK P Q i k v = List.replicate (cnW P Q i k v) ((i : Int), (k : Int))
  | 0 => by simp [vtK, cnW]
  | v + 1 => by
    have ih := vtK_rep (P := P) (Q := Q) (i := i) k hne v
    rw [cnW_s hne]
    by_cases h : (P i = v ∨ Q i = v) ∧ (P k = v ∨ Q k = v)
    · rw [vtK_yes h, if_pos h, ih, List.replicate_succ']
    · rw [vtK_no h, if_neg h, ih]; rfl
theorem memB_two (a b x : Nat) : memB [(a : Int), (b : Int)] x = decide (a = x ∨ b = x) := by
  simp only [memB, List.length_cons, List.length_nil]
  show ((List.range 2).any _) = _
  simp [List.range_succ]
  by_cases h1 : a = x
  · subst h1; simp
  · by_cases h2 : b = x
    · subst h2; simp
    · have e1 : ¬ (a : Int) = (x : Int) := by omega
      have e2 : ¬ (b : Int) = (x : Int) := by omega
      simp [h1, h2, e1, e2]
theorem vtK_eq {P Q : Nat → Nat} {i S : Nat} (k : Nat) (hne : P i ≠ Q i) (hP : P i < S) (hQ : Q i < S) : vtK P Q i k S = mtK P Q i k 2 := by
  rw [vtK_rep k hne]
  simp only [mtK, memB_two, cnW, hP, hQ, true_and, if_true, Nat.succ_ne_zero, if_false, List.nil_append, decide_eq_true_eq, Nat.one_ne_zero]
  by_cases h1 : P k = P i ∨ Q k = P i
  · by_cases h2 : P k = Q i ∨ Q k = Q i
    · simp [h1, h2]
    · simp [h1, h2]
  · by_cases h2 : P k = Q i ∨ Q k = Q i
    · simp [h1, h2]
    · simp [h1, h2]
/-- the ends of an edge, as numbers -/
def pE (xss : List (List Int)) (k : Nat) : Nat := ((xss.getD k []).getD 0 0).toNat
def qE (xss : List (List Int)) (k : Nat) : Nat := ((xss.getD k []).getD 1 0).toNat
theorem pq_get {S : Nat} {xss : List (List Int)} (hg : grB (S : Int) xss = true) {k : Nat} (hk : k < xss.length) : (pairs xss).getD k (0, 0) = ((pE xss k : Int), (qE xss k : Int)) ∧ pE xss k < S ∧ qE xss k < S := by
  have h := (grB_iff hg).2.2.2 k hk
  rw [pairs_get hk]
  unfold pE qE
  refine ⟨?_, by omega, by omega⟩
  rw [Int.toNat_of_nonneg h.2.1, Int.toNat_of_nonneg h.2.2.2.1]
def lgL (xss : List (List Int)) : List (Int × Int) := mtT (pE xss) (qE xss) xss.length xss.length
def lgOf (s : Int) (xss : List (List Int)) : (Int × List (List Int)) × Int :=
  if grB s xss = true then (if xss.length = 0 ∨ lpE (pairs xss) = true then ((0, []), 5) else if xss.length ≤ 8 ∧ (lgL xss).length ≤ 10 then (((xss.length : Int), unp (lgL xss)), 0) else ((0, []), 3)) else ((0, []), 1)
theorem lgOf_no {s : Int} {xss : List (List Int)} (h : grB s xss = false) : lgOf s xss = ((0, []), 1) := by unfold lgOf; rw [h]; rfl
theorem lgOf_st {s : Int} {xss : List (List Int)} (h : grB s xss = true) (h2 : xss.length = 0 ∨ lpE (pairs xss) = true) : lgOf s xss = ((0, []), 5) := by unfold lgOf; rw [if_pos h, if_pos h2]
theorem lgOf_lim {s : Int} {xss : List (List Int)} (h : grB s xss = true) (h2 : ¬ (xss.length = 0 ∨ lpE (pairs xss) = true)) (h3 : ¬ (xss.length ≤ 8 ∧ (lgL xss).length ≤ 10)) : lgOf s xss = ((0, []), 3) := by unfold lgOf; rw [if_pos h, if_neg h2, if_neg h3]
theorem lgOf_yes {s : Int} {xss : List (List Int)} (h : grB s xss = true) (h2 : ¬ (xss.length = 0 ∨ lpE (pairs xss) = true)) (h3 : xss.length ≤ 8 ∧ (lgL xss).length ≤ 10) : lgOf s xss = (((xss.length : Int), unp (lgL xss)), 0) := by unfold lgOf; rw [if_pos h, if_neg h2, if_pos h3]
theorem lgOf_lens (s : Int) (xss : List (List Int)) : lens (lgOf s xss).1.2 ≤ 1000 := by
  unfold lgOf
  split
  · split
    · simp [lens]
    · split
      · rename_i h; simp only [unp_lensS]; omega
      · simp [lens]
  · simp [lens]
/-- all edges that meet lie among the edges of the graph -/
theorem mtK_mem {P Q : Nat → Nat} {i k : Nat} : ∀ j, ∀ e ∈ mtK P Q i k j, e = ((i : Int), (k : Int))
  | 0, e, h => by simp [mtK] at h
  | j + 1, e, h => by
    unfold mtK at h
    rcases List.mem_append.mp h with h | h
    · exact mtK_mem j e h
    · split at h <;> simp at h <;> first | exact h | exact h.2
theorem mtI_mem {P Q : Nat → Nat} {i : Nat} : ∀ k, ∀ e ∈ mtI P Q i k, e.1 = (i : Int) ∧ 0 ≤ e.2 ∧ e.2 < (k : Int)
  | 0, e, h => by simp [mtI] at h
  | k + 1, e, h => by
    unfold mtI at h
    rcases List.mem_append.mp h with h | h
    · have := mtI_mem k e h; omega
    · split at h
      · rw [mtK_mem 2 e h]; simp; omega
      · simp at h
theorem mtT_mem {P Q : Nat → Nat} {n : Nat} : ∀ i, i ≤ n → ∀ e ∈ mtT P Q n i, (0 ≤ e.1 ∧ e.1 < (n : Int)) ∧ 0 ≤ e.2 ∧ e.2 < (n : Int)
  | 0, _, e, h => by simp [mtT] at h
  | i + 1, hi, e, h => by
    unfold mtT at h
    rcases List.mem_append.mp h with h | h
    · exact mtT_mem i (by omega) e h
    · have := mtI_mem n e h; omega
theorem mtT_len (P Q : Nat → Nat) (n : Nat) : ∀ i, (mtT P Q n i).length ≤ i * (2 * n)
  | 0 => by simp [mtT]
  | i + 1 => by
    have := mtT_len P Q n i
    have := mtI_len P Q i n
    unfold mtT
    rw [List.length_append, Nat.succ_mul]; omega
theorem lgL_grB {xss : List (List Int)} (h1 : 1 ≤ xss.length) : grB (xss.length : Int) (unp (lgL xss)) = decide (xss.length ≤ 8 ∧ (lgL xss).length ≤ 10) := by
  have hm := mtT_mem (P := pE xss) (Q := qE xss) (n := xss.length) xss.length (Nat.le_refl _)
  have hall : (unp (lgL xss)).all (edgeOk (xss.length : Int)) = true := by
    rw [List.all_eq_true]
    intro x hx
    simp only [unp, List.mem_map] at hx
    obtain ⟨e, he, rfl⟩ := hx
    have := hm e he
    simp [edgeOk, inR]
    omega
  unfold grB
  rw [hall, unp_len, Bool.and_true]
  by_cases h : xss.length ≤ 8 ∧ (lgL xss).length ≤ 10
  · rw [decide_eq_true h, decide_eq_true (by omega), decide_eq_true (by omega), decide_eq_true h.2]; rfl
  · rw [decide_eq_false h]
    by_cases h8 : xss.length ≤ 8
    · rw [decide_eq_false (p := (lgL xss).length ≤ 10) (by omega), Bool.and_false, Bool.and_false]
    · rw [decide_eq_false (p := (xss.length : Int) ≤ 8) (by omega), Bool.false_and, Bool.and_false]

/-- where an edge lies -/
theorem edgeAt {lo hi n c : Nat} {S : Nat} {a : Option Addr} {xss : List (List Int)} {w : World} (h : RdR lo hi w (.slice a n c) xss) (hn : xss.length = n) (hg : grB (S : Int) xss = true) {k : Nat} (hk : k < n) : ∃ b off b' off' c', a = some ⟨b, off, none⟩ ∧ w.cell? ⟨b, off + k, none⟩ = some (.slice (some ⟨b', off', none⟩) 2 c') ∧ w.cell? ⟨b', off' + 0, none⟩ = some (.int .i64 (pE xss k : Int)) ∧ w.cell? ⟨b', off' + 1, none⟩ = some (.int .i64 (qE xss k : Int)) := by
  have h4 := (grB_iff hg).2.2.2 k (by omega)
  obtain ⟨b, off, rv, e1, e2, e3⟩ := h.at hn k hk
  obtain ⟨a', c', rfl⟩ := e3.shape
  rw [h4.1] at e2 e3
  obtain ⟨b', off', rfl, e4⟩ := e3.at h4.1 0 (by omega)
  obtain ⟨b2, off2, ee, e5⟩ := e3.at h4.1 1 (by omega)
  simp only [Option.some.injEq, Addr.mk.injEq, and_true] at ee
  obtain ⟨rfl, rfl⟩ := ee
  refine ⟨b, off, b', off', c', e1, e2, ?_, ?_⟩
  · unfold pE; rw [Int.toNat_of_nonneg h4.2.1]; exact e4
  · unfold qE; rw [Int.toNat_of_nonneg h4.2.2.2.1]; exact e5

end Go.Proofs.Ytebgbplhcaocoaa
