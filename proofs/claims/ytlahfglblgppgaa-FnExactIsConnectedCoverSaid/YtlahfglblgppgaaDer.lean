/- Derived graphs: plain mathematics, and the program's list of edges. -/
import Derived.Test.YtlahfglblgppgaaImplCov
import Derived.Test.YtlahfglblgppgaaCoreB
import Derived.Test.YtlahfglblgppgaaProjV
import Derived.Deep.AppendLies
set_option linter.unusedSimpArgs false
set_option linter.unusedVariables false
set_option maxRecDepth 100000
namespace Go.Proofs.Ytlahfglblgppgaa
open Go.RowKit

/-- the edges over an edge, on the first i sheets -/
def derK (S : Nat) (e : Int × Int) (t : List Int) (i : Nat) : List (Int × Int) := (List.range i).map (fun j : Nat => (e.1 * (S : Int) + (j : Int), e.2 * (S : Int) + t.getD j 0))
theorem derK_len (S : Nat) (e : Int × Int) (t : List Int) (i : Nat) : (derK S e t i).length = i := by simp [derK]
theorem derK_step (S : Nat) (e : Int × Int) (t : List Int) (i : Nat) : derK S e t (i + 1) = derK S e t i ++ [(e.1 * (S : Int) + (i : Int), e.2 * (S : Int) + t.getD i 0)] := by simp [derK, List.range_succ]
def derE (S : Nat) (es : List (Int × Int)) (ts : List (List Int)) : Nat → List (Int × Int)
  | 0 => []
  | k + 1 => derE S es ts k ++ derK S (es.getD k (0, 0)) (ts.getD k []) S
theorem derE_len (S : Nat) (es : List (Int × Int)) (ts : List (List Int)) : ∀ k, (derE S es ts k).length = k * S
  | 0 => by simp [derE]
  | k + 1 => by rw [derE, List.length_append, derE_len S es ts k, derK_len, Nat.succ_mul]
/-- every number lies among the vertices -/
theorem derE_in {S s : Nat} {es : List (Int × Int)} {ts : List (List Int)} {n : Nat} (he : ∀ q, q < n → (0 ≤ (es.getD q (0, 0)).1 ∧ (es.getD q (0, 0)).1 < (s : Int)) ∧ (0 ≤ (es.getD q (0, 0)).2 ∧ (es.getD q (0, 0)).2 < (s : Int)))
    (ht : ∀ q, q < n → ∀ j, j < S → 0 ≤ (ts.getD q []).getD j 0 ∧ (ts.getD q []).getD j 0 < (S : Int)) : ∀ k, k ≤ n → ∀ e ∈ derE S es ts k, (0 ≤ e.1 ∧ e.1 < (s : Int) * (S : Int)) ∧ (0 ≤ e.2 ∧ e.2 < (s : Int) * (S : Int))
  | 0, _, e, h => by simp [derE] at h
  | k + 1, hk, e, h => by
    rw [derE, List.mem_append] at h
    rcases h with h | h
    · exact derE_in he ht k (by omega) e h
    · unfold derK at h
      simp only [List.mem_map, List.mem_range] at h
      obtain ⟨j, hj, rfl⟩ := h
      obtain ⟨h1, h2⟩ := he k (by omega)
      have h3 := ht k (by omega) j hj
      generalize (es.getD k (0, 0)).1 = x at *
      generalize (es.getD k (0, 0)).2 = y at *
      generalize (ts.getD k []).getD j 0 = z at *
      have hS : (0 : Int) ≤ (S : Int) := by omega
      have m1 : x * (S : Int) + (S : Int) ≤ (s : Int) * (S : Int) := by
        have := Int.mul_le_mul_of_nonneg_right (show x + 1 ≤ (s : Int) by omega) hS
        rw [Int.add_mul, Int.one_mul] at this
        exact this
      have m2 : y * (S : Int) + (S : Int) ≤ (s : Int) * (S : Int) := by
        have := Int.mul_le_mul_of_nonneg_right (show y + 1 ≤ (s : Int) by omega) hS
        rw [Int.add_mul, Int.one_mul] at this
        exact this
      have m3 : 0 ≤ x * (S : Int) := Int.mul_nonneg h1.1 hS
      have m4 : 0 ≤ y * (S : Int) := Int.mul_nonneg h2.1 hS
      dsimp only
      generalize x * (S : Int) = X at *
      generalize y * (S : Int) = Y at *
      generalize (s : Int) * (S : Int) = Z at *
      omega
def derR (S : Nat) (xss ts : List (List Int)) (k : Nat) : List (List Int) := unp (derE S (pairs xss) ts k)
theorem derR_len (S : Nat) (xss ts : List (List Int)) (k : Nat) : (derR S xss ts k).length = k * S := by unfold derR; rw [unp_len, derE_len]
def derOf (s : Int) (xss : List (List Int)) (sh : Int) (ts : List (List Int)) : (Int × List (List Int)) × Int :=
  if cvB s xss sh ts = true then (if s * sh ≤ 8 ∧ (xss.length : Int) * sh ≤ 10 then ((s * sh, derR sh.toNat xss ts xss.length), 0) else ((0, []), 3)) else ((0, []), 1)
theorem unp_lens (es : List (Int × Int)) : lens (unp es) = 2 * es.length := by
  unfold lens unp
  rw [List.map_map]
  induction es with
  | nil => rfl
  | cons e r ih => simp only [List.map_cons, List.sum_cons, ih, List.length_cons, Function.comp]; simp; omega
theorem derOf_lens (s : Int) (xss : List (List Int)) (sh : Int) (ts : List (List Int)) : lens (derOf s xss sh ts).1.2 ≤ 1000 := by
  unfold derOf
  split
  · rename_i hc
    split
    · rename_i hb
      have hsh := (cvB_hd hc).2.2.1
      unfold derR
      simp only [unp_lens, derE_len]
      have : ((xss.length * sh.toNat : Nat) : Int) = (xss.length : Int) * sh := by rw [Int.natCast_mul]; congr 1; omega
      have : xss.length * sh.toNat ≤ 10 := by omega
      omega
    · simp [lens]
  · simp [lens]
/-- within the limits it is a graph -/
theorem der_graph {s : Nat} {xss : List (List Int)} {S : Nat} {ts : List (List Int)} (h : cvB (s : Int) xss (S : Int) ts = true) : grB ((s : Int) * (S : Int)) (derR S xss ts xss.length) = decide ((s : Int) * (S : Int) ≤ 8 ∧ (xss.length : Int) * (S : Int) ≤ 10) := by
  obtain ⟨hg, hn, ⟨hs1, hs4⟩, htl, hpm⟩ := cvB_hd h
  have hg4 := grB_iff hg
  have hin := derE_in (S := S) (s := s) (es := pairs xss) (ts := ts) (n := xss.length) (fun q hq => by
    have := hg4.2.2.2 q hq
    rw [pairs_getD]
    simp only
    omega) (fun q hq j hj => by
    have hp : permB (S : Int) (ts.getD q []) = true := List.all_eq_true.1 hpm _ (by simp [List.getD, List.getElem?_eq_getElem (show q < ts.length by omega)])
    have hl := permB_len hp
    have := permB_in hp j (by omega)
    unfold inR at this
    simp only [Bool.and_eq_true, decide_eq_true_eq] at this
    exact this) xss.length (Nat.le_refl _)
  have hpos : 1 ≤ (s : Int) * (S : Int) := by
    have := Int.mul_le_mul (show (1 : Int) ≤ (s : Int) by omega) (show (1 : Int) ≤ (S : Int) by omega) (by decide) (by omega)
    simpa using this
  have hlen : ((derR S xss ts xss.length).length : Int) = (xss.length : Int) * (S : Int) := by rw [derR_len, Int.natCast_mul]
  rw [Bool.eq_iff_iff]
  unfold grB
  simp only [Bool.and_eq_true, decide_eq_true_eq, List.all_eq_true]
  constructor
  · rintro ⟨h1, h2, h3, h4⟩
    exact ⟨by omega, by omega⟩
  · rintro ⟨h1, h2⟩
    refine ⟨by omega, by omega, by omega, fun e he => ?_⟩
    unfold derR unp at he
    rw [List.mem_map] at he
    obtain ⟨p, hp, rfl⟩ := he
    have := hin p hp
    unfold edgeOk inR
    simp only [Bool.and_eq_true, decide_eq_true_eq]
    simp
    omega

end Go.Proofs.Ytlahfglblgppgaa
