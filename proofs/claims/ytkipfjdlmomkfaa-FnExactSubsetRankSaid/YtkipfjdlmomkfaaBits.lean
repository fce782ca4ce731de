/- Subsets told by digits: plain mathematics. -/
import Derived.Test.YtkipfjdlmomkfaaEset2
set_option linter.unusedSimpArgs false
set_option linter.unusedVariables false
set_option maxRecDepth 100000
namespace Go.Proofs.Ytkipfjdlmomkfaa
open Go.RowKit

def bitsN (c n : Nat) : List Nat := (List.range n).filter (fun k => c.testBit k)
theorem bits_in {c k : Nat} (h : c.testBit k = true) : bitsN c (k + 1) = bitsN c k ++ [k] := by simp [bitsN, List.range_succ, List.filter_append, h]
theorem bits_out {c k : Nat} (h : c.testBit k = false) : bitsN c (k + 1) = bitsN c k := by simp [bitsN, List.range_succ, List.filter_append, h]
theorem bits_more {c m : Nat} (h : c < 2 ^ m) : ∀ d, bitsN c (m + d) = bitsN c m
  | 0 => rfl
  | d + 1 => by
    rw [← Nat.add_assoc, bits_out (Nat.testBit_lt_two_pow (Nat.lt_of_lt_of_le h (Nat.pow_le_pow_right (by decide) (by omega)))), bits_more h d]
theorem bits_le (c n : Nat) : (bitsN c n).length ≤ n := by
  have := List.length_filter_le (fun k => c.testBit k) (List.range n)
  simpa [bitsN] using this
theorem bits_mem {c n k : Nat} (h : k ∈ bitsN c n) : k < n := by
  unfold bitsN at h
  rw [List.mem_filter] at h
  exact List.mem_range.1 h.1
theorem bits_low {c x : Nat} : ∀ j, j ≤ x → bitsN (2 ^ x + c) j = bitsN c j
  | 0, _ => rfl
  | j + 1, h => by
    have e := Nat.testBit_two_pow_add_gt (show j < x by omega) c
    cases hb : c.testBit j with
    | true => rw [bits_in hb, bits_in (by rw [e, hb]), bits_low j (by omega)]
    | false => rw [bits_out hb, bits_out (by rw [e, hb]), bits_low j (by omega)]
/-- the number of the digits that are 1 -/
def popN : Nat → Nat → Nat
  | 0, _ => 0
  | f + 1, c => c % 2 + popN f (c / 2)
theorem pop_bits : ∀ f c, popN f c = (bitsN c f).length
  | 0, _ => rfl
  | f + 1, c => by
    unfold popN
    rw [pop_bits f (c / 2)]
    unfold bitsN
    rw [List.range_succ_eq_map, List.filter_cons, List.filter_map]
    have h1 : ((fun k => c.testBit k) ∘ Nat.succ) = fun k => (c / 2).testBit k := by
      funext k
      simp [Nat.testBit_succ]
    rw [h1]
    by_cases h : c % 2 = 1
    · have : c.testBit 0 = true := by simp [h]
      rw [if_pos this]
      simp; omega
    · have : ¬ c.testBit 0 = true := by simp [h]
      rw [if_neg this]
      simp; omega
theorem pop_small : ∀ f c, c < 2 ^ f → c = 0 ∨ 0 < f
  | 0, c, h => by left; simpa using h
  | f + 1, _, _ => .inr (by omega)

/-- the code of the first k elements -/
def cdN (ws : List Int) : Nat → Nat
  | 0 => 0
  | k + 1 => cdN ws k + 2 ^ (ws.getD k 0).toNat
def topN (ws : List Int) (k : Nat) : Nat := if k = 0 then 0 else (ws.getD (k - 1) 0).toNat + 1
theorem top_next {n : Nat} {ws : List Int} (h : subB n ws = true) {k : Nat} (hk : k < ws.length) : topN ws k ≤ (ws.getD k 0).toNat := by
  unfold topN
  split
  · omega
  · rename_i h0
    have h1 := subB_at h k hk
    have h2 := subB_in h (k - 1) (by omega)
    unfold subOk at h1
    have e0 : (k == 0) = false := by simpa using h0
    rw [e0, Bool.false_or, Bool.and_eq_true] at h1
    have := of_decide_eq_true h1.2
    omega
theorem top_le {n : Nat} {ws : List Int} (h : subB n ws = true) {k : Nat} (hk : k ≤ ws.length) : topN ws k ≤ n := by
  unfold topN
  split
  · omega
  · have := subB_in h (k - 1) (by omega)
    omega
theorem cd_lt {n : Nat} {ws : List Int} (h : subB n ws = true) : ∀ k, k ≤ ws.length → cdN ws k < 2 ^ topN ws k
  | 0, _ => by simp [cdN, topN]
  | k + 1, hk => by
    have ih := cd_lt h k (by omega)
    have ht := top_next h (show k < ws.length by omega)
    have e : topN ws (k + 1) = (ws.getD k 0).toNat + 1 := by unfold topN; rw [if_neg (by omega), Nat.add_sub_cancel]
    have hm : 2 ^ topN ws k ≤ 2 ^ (ws.getD k 0).toNat := Nat.pow_le_pow_right (by decide) ht
    rw [e, Nat.pow_succ]
    unfold cdN
    omega
theorem cd_bits {n : Nat} {ws : List Int} (h : subB n ws = true) : ∀ k, k ≤ ws.length → bitsN (cdN ws k) (topN ws k) = (ws.take k).map Int.toNat
  | 0, _ => by simp [topN, bitsN]
  | k + 1, hk => by
    have ih := cd_bits h k (by omega)
    have ht := top_next h (show k < ws.length by omega)
    have hl := cd_lt h k (by omega)
    have e : topN ws (k + 1) = (ws.getD k 0).toNat + 1 := by unfold topN; rw [if_neg (by omega), Nat.add_sub_cancel]
    have hx : cdN ws k < 2 ^ (ws.getD k 0).toNat := Nat.lt_of_lt_of_le hl (Nat.pow_le_pow_right (by decide) ht)
    have e2 : cdN ws (k + 1) = 2 ^ (ws.getD k 0).toNat + cdN ws k := Nat.add_comm _ _
    rw [e, e2, bits_in (by rw [Nat.testBit_two_pow_add_eq, Nat.testBit_lt_two_pow hx]; rfl), bits_low _ (Nat.le_refl _)]
    obtain ⟨d, hd⟩ : ∃ d, (ws.getD k 0).toNat = topN ws k + d := ⟨(ws.getD k 0).toNat - topN ws k, by omega⟩
    have e3 : bitsN (cdN ws k) (ws.getD k 0).toNat = bitsN (cdN ws k) (topN ws k) := by rw [hd]; exact bits_more hl d
    rw [e3, ih, List.take_add_one, List.getElem?_eq_getElem (show k < ws.length by omega), List.map_append]
    simp [List.getD, List.getElem?_eq_getElem (show k < ws.length by omega)]
theorem cd_all {n : Nat} {ws : List Int} (h : subB n ws = true) : bitsN (cdN ws ws.length) n = ws.map Int.toNat ∧ cdN ws ws.length < 2 ^ n := by
  have h1 := cd_bits h ws.length (Nat.le_refl _)
  have h2 := cd_lt h ws.length (Nat.le_refl _)
  have h3 := top_le h (Nat.le_refl ws.length)
  rw [List.take_length] at h1
  refine ⟨?_, Nat.lt_of_lt_of_le h2 (Nat.pow_le_pow_right (by decide) h3)⟩
  obtain ⟨d, hd⟩ : ∃ d, n = topN ws ws.length + d := ⟨n - topN ws ws.length, by omega⟩
  rw [hd, bits_more h2, h1]
/-- the rows of the edges that the digits tell -/
def withR (xss : List (List Int)) (c : Nat) (k : Nat) : List (List Int) := (bitsN c k).map (fun q => xss.getD q [])
theorem with_nE {xss : List (List Int)} {c : Nat} : nE (withR xss c xss.length) = (bitsN c xss.length).map (fun q => (nE xss).getD q (0, 0)) := by
  unfold nE withR pairs
  rw [List.map_map, List.map_map, List.map_map]
  refine List.map_congr_left fun q hq => ?_
  have hq' := bits_mem hq
  simp [List.getD, List.getElem?_eq_getElem hq']
theorem with_sub {xss : List (List Int)} {ws : List Int} (h : subB xss.length ws = true) : nE (withR xss (cdN ws ws.length) xss.length) = subE xss ws := by
  rw [with_nE, (cd_all h).1]
  unfold subE
  rw [List.map_map]
  rfl
theorem with_gr {s : Int} {xss : List (List Int)} (h : grB s xss = true) (c : Nat) : grB s (withR xss c xss.length) = true := by
  have h' := h
  unfold grB at h ⊢
  simp only [Bool.and_eq_true, decide_eq_true_eq, List.all_eq_true] at h ⊢
  obtain ⟨h1, h2, h3, h4⟩ := h
  refine ⟨h1, h2, ?_, fun e he => ?_⟩
  · have := bits_le c xss.length
    unfold withR
    rw [List.length_map]
    omega
  · unfold withR at he
    rw [List.mem_map] at he
    obtain ⟨q, hq, rfl⟩ := he
    have hq' := bits_mem hq
    simp only [List.getD, List.getElem?_eq_getElem hq', Option.getD_some]
    exact h4 _ (List.getElem_mem hq')

end Go.Proofs.Ytkipfjdlmomkfaa
