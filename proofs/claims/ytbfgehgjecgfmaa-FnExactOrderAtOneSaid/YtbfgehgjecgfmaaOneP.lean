/- OrderAtOne: plain mathematics. -/
import Derived.Test.YtbfgehgjecgfmaaAez
import Derived.Test.YtbfgehgjecgfmaaMt
set_option linter.unusedSimpArgs false
set_option linter.unusedVariables false
set_option maxRecDepth 100000
namespace Go.Proofs.Ytbfgehgjecgfmaa
open Go.RowKit

/-- the sum of the first k numbers, as it is reckoned -/
def sT (f : List Int) : Nat → Int
  | 0 => 0
  | k + 1 => wrap64 (sT f k + f.getD k 0)
theorem sT_I64 (f : List Int) : ∀ k, I64 (sT f k)
  | 0 => by unfold sT I64; omega
  | k + 1 => wrap_I64 _
theorem sT_cg (f : List Int) : ∀ k, cg (sT f k) (tot k (fun i => f.getD i 0))
  | 0 => cg_refl _
  | k + 1 => cg_w (cg_add (sT_cg f k) (cg_refl _))
def qL (f : List Int) (n : Nat) : List Int := (List.range n).map (fun j => sT f (j + 1))
theorem qL_len (f : List Int) (n : Nat) : (qL f n).length = n := by simp [qL]
theorem qL_get {f : List Int} {n j : Nat} (h : j < n) : (qL f n).getD j 0 = sT f (j + 1) := by simp [qL, List.getD, h]
theorem qL_s (f : List Int) (n : Nat) : qL f (n + 1) = qL f n ++ [sT f (n + 1)] := by simp [qL, List.range_succ]
theorem qL_I64 (f : List Int) (n : Nat) : ∀ x ∈ qL f n, I64 x := fun x hx => by
  unfold qL at hx
  obtain ⟨j, hj, rfl⟩ := List.mem_map.mp hx
  exact sT_I64 _ _
theorem qL_take (f : List Int) (n : Nat) : (qL f (n + 1)).take n = qL f n := by
  rw [qL_s, List.take_append_of_le_length (by rw [qL_len]; exact Nat.le_refl _), List.take_of_length_le (by rw [qL_len]; exact Nat.le_refl _)]
/-- the numbers while they are being laid -/
def qS (f : List Int) (N k : Nat) : List Int := (List.range N).map (fun j => if j < k then sT f (j + 1) else 0)
theorem qS_len (f : List Int) (N k : Nat) : (qS f N k).length = N := by simp [qS]
theorem qS_zero (f : List Int) (N : Nat) : (madeCells #[Value.int .i64 0] N).toList = (qS f N 0).map (Value.int .i64) := by
  rw [toList_madeCells_one]
  apply List.ext_getElem
  · simp [qS]
  · intro i h1 h2
    simp [qS]
theorem qS_get {f : List Int} {N k j : Nat} (h : j < N) : (qS f N k).getD j 0 = if j < k then sT f (j + 1) else 0 := by simp [qS, List.getD, h]
theorem qS_set (f : List Int) (N k : Nat) : ((qS f N k).map (Value.int .i64)).set k (.int .i64 (sT f (k + 1))) = (qS f N (k + 1)).map (Value.int .i64) := by
  apply List.ext_getElem
  · simp [qS]
  · intro i h1 h2
    rw [List.getElem_set]
    simp only [qS, List.map_map, List.getElem_map, List.getElem_range, Function.comp]
    by_cases hk : k = i
    · subst hk; rw [if_pos rfl, if_pos (Nat.lt_succ_self _)]
    · rw [if_neg hk]
      by_cases h3 : i < k
      · rw [if_pos h3, if_pos (by omega)]
      · rw [if_neg h3, if_neg (by omega)]
theorem qS_all (f : List Int) (N : Nat) : qS f N N = qL f N := by
  unfold qS qL
  refine List.map_congr_left fun j hj => ?_
  rw [if_pos (List.mem_range.mp hj)]
/-- the value at 1 from the end, as it is reckoned -/
def hO (f : List Int) (n : Nat) : Nat → Int
  | 0 => 0
  | k + 1 => wrap64 (wrap64 (hO f n k * 1) + f.getD (n - 1 - k) 0)
theorem hO_I64 (f : List Int) (n : Nat) : ∀ k, I64 (hO f n k)
  | 0 => by unfold hO I64; omega
  | k + 1 => wrap_I64 _
theorem hO_cg (f : List Int) (n : Nat) : ∀ k, k ≤ n → cg (hO f n k) (tot n (fun i => f.getD i 0) - tot (n - k) (fun i => f.getD i 0))
  | 0, _ => by rw [Nat.sub_zero, Int.sub_self]; exact cg_refl _
  | k + 1, h => by
    have h1 := hO_cg f n k (by omega)
    obtain ⟨m, hm⟩ : ∃ m, m = n - (k + 1) := ⟨_, rfl⟩
    rw [← hm]
    rw [show n - k = m + 1 by omega] at h1
    show cg (wrap64 (wrap64 (hO f n k * 1) + f.getD (n - 1 - k) 0)) _
    rw [show n - 1 - k = m by omega, Int.mul_one]
    have h2 : tot (m + 1) (fun i => f.getD i 0) = tot m (fun i => f.getD i 0) + f.getD m 0 := rfl
    rw [h2] at h1
    refine cg_w ?_
    have h3 := cg_add (cg_w h1) (cg_refl (f.getD m 0))
    refine cg_trans h3 ⟨0, by omega⟩
theorem hO_sT (f : List Int) (n : Nat) : hO f n n = sT f n := by
  have h1 := hO_cg f n n (Nat.le_refl _)
  rw [Nat.sub_self] at h1
  have h2 := sT_cg f n
  have h3 : tot 0 (fun i => f.getD i 0) = 0 := rfl
  rw [h3, Int.sub_zero] at h1
  obtain ⟨a, ha⟩ := h1
  obtain ⟨b, hb⟩ := h2
  exact cg_eq ⟨a - b, by omega⟩ (hO_I64 _ _ _) (sT_I64 _ _)

theorem tl_zero1 (xs : List Int) : ∀ n k, tl xs n ≤ k → k < n → xs.getD k 0 = 0 := by
  intro n
  induction n with
  | zero => intro k _ h; omega
  | succ n ih =>
    intro k h1 h2
    unfold tl at h1
    split at h1
    · rename_i h0
      by_cases e : k = n
      · subst e; exact h0
      · exact ih k h1 (by omega)
    · omega
theorem trim_getD1 (xs : List Int) (k : Nat) : (trim xs).getD k 0 = xs.getD k 0 := by
  unfold trim
  have hle := tl_le xs xs.length
  by_cases h : k < tl xs xs.length
  · simp [List.getD, List.getElem?_take, h]
  · have h1 : (xs.take (tl xs xs.length)).getD k 0 = 0 := by simp [List.getD, List.getElem?_take, h]
    rw [h1]
    by_cases h2 : k < xs.length
    · exact (tl_zero1 xs xs.length k (by omega) h2).symm
    · have : xs.length ≤ k := by omega
      simp [List.getD, List.getElem?_eq_none this]
theorem trim_id {xs : List Int} (h0 : 0 < xs.length) (h : xs.getD (xs.length - 1) 0 ≠ 0) : trim xs = xs := by
  have h1 : tl xs xs.length = xs.length := by
    obtain ⟨k, hk⟩ : ∃ k, xs.length = k + 1 := ⟨xs.length - 1, by omega⟩
    rw [hk] at h ⊢
    simp only [Nat.add_sub_cancel] at h
    unfold tl
    rw [if_neg h]
  unfold trim
  rw [h1]
  exact List.take_of_length_le (Nat.le_refl _)
theorem tl_last (xs : List Int) : ∀ k, tl xs k = 0 ∨ xs.getD (tl xs k - 1) 0 ≠ 0
  | 0 => .inl rfl
  | k + 1 => by
    unfold tl
    split
    · exact tl_last xs k
    · rename_i h
      exact .inr h
theorem trim_last {xs : List Int} (h : 0 < (trim xs).length) : (trim xs).getD ((trim xs).length - 1) 0 ≠ 0 := by
  rw [trim_getD1]
  have hl : (trim xs).length = tl xs xs.length := by
    unfold trim; rw [List.length_take]; have := tl_le xs xs.length; omega
  rw [hl] at h ⊢
  rcases tl_last xs xs.length with h1 | h1
  · omega
  · exact h1

/-- the quotients, one after the other -/
def Fk (R : List Int) (L : Nat) : Nat → List Int
  | 0 => R
  | k + 1 => qL (Fk R L k) (L - (k + 1))
theorem Fk_ok {R : List Int} {L : Nat} (hl : R.length = L) (h1 : 0 < L) (hh : R.getD 0 0 = 1) (hz : R.getD (L - 1) 0 ≠ 0) (hI : ∀ x ∈ R, I64 x) : ∀ k, (∀ j, j < k → sT (Fk R L j) (L - j) = 0) → k < L ∧ (Fk R L k).length = L - k ∧ (Fk R L k).getD 0 0 = 1 ∧ (Fk R L k).getD (L - k - 1) 0 ≠ 0 ∧ ∀ x ∈ Fk R L k, I64 x
  | 0, _ => ⟨h1, hl, hh, hz, hI⟩
  | k + 1, h => by
    obtain ⟨g1, g2, g3, g4, g5⟩ := Fk_ok hl h1 hh hz hI k (fun j hj => h j (by omega))
    have h0 := h k (Nat.lt_succ_self k)
    have hlt : k + 1 < L := by
      rcases Nat.lt_or_ge (k + 1) L with h2 | h2
      · exact h2
      · exfalso
        rw [show L - k = 1 by omega] at h0
        have : sT (Fk R L k) 1 = wrap64 (0 + (Fk R L k).getD 0 0) := rfl
        rw [this, g3] at h0
        rw [show wrap64 (0 + 1) = 1 from wrap_of (by unfold I64; omega)] at h0
        omega
    refine ⟨hlt, qL_len _ _, ?_, ?_, qL_I64 _ _⟩
    · show (qL (Fk R L k) (L - (k + 1))).getD 0 0 = 1
      rw [qL_get (by omega)]
      show wrap64 (0 + (Fk R L k).getD 0 0) = 1
      rw [g3]; exact wrap_of (by unfold I64; omega)
    · show (qL (Fk R L k) (L - (k + 1))).getD (L - (k + 1) - 1) 0 ≠ 0
      rw [qL_get (by omega)]
      intro h3
      obtain ⟨m, hm⟩ : ∃ m, L - k = m + 1 := ⟨L - k - 1, by omega⟩
      rw [show L - (k + 1) - 1 + 1 = m by omega] at h3
      rw [hm] at h0
      have h4 : sT (Fk R L k) (m + 1) = wrap64 (sT (Fk R L k) m + (Fk R L k).getD m 0) := rfl
      rw [h4, h3, Int.zero_add] at h0
      rw [show L - k - 1 = m by omega] at g4
      have h5 : I64 ((Fk R L k).getD m 0) := by
        have : (Fk R L k).getD m 0 = (Fk R L k)[m]'(by omega) := by simp [List.getD, List.getElem?_eq_getElem (show m < (Fk R L k).length by omega)]
        rw [this]; exact g5 _ (List.getElem_mem _)
      rw [wrap_of h5] at h0
      exact g4 h0
/-- the order, with fuel -/
def ordN (R : List Int) (L : Nat) : Nat → Nat → Nat
  | 0, k => k
  | n + 1, k => if sT (Fk R L k) (L - k) = 0 then ordN R L n (k + 1) else k
def oneOf (s : Int) (xss : List (List Int)) : Int × Int := if grB s xss = true then (((ordN (recL xss) (recL xss).length (recL xss).length 0 : Nat) : Int), 0) else (0, 1)
theorem oneOf_no {s : Int} {xss : List (List Int)} (h : grB s xss = false) : oneOf s xss = (0, 1) := by unfold oneOf; rw [h]; rfl
theorem oneOf_yes {s : Int} {xss : List (List Int)} (h : grB s xss = true) : oneOf s xss = (((ordN (recL xss) (recL xss).length (recL xss).length 0 : Nat) : Int), 0) := by unfold oneOf; rw [if_pos h]
theorem ordN_step {R : List Int} {L k : Nat} (hk : k < L) (h : ordN R L (L - k) k = ordN R L L 0) :
    (sT (Fk R L k) (L - k) = 0 → ordN R L (L - (k + 1)) (k + 1) = ordN R L L 0) ∧ (sT (Fk R L k) (L - k) ≠ 0 → ordN R L L 0 = k) := by
  rw [show L - k = (L - (k + 1)) + 1 by omega] at h
  have e : ordN R L ((L - (k + 1)) + 1) k = if sT (Fk R L k) (L - k) = 0 then ordN R L (L - (k + 1)) (k + 1) else k := rfl
  rw [e] at h
  constructor
  · intro h2; rw [if_pos h2] at h; exact h
  · intro h2; rw [if_neg h2] at h; exact h.symm
theorem recL_head (xss : List (List Int)) : (recL xss).getD 0 0 = 1 := by
  unfold recL
  rw [trim_getD1]
  unfold dkL
  simp [List.getD, dk_0]
theorem recL_pos (xss : List (List Int)) : 0 < (recL xss).length := by
  rcases Nat.eq_zero_or_pos (recL xss).length with h | h
  · exfalso
    have h1 := recL_head xss
    rw [List.eq_nil_of_length_eq_zero h] at h1
    simp at h1
  · exact h
theorem recL_last (xss : List (List Int)) : (recL xss).getD ((recL xss).length - 1) 0 ≠ 0 := trim_last (recL_pos xss)
end Go.Proofs.Ytbfgehgjecgfmaa
