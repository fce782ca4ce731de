/- DeleteEdge of the model. -/
import Derived.Test.YtgcidkcedfliiaaL01Copy
import Derived.Test.YtgcidkcedfliiaaSubdPure
set_option linter.unusedSimpArgs false
set_option linter.unusedVariables false
namespace Go.Proofs.Ytgcidkcedfliiaa
open Go.RowKit

theorem er_same {xss : List (List Int)} {k : Nat} (hk : k < xss.length) : (xss.take (k+1)).eraseIdx k = (xss.take k).eraseIdx k := by
  have hl : (xss.take k).length = k := by rw [List.length_take]; omega
  rw [take_snocR hk, List.eraseIdx_append_of_length_le (by omega), hl, Nat.sub_self, List.eraseIdx_of_length_le (l := xss.take k) (by omega)]
  simp
theorem er_step {xss : List (List Int)} {i k : Nat} (hi : i < xss.length) (hk : i ≠ k) : (xss.take (i+1)).eraseIdx k = (xss.take i).eraseIdx k ++ [xss.getD i []] := by
  have hl : (xss.take i).length = i := by rw [List.length_take]; omega
  rw [take_snocR hi]
  by_cases h : k < i
  · rw [List.eraseIdx_append_of_lt_length (by omega)]
  · rw [List.eraseIdx_of_length_le (by rw [List.length_append, hl]; simp; omega), List.eraseIdx_of_length_le (by omega)]

theorem OwP.lower {lo lo' x : Nat} {w : World} {g n c : Nat} {rvs : List Value} {xss : List (List Int)} (h : OwP lo x w g n c rvs xss) (hl : lo' ≤ lo) : OwP lo' x w g n c rvs xss :=
  ⟨h.len, ownsRow_mono h.out hl, ⟨h.rows.len, fun j hj => (h.rows.own j hj).mono hl (Nat.le_refl _), h.rows.dj⟩, h.dj, h.exg, h.exr⟩
theorem OwP.rebox {lo x x' : Nat} {w : World} {g n c : Nat} {rvs : List Value} {xss : List (List Int)} (h : OwP lo x w g n c rvs xss) (hx : w.heap.size ≤ x') : OwP lo x' w g n c rvs xss :=
  ⟨h.len, h.out, h.rows, h.dj, by have := h.lt; omega, fun j hj e => by have := ((h.rows.own j (by rw [h.len]; exact hj)).blk x' e).2.2; omega⟩

def delOf (s : Int) (xss : List (List Int)) (k : Int) : (Int × List (List Int)) × Int := if edgeCode s xss k ≠ 0 then ((0, []), edgeCode s xss k) else ((s, xss.eraseIdx k.toNat), 0)

theorem code_ne' {s : Int} {xss : List (List Int)} {k : Int} (h : edgeCode s xss k ≠ 0) : (edgeCode s xss k != 0) = true := by simpa using h

theorem lens_two {xss : List (List Int)} (h : ∀ e ∈ xss, e.length = 2) : lens xss = 2 * xss.length := by
  induction xss with
  | nil => rfl
  | cons p r ih =>
    have h1 := h p (by simp)
    have h2 := ih (fun e he => h e (by simp [he]))
    simp only [lens, List.map_cons, List.sum_cons, List.length_cons] at h2 ⊢
    omega
theorem gr_two {s : Int} {xss : List (List Int)} (h : grB s xss = true) : ∀ e ∈ xss, e.length = 2 := by
  intro e he
  obtain ⟨i, hi, rfl⟩ := List.getElem_of_mem he
  have := ((grB_iff h).2.2.2 i hi).1
  simpa [List.getD, List.getElem?_eq_getElem hi] using this
theorem delOf_lens (s : Int) (xss : List (List Int)) (k : Int) : lens (delOf s xss k).1.2 ≤ 1000 := by
  unfold delOf
  split
  · simp [lens]
  · rename_i hc
    obtain ⟨hg, h0, h1⟩ := edgeCode_ok (s := s) (xss := xss) (k := k) (by omega)
    have h3 := (grB_iff hg).2.2.1
    show lens (xss.eraseIdx k.toNat) ≤ 1000
    rw [lens_two (fun e he => gr_two hg e (List.mem_of_mem_eraseIdx he))]
    have := List.length_eraseIdx_le xss k.toNat
    omega

end Go.Proofs.Ytgcidkcedfliiaa
