/- DeleteEdge of the program. -/
import Derived.Test.YtgcidkcedfliiaaSlDel
import Derived.Deep.RegionHeld3
set_option linter.unusedSimpArgs false
set_option linter.unusedVariables false
namespace Go.Proofs.Ytgcidkcedfliiaa
open Go.RowKit

theorem ownsRow_cap2 {w : World} {B e size n : Nat} {v : Value} {xs : List Value} (h : w.ownsRow B e size v n xs) : ∀ a m c, v = .slice a m c → m ≤ c := by
  intro a m c hv
  rcases h.2 with ⟨h2, _⟩ | ⟨g, cap, cur, h2, _, _, hn, _⟩
  · rw [h2] at hv; simp at hv; omega
  · rw [h2] at hv; simp at hv; omega
/-- a block g holds a list of pairs, of which nothing is frozen -/
structure HoE (w : World) (g : Nat) (es : List (Int × Int)) : Prop where
  cell : ∀ j, j < es.length → w.cell? ⟨g, j * 2, none⟩ = some (.int .i64 (es.getD j (0, 0)).1) ∧ w.cell? ⟨g, j * 2 + 1, none⟩ = some (.int .i64 (es.getD j (0, 0)).2)
  free : ∀ j, w.frozen? ⟨g, j, none⟩ = false
  lt : g < w.heap.size

theorem HoE.chg {lo hi : Nat} {w w' : World} {g : Nat} {es : List (Int × Int)} (h : HoE w g es) (hb : Chg lo hi w w') (hg : g < lo ∨ hi ≤ g) : HoE w' g es :=
  ⟨fun j hj => ⟨hb.cell (h.cell j hj).1 hg, hb.cell (h.cell j hj).2 hg⟩, fun j => hb.frozen h.lt hg (h.free j), Nat.lt_of_lt_of_le h.lt hb.size⟩
theorem HoE.below {w w' : World} {g : Nat} {es : List (Int × Int)} (h : HoE w g es) (hb : Below w.heap.size w w') : HoE w' g es := h.chg (hb.chg 0 0) (.inr (Nat.zero_le _))
theorem HoE.rde {w : World} {g : Nat} {es : List (Int × Int)} (h : HoE w g es) : RdE w (some ⟨g, 0, none⟩) es := fun j hj => ⟨g, rfl, h.lt, (h.cell j hj).1, (h.cell j hj).2⟩

theorem map_erase {α β : Type} (f : α → β) (l : List α) (k : Nat) : (l.eraseIdx k).map f = (l.map f).eraseIdx k := by
  induction l generalizing k with
  | nil => simp
  | cons x r ih => cases k <;> simp [ih]
theorem unp_erase {s : Int} {xss : List (List Int)} {k : Nat} (h : grB s xss = true) : unp ((pairs xss).eraseIdx k) = xss.eraseIdx k := by
  have := unp_pairs h
  unfold unp at this ⊢
  rw [map_erase, this]
theorem erase_len {xss : List (List Int)} {k n : Nat} (hn : xss.length = n) (hk : k < n) : ((pairs xss).eraseIdx k).length = n - 1 := by
  rw [List.length_eraseIdx, if_pos (by rw [pairs_len]; omega), pairs_len]; omega
theorem erase_I64 {s : Int} {xss : List (List Int)} {k : Nat} (h : grB s xss = true) : ∀ j, j < ((pairs xss).eraseIdx k).length → I64 (((pairs xss).eraseIdx k).getD j (0, 0)).1 ∧ I64 (((pairs xss).eraseIdx k).getD j (0, 0)).2 := by
  intro j hj
  have hm := List.getElem_mem hj
  have e : ((pairs xss).eraseIdx k).getD j (0, 0) = ((pairs xss).eraseIdx k)[j] := by simp [List.getD, List.getElem?_eq_getElem hj]
  rw [e]
  obtain ⟨i, hi, he⟩ := List.getElem_of_mem (List.mem_of_mem_eraseIdx hm)
  have := gr_I64 h (k := i) (by rw [← pairs_len]; exact hi)
  rw [← he]
  simpa [List.getD, List.getElem?_eq_getElem hi] using this

end Go.Proofs.Ytgcidkcedfliiaa
