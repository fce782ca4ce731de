/- Merged: ImplWk, ImplWk2, SlEq, Ltn (the plain kit of these proofs). -/
import Derived.Test.YtnblhkhdilkbeaaDoorCoreF
import Derived.Deep.RegionHeld3
import Derived.Test.YtnblhkhdilkbeaaDoorRtn
set_option linter.unusedSimpArgs false
set_option linter.unusedVariables false
/- Walks of the program: is a list a walk; the codes; is a walk closed. -/
namespace Go.Proofs.YtnblhkhdilkbeaaDoor
open Go.RowKit

end Go.Proofs.YtnblhkhdilkbeaaDoor

/- Walks of the program: codes, closed ones; IsWalk, IsClosed. -/
namespace Go.Proofs.YtnblhkhdilkbeaaDoor
open Go.RowKit

end Go.Proofs.YtnblhkhdilkbeaaDoor

/- slices.Equal of two lists of one length; slices.Concat of a list and itself. -/
namespace Go.Proofs.YtnblhkhdilkbeaaDoor
open Go.RowKit

/-- at the m places from k on they are the same -/
def eqL (xs ys : List Int) : Nat → Nat → Bool
  | 0, _ => true
  | m + 1, k => if xs.getD k 0 = ys.getD k 0 then eqL xs ys m (k + 1) else false
theorem eqL_iff {xs ys : List Int} (m : Nat) : ∀ k, eqL xs ys m k = true ↔ ∀ j, k ≤ j → j < k + m → xs.getD j 0 = ys.getD j 0 := by
  induction m with
  | zero => intro k; exact ⟨fun _ j h1 h2 => by omega, fun _ => rfl⟩
  | succ m ih =>
    intro k
    simp only [eqL]
    by_cases e : xs.getD k 0 = ys.getD k 0
    · rw [if_pos e, ih]
      refine ⟨fun h j h1 h2 => ?_, fun h j h1 h2 => h j (by omega) (by omega)⟩
      by_cases ej : j = k
      · rw [ej]; exact e
      · exact h j (by omega) (by omega)
    · rw [if_neg e]
      exact ⟨fun h => (by cases h), fun h => absurd (h k (Nat.le_refl _) (by omega)) e⟩
theorem eqL_eq {xs ys : List Int} {n : Nat} (hx : xs.length = n) (hy : ys.length = n) : eqL xs ys n 0 = true ↔ xs = ys := by
  rw [eqL_iff]
  constructor
  · intro h
    refine List.ext_getElem (by omega) fun j h3 h4 => ?_
    have := h j (Nat.zero_le _) (by omega)
    simpa [List.getD, h3, h4] using this
  · rintro rfl j _ _; rfl

end Go.Proofs.YtnblhkhdilkbeaaDoor

/- LeastTurn of the program. -/
namespace Go.Proofs.YtnblhkhdilkbeaaDoor
open Go Go.RowKit Go.Shelf
attribute [local go_sem] Oper.semAt_some

def ltStep (ws cur : List Int) (k : Nat) : List Int := if bef (turnL ws k) cur ws.length 0 = true then turnL ws k else cur
def ltK (ws : List Int) : Nat → List Int
  | 0 => ws
  | k + 1 => ltStep ws (ltK ws k) (k + 1)
def ltP (ws : List Int) (pre : List (Nat × Nat)) : List Int := pre.foldl (fun cur x => ltStep ws cur x.2) ws
theorem ltP_s (ws : List Int) (pre : List (Nat × Nat)) (x : Nat × Nat) : ltP ws (pre ++ [x]) = ltStep ws (ltP ws pre) x.2 := by simp [ltP]
theorem ltP_all (ws : List Int) (g : Nat) : ∀ m, ltP ws (allT g m) = ltK ws m
  | 0 => rfl
  | m + 1 => by rw [allT_s, ltP_s, ltP_all ws g m]; rfl
theorem ltStep_len {ws cur : List Int} (h : cur.length = ws.length) (k : Nat) : (ltStep ws cur k).length = ws.length := by
  unfold ltStep; split
  · exact turnL_len ws k
  · exact h
theorem ltP_len (ws : List Int) : ∀ pre : List (Nat × Nat), (ltP ws pre).length = ws.length := fun pre => by
  unfold ltP
  have : ∀ (pre : List (Nat × Nat)) (cur : List Int), cur.length = ws.length → (pre.foldl (fun cur x => ltStep ws cur x.2) cur).length = ws.length := by
    intro pre
    induction pre with
    | nil => intro cur h; exact h
    | cons x r ih => intro cur h; exact ih _ (ltStep_len h x.2)
  exact this pre ws rfl
theorem ltK_len (ws : List Int) (m : Nat) : (ltK ws m).length = ws.length := by rw [← ltP_all ws 0 m]; exact ltP_len ws _
theorem turnL_mem {ws : List Int} {k : Nat} {x : Int} (h : x ∈ turnL ws k) : x ∈ ws := by
  unfold turnL at h
  rcases List.mem_append.mp h with h | h
  · exact List.mem_of_mem_drop h
  · exact List.mem_of_mem_take h
theorem ltK_mem {ws : List Int} : ∀ m, ∀ x ∈ ltK ws m, x ∈ ws
  | 0, x, h => h
  | m + 1, x, h => by
    unfold ltK ltStep at h
    split at h
    · exact turnL_mem h
    · exact ltK_mem m x h
theorem ltP_mem {ws : List Int} (pre : List (Nat × Nat)) : ∀ x ∈ ltP ws pre, x ∈ ws := by
  have : ∀ (pre : List (Nat × Nat)) (cur : List Int), (∀ x ∈ cur, x ∈ ws) → ∀ x ∈ pre.foldl (fun cur x => ltStep ws cur x.2) cur, x ∈ ws := by
    intro pre
    induction pre with
    | nil => intro cur h; exact h
    | cons y r ih =>
      intro cur h
      refine ih _ (fun x hx => ?_)
      unfold ltStep at hx
      dsimp only at hx
      split at hx
      · exact turnL_mem hx
      · exact h x hx
  exact this pre ws (fun x h => h)
def ltOf (s : Int) (xss : List (List Int)) (ws : List Int) : List Int × Int := if wcode s xss ws = 0 then (if clB (dirE (pairs xss)) ws = true then (ltK ws (ws.length - 1), 0) else ([], 5)) else ([], wcode s xss ws)
theorem ltOf_code {s : Int} {xss : List (List Int)} {ws : List Int} (h : ¬ wcode s xss ws = 0) : ltOf s xss ws = ([], wcode s xss ws) := by unfold ltOf; rw [if_neg h]
theorem ltOf_open {s : Int} {xss : List (List Int)} {ws : List Int} (h : wcode s xss ws = 0) (h2 : clB (dirE (pairs xss)) ws = false) : ltOf s xss ws = ([], 5) := by unfold ltOf; rw [if_pos h, h2]; rfl
theorem ltOf_yes {s : Int} {xss : List (List Int)} {ws : List Int} (h : wcode s xss ws = 0) (h2 : clB (dirE (pairs xss)) ws = true) : ltOf s xss ws = (ltK ws (ws.length - 1), 0) := by unfold ltOf; rw [if_pos h, if_pos h2]

theorem ownS_shape {w : World} {base e size n : Nat} {v : Value} {xs : List Value} (h : w.ownsRow base e size v n xs) : ∃ a c, v = .slice a n c := by
  rcases h.2 with ⟨rfl, h1⟩ | ⟨g, cap, cur, rfl, _⟩
  · exact ⟨none, 0, by rw [h1]⟩
  · exact ⟨_, _, rfl⟩
theorem cell_grown {B : Nat} {W W' : World} {row : Option Nat} (hg : W.grownBy W' row) (hr : ∀ r, row = some r → B ≤ r ∧ ∃ o : Obj, W.heap[r]? = some o ∧ o.isCells = false) {p : Addr} {v : Value} (hc : W.cell? p = some v) : W'.cell? p = some v :=
  (World.cell?_of_block (hg.block p.block (World.block_lt_of_cell? W p hc) (fun e => by
    obtain ⟨_, o, h1, h2⟩ := hr _ e.symm
    exact cell_block h1 h2 hc rfl))).trans hc
theorem frozen_grown {B : Nat} {W W' : World} {row : Option Nat} (hg : W.grownBy W' row) (hr : ∀ r, row = some r → B ≤ r ∧ ∃ o : Obj, W.heap[r]? = some o ∧ o.isCells = false) {p : Addr} {v : Value} {f : Bool} (hc : W.cell? p = some v) (hf : W.frozen? p = f) : W'.frozen? p = f :=
  (World.frozen?_of_block (hg.block p.block (World.block_lt_of_cell? W p hc) (fun e => by
    obtain ⟨_, o, h1, h2⟩ := hr _ e.symm
    exact cell_block h1 h2 hc rfl))).trans hf
theorem keeps_qt {W W' : World} (h : Qt W W') : KeepsOthers W W' := ⟨h.below.size, fun k o hk _ => (h.below.block k (Array.getElem?_eq_some_iff.1 hk).1).trans hk⟩

/-- what the loop keeps: where the least one lies -/
structure LsI (ws : List Int) (n T : Nat) (w : World) (pre : List (Nat × Nat)) (W : World) : Prop where
  below : Below w.heap.size w W
  fr : W.frozen? ⟨T, 0, none⟩ = false
  box : ∃ b o c, W.cell? ⟨T, 0, none⟩ = some (.slice (some ⟨b, o, none⟩) n c) ∧ b ≠ T ∧ ∀ j, j < n → W.cell? ⟨b, o + j, none⟩ = some (.int .i64 ((ltP ws pre).getD j 0))
theorem LsI.own {ws : List Int} {n T B : Nat} {w : World} (hB : w.heap.size ≤ B) : OwnFrom B (LsI ws n T w) := fun pre W W' row h hg hr => by
  obtain ⟨b, o, c, h1, h2, h3⟩ := h.box
  exact ⟨h.below.grown hg h.below.size (fun k e => Nat.le_trans hB (hr k e).1), frozen_grown hg hr h1 h.fr, b, o, c, cell_grown hg hr h1, h2, fun j hj => cell_grown hg hr (h3 j hj)⟩

end Go.Proofs.YtnblhkhdilkbeaaDoor
