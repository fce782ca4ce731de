/- ValueOfWhole of the model. -/
import Derived.Test.YtebgbplhcaocoaaMore
set_option linter.unusedSimpArgs false
set_option linter.unusedVariables false
namespace Go.Proofs.Ytebgbplhcaocoaa
open Go.RowKit

def valStep (x c : Int) (o : Option Int) : Option Int := o.bind (fun v => if moreB c v x then some (c + v * x) else none)
def valW (f : List Int) (x : Int) : Option Int := f.foldr (valStep x) (some 0)
theorem valW_drop (f : List Int) (x : Int) (k : Nat) (hk : k < f.length) : valW (f.drop k) x = valStep x (f.getD k 0) (valW (f.drop (k+1)) x) := by
  have e : f.getD k 0 = f[k] := by simp [List.getD, List.getElem?_eq_getElem hk]
  rw [e]
  unfold valW
  rw [List.drop_eq_getElem_cons hk, List.foldr_cons]
theorem valW_none {f : List Int} {x : Int} (k : Nat) (h : valW (f.drop k) x = none) : valW f x = none := by
  have e : f = f.take k ++ f.drop k := (List.take_append_drop k f).symm
  have hn : ∀ l : List Int, l.foldr (valStep x) none = none := fun l => by
    induction l with
    | nil => rfl
    | cons c r ih => simp [ih, valStep]
  unfold valW at h ⊢
  rw [e, List.foldr_append, h, hn]
def valueOf (f : List Int) (x : Int) : Int × Int :=
  if wholeB f = false then (0, 1) else if (decide (-1000 ≤ x) && decide (x ≤ 1000)) = false then (0, 2) else match valW f x with | some v => (v, 0) | none => (0, 3)

theorem wholeB_lim {f : List Int} (h : wholeB f = true) : f.length ≤ 40 ∧ ∀ j, j < f.length → Lim (f.getD j 0) := by
  simp only [wholeB, Bool.and_eq_true, decide_eq_true_eq, List.all_eq_true] at h
  refine ⟨h.1, fun j hj => ?_⟩
  have := h.2.1 _ (List.getElem_mem hj)
  simp only [inW, Bool.and_eq_true, decide_eq_true_eq] at this
  simpa [List.getD, List.getElem?_eq_getElem hj, Lim] using this

end Go.Proofs.Ytebgbplhcaocoaa
