/- IsWhole of the program and of the model: both say whether the list is a polynomial. -/
import Derived.Test.YtebgbplhcaocoaaCoreA
import Derived.WalkKit
import Derived.WalkSpells
import Derived.WalkLawsBesides
import Derived.ProofKit
import Derived.SizedLaws
import Derived.Lib.Hide
import Derived.Deep.QuietTactic
import Derived.BigQuiet
set_option linter.unusedSimpArgs false
set_option linter.unusedVariables false
namespace Go.Proofs.Ytebgbplhcaocoaa
open Go.RowKit

def inW (x : Int) : Bool := decide (-1000000000000000 ≤ x) && decide (x ≤ 1000000000000000)
def lastOk (xs : List Int) : Bool := decide (xs = []) || (xs.getD (xs.length - 1) 0 != 0)
def wholeB (xs : List Int) : Bool := decide (xs.length ≤ 40) && (xs.all inW && lastOk xs)

theorem isWithin (x l : Int) (hl : 0 ≤ l) (hl' : l ≤ 1000000000000000) (w : World) :
    Calls Try.prog 126 #[.int .i64 x, .int .i64 l] w fun e w' => e = .returned (.bool (decide (-l ≤ x) && decide (x ≤ l))) ∧ Qt w w' := by
  by_cases h1 : -l ≤ x
  · go_enter Try.func126, Try.ntmps126
    go_wp2
    go_ret
    exact ⟨by first | (simp [*]; done) | (simp [*]; intros; omega), Qt.refl _⟩
  · go_enter Try.func126, Try.ntmps126
    go_wp2
    go_ret
    exact ⟨by first | (simp [*]; done) | (simp [*]; intros; omega), Qt.refl _⟩

theorem inW_take {xs : List Int} {k : Nat} (hk : k < xs.length) (h : (xs.take k).all inW = true) (e : inW (xs.getD k 0) = true) : (xs.take (k+1)).all inW = true := by
  rw [List.take_add_one, List.all_append, h, List.getElem?_eq_getElem hk]
  simp [List.getD, List.getElem?_eq_getElem hk] at e
  simp [e]
theorem inW_not {xs : List Int} {k : Nat} (hk : k < xs.length) (e : inW (xs.getD k 0) = false) : xs.all inW = false := by
  simp [List.getD, List.getElem?_eq_getElem hk] at e
  rw [List.all_eq_false]
  exact ⟨_, List.getElem_mem hk, by simp [e]⟩

end Go.Proofs.Ytebgbplhcaocoaa
