/- CyclicCover: the contracts as a law takes them. -/
import Derived.Test.YtpepmgobcdlnoaaCycEq
import Derived.Test.YtpepmgobcdlnoaaCoreB
set_option linter.unusedSimpArgs false
set_option linter.unusedVariables false
set_option maxRecDepth 100000
namespace Go.Proofs.Ytpepmgobcdlnoaa
open Go.RowKit

theorem cycRows_lens {sh : Int} (h4 : sh ≤ 4) (ys : List Int) : lens (cycRows sh ys) ≤ 4 * ys.length := by
  induction ys with
  | nil => simp [cycRows, lens]
  | cons y r ih =>
    have h : (twB sh y).length ≤ 4 := by rw [twB_len]; omega
    simp only [cycRows, lens, List.map_cons, List.sum_cons, List.length_cons] at ih ⊢
    omega
theorem gr_lens {s : Int} {xss : List (List Int)} (h : grB s xss = true) : lens xss ≤ 20 := by
  obtain ⟨_, _, h3, h4⟩ := grB_iff h
  rw [lens_two (fun e he => by
    obtain ⟨i, hi, rfl⟩ := List.getElem_of_mem he
    have := (h4 i hi).1
    simpa [List.getD, List.getElem?_eq_getElem hi] using this)]
  omega
theorem cycOf_lens1 (s : Int) (xss : List (List Int)) (sh : Int) (ys : List Int) : lens (cycOf s xss sh ys).1.2.1 ≤ 1000 := by
  by_cases hc : cycCode s xss sh ys = 0
  · rw [cycOf_ok hc]
    obtain ⟨hg, _⟩ := cyc_ok hc
    have := gr_lens hg
    show lens xss ≤ 1000
    omega
  · rw [cycOf_no hc]; simp [lens]
theorem cycOf_lens2 (s : Int) (xss : List (List Int)) (sh : Int) (ys : List Int) : lens (cycOf s xss sh ys).1.2.2.2 ≤ 1000 := by
  by_cases hc : cycCode s xss sh ys = 0
  · rw [cycOf_ok hc]
    obtain ⟨hg, _, ⟨_, h4⟩, hl, _⟩ := cyc_ok hc
    have := grB_iff hg
    have := cycRows_lens h4 ys
    show lens (cycRows sh ys) ≤ 1000
    omega
  · rw [cycOf_no hc]; simp [lens]

theorem specCycL {lo hi lo' hi' : Nat} (s : Int) (a : Option Addr) (n c : Nat) (xss : List (List Int)) (sh : Int) (a2 : Option Addr) (n2 c2 : Nat) (ys : List Int) (w : World) (h : RdR lo hi w (.slice a n c) xss) (hn : xss.length = n)
    (h2 : RdI lo' hi' w (.slice a2 n2 c2) ys) (hn2 : ys.length = n2) :
    Calls Try.prog 33 #[.agg #[.int .i64 s, .slice a n c], .int .i64 sh, .slice a2 n2 c2] w fun e w' => ∃ a' c' ta' tc' m, e = .returned (.tuple #[.agg #[.int .i64 (cycOf s xss sh ys).1.1, .slice a' (cycOf s xss sh ys).1.2.1.length c', .int .i64 (cycOf s xss sh ys).1.2.2.1, .slice ta' (cycOf s xss sh ys).1.2.2.2.length tc'], .int .i64 (cycOf s xss sh ys).2]) ∧
      w.heap.size ≤ m ∧ m ≤ w'.heap.size ∧ OwR w.heap.size m w' (.slice a' (cycOf s xss sh ys).1.2.1.length c') (cycOf s xss sh ys).1.2.1 ∧ OwR m w'.heap.size w' (.slice ta' (cycOf s xss sh ys).1.2.2.2.length tc') (cycOf s xss sh ys).1.2.2.2 ∧ Below w.heap.size w w' :=
  specCyc s a n c xss sh a2 n2 c2 ys w h hn h2 hn2
theorem implCycL {lo hi lo' hi' : Nat} (s : Int) (a : Option Addr) (n c : Nat) (xss : List (List Int)) (sh : Int) (a2 : Option Addr) (n2 c2 : Nat) (ys : List Int) (w : World) (h : RdR lo hi w (.slice a n c) xss) (hn : xss.length = n)
    (h2 : RdI lo' hi' w (.slice a2 n2 c2) ys) (hn2 : ys.length = n2) :
    Calls Try.prog 35 #[.agg #[.int .i64 s, .slice a n c], .int .i64 sh, .slice a2 n2 c2] w fun e w' => ∃ a' c' ta' tc' m, e = .returned (.tuple #[.agg #[.int .i64 (cycOf s xss sh ys).1.1, .slice a' (cycOf s xss sh ys).1.2.1.length c', .int .i64 (cycOf s xss sh ys).1.2.2.1, .slice ta' (cycOf s xss sh ys).1.2.2.2.length tc'], .int .i64 (cycOf s xss sh ys).2]) ∧
      w.heap.size ≤ m ∧ m ≤ w'.heap.size ∧ OwR w.heap.size m w' (.slice a' (cycOf s xss sh ys).1.2.1.length c') (cycOf s xss sh ys).1.2.1 ∧ OwR m w'.heap.size w' (.slice ta' (cycOf s xss sh ys).1.2.2.2.length tc') (cycOf s xss sh ys).1.2.2.2 ∧ Below w.heap.size w w' :=
  implCyc s a n c xss sh a2 n2 c2 ys w h hn h2 hn2

end Go.Proofs.Ytpepmgobcdlnoaa
