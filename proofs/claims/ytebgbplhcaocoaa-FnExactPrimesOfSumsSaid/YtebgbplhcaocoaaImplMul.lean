/- MultiplyWhole of the program. -/
import Derived.Test.YtebgbplhcaocoaaPolyTimes
set_option linter.unusedSimpArgs false
set_option linter.unusedVariables false
set_option maxRecDepth 100000
namespace Go.Proofs.Ytebgbplhcaocoaa
open Go.RowKit

theorem sumsO_lim (f g : List Int) (j : Nat) (hj : j < (sumsO f g).length) : OLim ((sumsO f g).getD j none) := by
  rw [sumsO_len] at hj
  rw [sumsO_get hj]; exact accO_lim f g j f.length
theorem mulO_lim (f g : List Int) (j : Nat) (hj : j < (mulO f g).length) : OLim ((mulO f g).getD j none) := by
  unfold mulO at hj ⊢
  split at hj
  · simp at hj
  · rename_i h; rw [if_neg h]; exact sumsO_lim f g j hj
theorem mulO_len_le (f g : List Int) : (mulO f g).length ≤ f.length + g.length := by
  unfold mulO
  split
  · simp
  · rw [sumsO_len]; omega

theorem times_nil (a a' : Option Addr) (n m c c' : Nat) (h : n = 0 ∨ m = 0) (w : World) (hn : n ≤ 1000) (hm : m ≤ 1000) :
    Calls Try.prog 222 #[.slice a n c, .slice a' m c'] w fun e w' => e = .returned (.slice none 0 0) ∧ Below w.heap.size w w' := by
  by_cases h0 : n = 0
  · subst h0
    go_enter Try.func222, Try.ntmps222
    go_wp2
    go_ret
    exact ⟨rfl, Below.refl _ _⟩
  · obtain rfl : m = 0 := by omega
    have hnz : ((n : Int) == 0) = false := by simp; omega
    go_enter Try.func222, Try.ntmps222
    go_wp2
    go_ret
    exact ⟨rfl, Below.refl _ _⟩

theorem polyTimes (v v' : Value) (f g : List Int) (w : World) (hf : RdO w v (f.map some)) (hg : RdO w v' (g.map some)) (hn : f.length ≤ 40) (hm : g.length ≤ 40) (hlf : ∀ j, j < f.length → Lim (f.getD j 0)) (hlg : ∀ j, j < g.length → Lim (g.getD j 0)) :
    Calls Try.prog 222 #[v, v'] w fun e w' => ∃ v'', e = .returned v'' ∧ w'.ownsRow w.heap.size 73 2 v'' (mulO f g).length (flatO (mulO f g)) ∧ Below w.heap.size w w' := by
  have hget : ∀ (l : List Int) j, j < l.length → (l.map (some : Int → Option Int)).getD j (some 0) = some (l.getD j 0) := fun l j hj => by simp [List.getD, List.getElem?_eq_getElem hj]
  have hnil : (f.length = 0 ∨ g.length = 0) → ∀ (a a' : Option Addr) (c c' : Nat), Calls Try.prog 222 #[.slice a f.length c, .slice a' g.length c'] w fun e w' => ∃ v'', e = .returned v'' ∧ w'.ownsRow w.heap.size 73 2 v'' (mulO f g).length (flatO (mulO f g)) ∧ Below w.heap.size w w' := fun h a a' c c' => by
    have e0 : mulO f g = [] := by unfold mulO; rw [if_pos h]
    rw [e0]
    exact (times_nil a a' f.length g.length c c' h w (by omega) (by omega)).mono fun e w' ⟨he, hb⟩ => ⟨_, he, World.ownsRow_nil _ _ _ _, hb⟩
  have sf := hf.shape
  have sg := hg.shape
  rw [List.length_map] at sf sg
  obtain ⟨a, c, rfl⟩ := sf
  obtain ⟨a', c', rfl⟩ := sg
  by_cases h : f.length = 0 ∨ g.length = 0
  · exact hnil h a a' c c'
  · have e0 : mulO f g = sumsO f g := by unfold mulO; rw [if_neg h]
    rw [e0, sumsO_len]
    obtain ⟨_, ⟨_, _, hx, _⟩ | ⟨g1, cap, hv, _, hg1, hc⟩⟩ := hf
    · have : (f.map (some : Int → Option Int)).length = 0 := by rw [hx]; rfl
      rw [List.length_map] at this; omega
    · obtain ⟨_, ⟨_, _, hx, _⟩ | ⟨g2, cap2, hv2, _, hg2, hc2⟩⟩ := hg
      · have : (g.map (some : Int → Option Int)).length = 0 := by rw [hx]; rfl
        rw [List.length_map] at this; omega
      · simp only [Value.slice.injEq] at hv hv2
        obtain ⟨rfl, _, rfl⟩ := hv
        obtain ⟨rfl, _, rfl⟩ := hv2
        rw [List.length_map] at hc hc2
        exact times_ne f.length g.length g1 g2 _ _ (f.length + g.length - 1) f g w rfl rfl (by omega) (by omega) hn hm rfl hlf hlg hg1 hg2
          (fun j hj => by have := hc j hj; rw [hget f j hj] at this; exact this) (fun j hj => by have := hc2 j hj; rw [hget g j hj] at this; exact this)

theorem mulOf_bad {f g : List Int} (h : (wholeB f && wholeB g) = false) : mulOf f g = ([], 1) := by unfold mulOf; rw [if_pos h]

end Go.Proofs.Ytebgbplhcaocoaa
