/- IsGraph of the program and of the model, for every graph value. -/
import Derived.Test.YtgcidkcedfliiaaIsGraph2
set_option linter.unusedSimpArgs false
set_option linter.unusedVariables false
namespace Go.Proofs.Ytgcidkcedfliiaa
open Go.RowKit

def hdB (s : Int) (n : Nat) : Bool := decide (1 ≤ s) && (decide (s ≤ 8) && decide (n ≤ 10))
theorem grB_eq (s : Int) (xss : List (List Int)) : grB s xss = (hdB s xss.length && xss.all (edgeOk s)) := by
  unfold hdB grB
  rw [Bool.and_assoc, Bool.and_assoc]
theorem grB_hd {s : Int} {xss : List (List Int)} (h : hdB s xss.length = false) : grB s xss = false := by
  rw [grB_eq, h]; rfl

theorem ig_bad (s : Int) (a : Option Addr) (n c : Nat) (w : World) (hn : n ≤ 8796093022208) (h : hdB s n = false) :
    Calls Try.prog 60 #[.agg #[.int .i64 s, .slice a n c]] w fun e w' => e = .returned (.bool false) ∧ Below w.heap.size w w' := by
  have hb0 : ∀ o, Below w.heap.size w (w.alloc o) := fun o => (Below.refl _ _).alloc (Nat.le_refl _) o
  by_cases h1 : 1 ≤ s
  · by_cases h2 : s ≤ 8
    · have h3 : ¬ n ≤ 10 := by intro h3; simp [hdB, h1, h2, h3] at h
      clear h
      go_enter Try.func60, Try.ntmps60
      go_wp2
      go_ret
      exact ⟨rfl, hb0 _⟩
    · clear h
      go_enter Try.func60, Try.ntmps60
      go_wp2
      go_ret
      exact ⟨rfl, hb0 _⟩
  · clear h
    go_enter Try.func60, Try.ntmps60
    go_wp2
    go_ret
    exact ⟨rfl, hb0 _⟩

theorem ig_nil (s : Int) (a : Option Addr) (c : Nat) (w : World) (h1 : 1 ≤ s) (h2 : s ≤ 8) :
    Calls Try.prog 60 #[.agg #[.int .i64 s, .slice a 0 c]] w fun e w' => e = .returned (.bool true) ∧ Below w.heap.size w w' := by
  have hb0 : ∀ o, Below w.heap.size w (w.alloc o) := fun o => (Below.refl _ _).alloc (Nat.le_refl _) o
  go_enter Try.func60, Try.ntmps60
  go_wp2
  refine wp_loop_rounds 1 ?_
  rw [rounds_succ]
  go_wp2
  go_ret
  exact ⟨rfl, hb0 _⟩

theorem implIsGraph {lo hi : Nat} (s : Int) (a : Option Addr) (n c : Nat) (xss : List (List Int)) (w : World) (h : RdR lo hi w (.slice a n c) xss) (hn : xss.length = n) :
    Calls Try.prog 60 #[.agg #[.int .i64 s, .slice a n c]] w fun e w' => e = .returned (.bool (grB s xss)) ∧ Below w.heap.size w w' := by
  subst hn
  cases hh : hdB s xss.length with
  | false =>
    rw [grB_hd hh]
    exact ig_bad s a _ c w h.1 hh
  | true =>
    have ⟨h1, h2, h3⟩ : 1 ≤ s ∧ s ≤ 8 ∧ xss.length ≤ 10 := by
      unfold hdB at hh
      simpa using hh
    obtain ⟨_, ⟨a', cap, rfl, hv⟩ | ⟨b, off, cap, hv, _, _, _, hc⟩⟩ := h
    · have : grB s [] = true := by simp [grB, h1, h2]
      rw [this]
      exact ig_nil s a c w h1 h2
    · simp only [Value.slice.injEq] at hv
      obtain ⟨rfl, _, rfl⟩ := hv
      exact ig_loop _ b off c s xss w h3 h1 h2 rfl hc

theorem is_bad (s : Int) (a : Option Addr) (n c : Nat) (w : World) (hn : n ≤ 8796093022208) (h : hdB s n = false) :
    Calls Try.prog 57 #[.agg #[.int .i64 s, .slice a n c]] w fun e w' => e = .returned (.bool false) ∧ Below w.heap.size w w' := by
  have hb0 : ∀ o, Below w.heap.size w (w.alloc o) := fun o => (Below.refl _ _).alloc (Nat.le_refl _) o
  cases hg : (decide (1 ≤ s) && decide (s ≤ 8)) with
  | true =>
    have ⟨h1, h2⟩ : 1 ≤ s ∧ s ≤ 8 := by simpa using hg
    have h3 : ¬ n ≤ 10 := by intro h3; simp [hdB, h1, h2, h3] at h
    clear h
    go_enter Try.func57, Try.ntmps57
    go_wp2_with (go_at_call 98; refine (l01In _ _ _ _).mono ?_; rintro e w' ⟨rfl, ⟨m0, rfl⟩⟩; rw [hg])
    go_ret
    exact ⟨rfl, (hb0 _).drewN _⟩
  | false =>
    clear h
    go_enter Try.func57, Try.ntmps57
    go_wp2_with (go_at_call 98; refine (l01In _ _ _ _).mono ?_; rintro e w' ⟨rfl, ⟨m0, rfl⟩⟩; rw [hg])
    go_ret
    exact ⟨rfl, (hb0 _).drewN _⟩

theorem is_nil (s : Int) (a : Option Addr) (c : Nat) (w : World) (h1 : 1 ≤ s) (h2 : s ≤ 8) :
    Calls Try.prog 57 #[.agg #[.int .i64 s, .slice a 0 c]] w fun e w' => e = .returned (.bool true) ∧ Below w.heap.size w w' := by
  have hb0 : ∀ o, Below w.heap.size w (w.alloc o) := fun o => (Below.refl _ _).alloc (Nat.le_refl _) o
  have hg : (decide (1 ≤ s) && decide (s ≤ 8)) = true := by simp; omega
  go_enter Try.func57, Try.ntmps57
  go_wp2_with (go_at_call 98; refine (l01In _ _ _ _).mono ?_; rintro e w' ⟨rfl, ⟨m0, rfl⟩⟩; rw [hg])
  refine wp_loop_rounds 1 ?_
  rw [rounds_succ]
  go_wp2
  go_ret
  exact ⟨rfl, (hb0 _).drewN _⟩

theorem l01Is {lo hi : Nat} (s : Int) (a : Option Addr) (n c : Nat) (xss : List (List Int)) (w : World) (h : RdR lo hi w (.slice a n c) xss) (hn : xss.length = n) :
    Calls Try.prog 57 #[.agg #[.int .i64 s, .slice a n c]] w fun e w' => e = .returned (.bool (grB s xss)) ∧ Below w.heap.size w w' := by
  subst hn
  cases hh : hdB s xss.length with
  | false =>
    rw [grB_hd hh]
    exact is_bad s a _ c w h.1 hh
  | true =>
    have ⟨h1, h2, h3⟩ : 1 ≤ s ∧ s ≤ 8 ∧ xss.length ≤ 10 := by
      unfold hdB at hh
      simpa using hh
    obtain ⟨_, ⟨a', cap, rfl, hv⟩ | ⟨b, off, cap, hv, _, _, _, hc⟩⟩ := h
    · have : grB s [] = true := by simp [grB, h1, h2]
      rw [this]
      exact is_nil s a c w h1 h2
    · simp only [Value.slice.injEq] at hv
      obtain ⟨rfl, _, rfl⟩ := hv
      exact is_loop _ b off c s xss w h3 h1 h2 rfl hc

end Go.Proofs.Ytgcidkcedfliiaa
