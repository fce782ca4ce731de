/- ProjectVertex of the model and of the program. -/
import Derived.Test.YtpepmgobcdlnoaaImplCov
set_option linter.unusedSimpArgs false
set_option linter.unusedVariables false
set_option maxRecDepth 100000
namespace Go.Proofs.Ytpepmgobcdlnoaa
open Go.RowKit

theorem cvB_hd {s : Int} {xss : List (List Int)} {sh : Int} {ts : List (List Int)} (h : cvB s xss sh ts = true) : grB s xss = true ∧ (1 ≤ s ∧ s ≤ 8) ∧ (1 ≤ sh ∧ sh ≤ 4) ∧ ts.length = xss.length ∧ ts.all (permB sh) = true := by
  unfold cvB at h
  simp only [Bool.and_eq_true, decide_eq_true_eq] at h
  obtain ⟨h1, h2, h3, h4⟩ := h
  obtain ⟨h5, h6, _, _⟩ := grB_iff h1
  unfold shB at h2
  simp only [Bool.and_eq_true, decide_eq_true_eq] at h2
  exact ⟨h1, ⟨h5, h6⟩, h2, h3, h4⟩

def pvOf (s : Int) (xss : List (List Int)) (sh : Int) (ts : List (List Int)) (v : Int) : Int × Int := if cvB s xss sh ts then (if inR v (s * sh) then (v / sh, 0) else (0, 2)) else (0, 1)

theorem l01InX (x s : Int) (h1 : 1 ≤ s) (h2 : s ≤ 32) (w : World) :
    Calls Try.prog 71 #[.int .i64 x, .int .i64 0, .int .i64 (s - 1)] w fun e w' => e = .returned (.bool (inR x s)) ∧ Qt w w' := by
  have e1 : inR x s = (decide (0 ≤ x) && decide (x ≤ s - 1)) := by
    unfold inR
    congr 1
    simp; omega
  rw [e1]
  exact l01In x 0 (s - 1) w

theorem mul_bd {s sh : Int} (h1 : 1 ≤ s) (h2 : s ≤ 8) (h3 : 1 ≤ sh) (h4 : sh ≤ 4) : 1 ≤ s * sh ∧ s * sh ≤ 32 := by
  have h : sh = 1 ∨ sh = 2 ∨ sh = 3 ∨ sh = 4 := by omega
  rcases h with rfl | rfl | rfl | rfl <;> omega
set_option maxHeartbeats 1600000 in
theorem specPV {lo hi lo' hi' : Nat} (s : Int) (a : Option Addr) (n c : Nat) (xss : List (List Int)) (sh : Int) (ta : Option Addr) (tn tc : Nat) (ts : List (List Int)) (v : Int) (w : World)
    (h : RdR lo hi w (.slice a n c) xss) (hn : xss.length = n) (h' : RdR lo' hi' w (.slice ta tn tc) ts) (hn' : ts.length = tn) :
    Calls Try.prog 40 #[.agg #[.int .i64 s, .slice a n c, .int .i64 sh, .slice ta tn tc], .int .i64 v] w fun e w' => e = .returned (.tuple #[.int .i64 (pvOf s xss sh ts v).1, .int .i64 (pvOf s xss sh ts v).2]) ∧ Below w.heap.size w w' := by
  have hb0 : ∀ o, Below w.heap.size w (w.alloc o) := fun o => (Below.refl _ _).alloc (Nat.le_refl _) o
  have HR := Lib.hid h
  have HR' := Lib.hid h'
  obtain ⟨p, hp⟩ : ∃ p, p = pvOf s xss sh ts v := ⟨_, rfl⟩
  rw [← hp]
  go_enter Try.func40, Try.ntmps40
  go_wp2_with fail
  refine calls_gen (fun W => Below w.heap.size w W ∧ W.cell? ⟨w.heap.size, 0, none⟩ = some (.int .i64 s) ∧ W.cell? ⟨w.heap.size, 2, none⟩ = some (.int .i64 sh)) ⟨hb0 _, by go_simp, by go_simp⟩ ?_
  rintro W ⟨hB, k0, k2⟩
  refine (l04Is s a n c xss sh ta tn tc ts W (HR.out.below hB) hn (HR'.out.below hB) hn').mono ?_
  rintro e w1 ⟨rfl, b1⟩
  replace k0 := b1.keep k0
  replace k2 := b1.keep k2
  replace hB := hB.next b1
  clear b1 h h' hn hn'
  unfold pvOf at hp
  cases hc : cvB s xss sh ts with
  | false =>
    rw [hc, if_neg (by simp)] at hp
    subst hp
    go_wp2
    go_ret2
    exact ⟨rfl, hB⟩
  | true =>
    rw [hc, if_pos rfl] at hp
    obtain ⟨_, ⟨h1, h2⟩, ⟨h3, h4⟩, _, _⟩ := cvB_hd hc
    obtain ⟨m1, m2⟩ := mul_bd h1 h2 h3 h4
    have hne : (sh == 0) = false := by simp; omega
    have hne2 : ¬ sh = 0 := by omega
    obtain ⟨m, hm⟩ : ∃ m, m = s * sh := ⟨_, rfl⟩
    rw [← hm] at m1 m2 hp
    have hw1 : IntKind.i64.wrap (s * sh) = m := by rw [← hm]; exact IntWalk.i64_in _ (by omega)
    have hw2 : IntKind.i64.wrap (m - 1) = m - 1 := IntWalk.i64_in _ (by omega)
    clear hc h1 h2 hm
    cases hi : inR v m with
    | false =>
      rw [hi, if_neg (by simp)] at hp
      subst hp
      go_wp2_with (go_at_call 71; refine (l01InX _ _ m1 m2 _).mono ?_; rintro e w2 ⟨rfl, q1⟩; rw [hi])
      go_ret2
      exact ⟨rfl, hB.qt q1⟩
    | true =>
      rw [hi, if_pos rfl] at hp
      have hv : 0 ≤ v ∧ v < m := by unfold inR at hi; simpa using hi
      subst hp
      go_wp2_with (go_at_call 71; refine (l01InX _ _ m1 m2 _).mono ?_; rintro e w2 ⟨rfl, q1⟩; rw [hi]; replace k2 := q1.cell k2)
      go_ret2
      exact ⟨rfl, hB.qt q1⟩

set_option maxHeartbeats 1600000 in
theorem implPV {lo hi lo' hi' : Nat} (s : Int) (a : Option Addr) (n c : Nat) (xss : List (List Int)) (sh : Int) (ta : Option Addr) (tn tc : Nat) (ts : List (List Int)) (v : Int) (w : World)
    (h : RdR lo hi w (.slice a n c) xss) (hn : xss.length = n) (h' : RdR lo' hi' w (.slice ta tn tc) ts) (hn' : ts.length = tn) :
    Calls Try.prog 41 #[.agg #[.int .i64 s, .slice a n c, .int .i64 sh, .slice ta tn tc], .int .i64 v] w fun e w' => e = .returned (.tuple #[.int .i64 (pvOf s xss sh ts v).1, .int .i64 (pvOf s xss sh ts v).2]) ∧ Below w.heap.size w w' := by
  have hb0 : ∀ o, Below w.heap.size w (w.alloc o) := fun o => (Below.refl _ _).alloc (Nat.le_refl _) o
  have HR := Lib.hid h
  have HR' := Lib.hid h'
  obtain ⟨p, hp⟩ : ∃ p, p = pvOf s xss sh ts v := ⟨_, rfl⟩
  rw [← hp]
  go_enter Try.func41, Try.ntmps41
  go_wp2_with fail
  refine calls_gen (fun W => Below w.heap.size w W ∧ W.cell? ⟨w.heap.size, 0, none⟩ = some (.int .i64 s) ∧ W.cell? ⟨w.heap.size, 2, none⟩ = some (.int .i64 sh)) ⟨hb0 _, by go_simp, by go_simp⟩ ?_
  rintro W ⟨hB, k0, k2⟩
  refine (implIsCover s a n c xss sh ta tn tc ts W (HR.out.below hB) hn (HR'.out.below hB) hn').mono ?_
  rintro e w1 ⟨rfl, b1⟩
  replace k0 := b1.keep k0
  replace k2 := b1.keep k2
  replace hB := hB.next b1
  clear b1 h h' hn hn'
  unfold pvOf at hp
  cases hc : cvB s xss sh ts with
  | false =>
    rw [hc, if_neg (by simp)] at hp
    subst hp
    go_wp2
    go_ret2
    exact ⟨rfl, hB⟩
  | true =>
    rw [hc, if_pos rfl] at hp
    obtain ⟨_, ⟨h1, h2⟩, ⟨h3, h4⟩, _, _⟩ := cvB_hd hc
    obtain ⟨m1, m2⟩ := mul_bd h1 h2 h3 h4
    have hne : (sh == 0) = false := by simp; omega
    have hne2 : ¬ sh = 0 := by omega
    obtain ⟨m, hm⟩ : ∃ m, m = s * sh := ⟨_, rfl⟩
    rw [← hm] at m1 m2 hp
    have hw1 : IntKind.i64.wrap (s * sh) = m := by rw [← hm]; exact IntWalk.i64_in _ (by omega)
    have hw2 : IntKind.i64.wrap (m - 1) = m - 1 := IntWalk.i64_in _ (by omega)
    clear hc h1 h2 hm
    cases hi : inR v m with
    | false =>
      rw [hi, if_neg (by simp)] at hp
      subst hp
      go_wp2_with (go_at_call 81; refine (isIndex _ _ _).mono ?_; rintro e w2 ⟨rfl, q1⟩; rw [hi])
      go_ret2
      exact ⟨rfl, hB.qt q1⟩
    | true =>
      rw [hi, if_pos rfl] at hp
      have hv : 0 ≤ v ∧ v < m := by unfold inR at hi; simpa using hi
      subst hp
      go_wp2_with (go_at_call 81; refine (isIndex _ _ _).mono ?_; rintro e w2 ⟨rfl, q1⟩; rw [hi]; replace k2 := q1.cell k2)
      go_ret2
      exact ⟨rfl, hB.qt q1⟩

end Go.Proofs.Ytpepmgobcdlnoaa
