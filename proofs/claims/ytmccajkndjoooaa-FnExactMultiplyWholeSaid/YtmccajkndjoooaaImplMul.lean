/- MultiplyWhole of the program. -/
import Derived.Test.YtmccajkndjoooaaPolyTimes
set_option linter.unusedSimpArgs false
set_option linter.unusedVariables false
namespace Go.Proofs.Ytmccajkndjoooaa
open Go.RowKit

theorem sumsO_lim (f g : List Int) (j : Nat) (hj : j < (sumsO f g).length) : OLim ((sumsO f g).getD j none) := by
  rw [sumsO_len] at hj
  rw [sumsO_get hj]; exact accO_lim f g j f.length
theorem mulO_lim (f g : List Int) (j : Nat) (hj : j < (mulO f g).length) : OLim ((mulO f g).getD j none) := by
  unfold mulO at hj ⊢
  split at hj
  · simp at hj
  · rename_i h; rw [if_neg h]; exact sumsO_lim f g j hj
theorem mulO_len_le (f g : List Int) : (mulO f g).length ≤ f.length + g.length := by
  unfold mulO
  split
  · simp
  · rw [sumsO_len]; omega

theorem times_nil (a a' : Option Addr) (n m c c' : Nat) (h : n = 0 ∨ m = 0) (w : World) (hn : n ≤ 1000) (hm : m ≤ 1000) :
    Calls Try.prog 32 #[.slice a n c, .slice a' m c'] w fun e w' => e = .returned (.slice none 0 0) ∧ Below w.heap.size w w' := by
  by_cases h0 : n = 0
  · subst h0
    go_enter Try.func32, Try.ntmps32
    go_wp2
    go_ret
    exact ⟨rfl, Below.refl _ _⟩
  · obtain rfl : m = 0 := by omega
    have hnz : ((n : Int) == 0) = false := by simp; omega
    go_enter Try.func32, Try.ntmps32
    go_wp2
    go_ret
    exact ⟨rfl, Below.refl _ _⟩

theorem polyTimes (v v' : Value) (f g : List Int) (w : World) (hf : RdO w v (f.map some)) (hg : RdO w v' (g.map some)) (hn : f.length ≤ 40) (hm : g.length ≤ 40) (hlf : ∀ j, j < f.length → Lim (f.getD j 0)) (hlg : ∀ j, j < g.length → Lim (g.getD j 0)) :
    Calls Try.prog 32 #[v, v'] w fun e w' => ∃ v'', e = .returned v'' ∧ w'.ownsRow w.heap.size 45 2 v'' (mulO f g).length (flatO (mulO f g)) ∧ Below w.heap.size w w' := by
  have hget : ∀ (l : List Int) j, j < l.length → (l.map (some : Int → Option Int)).getD j (some 0) = some (l.getD j 0) := fun l j hj => by simp [List.getD, List.getElem?_eq_getElem hj]
  have hnil : (f.length = 0 ∨ g.length = 0) → ∀ (a a' : Option Addr) (c c' : Nat), Calls Try.prog 32 #[.slice a f.length c, .slice a' g.length c'] w fun e w' => ∃ v'', e = .returned v'' ∧ w'.ownsRow w.heap.size 45 2 v'' (mulO f g).length (flatO (mulO f g)) ∧ Below w.heap.size w w' := fun h a a' c c' => by
    have e0 : mulO f g = [] := by unfold mulO; rw [if_pos h]
    rw [e0]
    exact (times_nil a a' f.length g.length c c' h w (by omega) (by omega)).mono fun e w' ⟨he, hb⟩ => ⟨_, he, World.ownsRow_nil _ _ _ _, hb⟩
  have sf := hf.shape
  have sg := hg.shape
  rw [List.length_map] at sf sg
  obtain ⟨a, c, rfl⟩ := sf
  obtain ⟨a', c', rfl⟩ := sg
  by_cases h : f.length = 0 ∨ g.length = 0
  · exact hnil h a a' c c'
  · have e0 : mulO f g = sumsO f g := by unfold mulO; rw [if_neg h]
    rw [e0, sumsO_len]
    obtain ⟨_, ⟨_, _, hx, _⟩ | ⟨g1, cap, hv, _, hg1, hc⟩⟩ := hf
    · have : (f.map (some : Int → Option Int)).length = 0 := by rw [hx]; rfl
      rw [List.length_map] at this; omega
    · obtain ⟨_, ⟨_, _, hx, _⟩ | ⟨g2, cap2, hv2, _, hg2, hc2⟩⟩ := hg
      · have : (g.map (some : Int → Option Int)).length = 0 := by rw [hx]; rfl
        rw [List.length_map] at this; omega
      · simp only [Value.slice.injEq] at hv hv2
        obtain ⟨rfl, _, rfl⟩ := hv
        obtain ⟨rfl, _, rfl⟩ := hv2
        rw [List.length_map] at hc hc2
        exact times_ne f.length g.length g1 g2 _ _ (f.length + g.length - 1) f g w rfl rfl (by omega) (by omega) hn hm rfl hlf hlg hg1 hg2
          (fun j hj => by have := hc j hj; rw [hget f j hj] at this; exact this) (fun j hj => by have := hc2 j hj; rw [hget g j hj] at this; exact this)

theorem implMul_bad {lo hi lo' hi' : Nat} (v v' : Value) (f g : List Int) (w : World) (hf : RdI lo hi w v f) (hg : RdI lo' hi' w v' g) (hw : (wholeB f && wholeB g) = false) :
    Calls Try.prog 17 #[v, v'] w fun e w' => e = .returned (.tuple #[.slice none 0 0, .int .i64 1]) ∧ Qt w w' := by
  cases h1 : wholeB f with
  | false =>
    have HW := Lib.hid h1
    clear h1 hw
    go_enter Try.func17, Try.ntmps17
    go_wp2_with fail
    refine (implIsWhole _ f _ hf).mono ?_
    rw [HW.out]
    rintro e w1 ⟨rfl, q1⟩
    go_wp2
    go_ret2
    exact ⟨rfl, q1⟩
  | true =>
    have h2 : wholeB g = false := by rw [h1] at hw; simpa using hw
    have HW := Lib.hid h1
    have HW' := Lib.hid h2
    clear h1 h2 hw
    go_enter Try.func17, Try.ntmps17
    go_wp2_with fail
    refine (implIsWhole _ f _ hf).mono ?_
    rw [HW.out]
    rintro e w1 ⟨rfl, q1⟩
    go_wp2_with fail
    refine (implIsWhole _ g _ (hg.qt q1)).mono ?_
    rw [HW'.out]
    rintro e w2 ⟨rfl, q2⟩
    have hq := q1.trans q2
    go_wp2
    go_ret2
    exact ⟨rfl, hq⟩

set_option maxHeartbeats 1600000 in
theorem implMul_ok {lo hi lo' hi' : Nat} (v v' : Value) (f g : List Int) (w : World) (hf : RdI lo hi w v f) (hg : RdI lo' hi' w v' g) (hw : wholeB f = true) (hw' : wholeB g = true) :
    Calls Try.prog 17 #[v, v'] w fun e w' => ∃ a c, e = .returned (.tuple #[.slice a (mulOf f g).1.length c, .int .i64 (mulOf f g).2]) ∧ OwI w.heap.size w'.heap.size w' (.slice a (mulOf f g).1.length c) (mulOf f g).1 ∧ Below w.heap.size w w' := by
  rw [← numsOf_mul hw hw']
  have hI : ∀ x ∈ (numsOf (mulO f g)).1, I64 x := by rw [numsOf_mul hw hw']; exact mulOf_I64
  have hlf := wholeB_lim hw
  have hlg := wholeB_lim hw'
  have hn := hlf.1
  have hm := hlg.1
  have HW := Lib.hid hw
  have HW' := Lib.hid hw'
  have HI := Lib.hid hI
  have HLF := Lib.hid hlf.2
  have HLG := Lib.hid hlg.2
  clear hw hw' hI hlf hlg
  go_enter Try.func17, Try.ntmps17
  go_wp2_with fail
  refine (implIsWhole _ f _ hf).mono ?_
  rw [HW.out]
  rintro e w1 ⟨rfl, q1⟩
  go_wp2_with fail
  refine (implIsWhole _ g _ (hg.qt q1)).mono ?_
  rw [HW'.out]
  rintro e w2 ⟨rfl, q2⟩
  have hB3 := (q1.trans q2).below
  have hf3 := hf.below hB3
  have hg3 := hg.below hB3
  clear q1 q2 hf hg
  go_wp2_with fail
  refine (wholesOf _ f _ hf3).mono ?_
  rintro e w4 ⟨a4, c4, rfl, o4, b4⟩
  have hg4 := hg3.below b4
  have hB4 := hB3.next b4
  have r4 : RdO w4 _ (f.map some) := RdO.mk o4 (by rw [List.length_map]) (somes_lim HW.out)
  clear hf3 hg3 o4 b4 hB3
  go_wp2_with fail
  refine (wholesOf _ g _ hg4).mono ?_
  rintro e w5 ⟨a5, c5, rfl, o5, b5⟩
  have r5 := r4.below b5
  have hB5 := hB4.next b5
  have s5 : RdO w5 _ (g.map some) := RdO.mk o5 (by rw [List.length_map]) (somes_lim HW'.out)
  clear hg4 o5 b5 r4 hB4
  go_wp2_with fail
  refine (polyTimes _ _ f g _ r5 s5 hn hm HLF.out HLG.out).mono ?_
  rintro e w7 ⟨v7, rfl, o7, b7⟩
  have hB7 := hB5.next b7
  have hle := mulO_len_le f g
  clear b7 r5 s5 hB5
  go_wp2_with fail
  refine (numbersOfO _ (mulO f g) _ o7 (fun j hj => mulO_lim _ _ j hj) (by omega) HI.out rfl).mono ?_
  rintro e w8 ⟨a8, c8, rfl, o8, b8⟩
  have hB8 := hB7.next b8
  have o9 := o8.lower hB7.size
  clear o7 o8 b8 hB7
  go_wp2
  go_ret2
  exact ⟨a8, c8, rfl, o9, hB8⟩

theorem mulOf_bad {f g : List Int} (h : (wholeB f && wholeB g) = false) : mulOf f g = ([], 1) := by unfold mulOf; rw [if_pos h]

theorem implMulL {lo hi lo' hi' : Nat} (a : Option Addr) (n c : Nat) (f : List Int) (a' : Option Addr) (n' c' : Nat) (g : List Int) (w : World) (hf : RdI lo hi w (.slice a n c) f) (hn : f.length = n) (hg : RdI lo' hi' w (.slice a' n' c') g) (hn' : g.length = n') :
    Calls Try.prog 17 #[.slice a n c, .slice a' n' c'] w fun e w' => ∃ a c, e = .returned (.tuple #[.slice a (mulOf f g).1.length c, .int .i64 (mulOf f g).2]) ∧ OwI w.heap.size w'.heap.size w' (.slice a (mulOf f g).1.length c) (mulOf f g).1 ∧ Below w.heap.size w w' := by
  cases h : (wholeB f && wholeB g) with
  | false =>
    rw [mulOf_bad h]
    exact (implMul_bad _ _ f g w hf hg h).mono fun e w' ⟨he, hq⟩ => ⟨none, 0, he, OwI.mk (World.ownsRow_nil _ _ _ _) (by simp) (by simp), hq.below⟩
  | true =>
    simp only [Bool.and_eq_true] at h
    exact implMul_ok _ _ f g w hf hg h.1 h.2

end Go.Proofs.Ytmccajkndjoooaa
