/- AddWhole of the program. -/
import Derived.Test.YtmccajkndjoooaaPolyScaled
import Derived.Test.YtmccajkndjoooaaImplDeriv2
set_option linter.unusedSimpArgs false
set_option linter.unusedVariables false
namespace Go.Proofs.Ytmccajkndjoooaa
open Go.RowKit

def addO (f g : List Int) (k : Int) : List (Option Int) := plusL (f.map some) (scaledL (g.map some) k)
theorem addO_len (f g : List Int) (k : Int) : (addO f g k).length = max f.length g.length := by simp [addO, plusL_len, scaledL_len]
theorem somes_lim {f : List Int} (h : wholeB f = true) (j : Nat) : OLim ((f.map some).getD j (some 0)) := by
  by_cases hj : j < f.length
  · have : (f.map some).getD j (some 0) = some (f.getD j 0) := by simp [List.getD, List.getElem?_eq_getElem hj]
    rw [this]; exact OLim.some ((wholeB_lim h).2 j hj)
  · have : (f.map (some : Int → Option Int)).getD j (some 0) = some 0 := by simp [List.getD, List.getElem?_eq_none (Nat.le_of_not_lt hj)]
    rw [this]; exact OLim.some (by unfold Lim; omega)
theorem scaledL_lim (f : List (Option Int)) (x : Int) (j : Nat) : OLim ((scaledL f x).getD j (some 0)) := by
  by_cases hj : j < f.length
  · have : (scaledL f x).getD j (some 0) = timesO (f.getD j (some 0)) (some x) := by simp [scaledL, List.getD, List.getElem?_eq_getElem hj]
    rw [this]; exact timesO_lim _ _
  · have : (scaledL f x).getD j (some 0) = some 0 := by simp [scaledL, List.getD, List.getElem?_eq_none (Nat.le_of_not_lt hj)]
    rw [this]; exact OLim.some (by unfold Lim; omega)
theorem plusL_lim (f g : List (Option Int)) (j : Nat) (hj : j < (plusL f g).length) : OLim ((plusL f g).getD j none) := by
  rw [plusL_len] at hj
  have : (plusL f g).getD j none = plusO (atO f j) (atO g j) := by simp [plusL, List.getD, hj]
  rw [this]; exact plusO_lim _ _

set_option maxHeartbeats 1600000 in
theorem implAdd_ok {lo hi lo' hi' : Nat} (v v' : Value) (f g : List Int) (k : Int) (w : World) (hf : RdI lo hi w v f) (hg : RdI lo' hi' w v' g) (hw : wholeB f = true) (hw' : wholeB g = true) (hk : (decide (-1000 ≤ k) && decide (k ≤ 1000)) = true)
    (hI : ∀ x ∈ (numsOf (addO f g k)).1, I64 x) :
    Calls Try.prog 13 #[v, v', .int .i64 k] w fun e w' => ∃ a c, e = .returned (.tuple #[.slice a (numsOf (addO f g k)).1.length c, .int .i64 (numsOf (addO f g k)).2]) ∧ OwI w.heap.size w'.heap.size w' (.slice a (numsOf (addO f g k)).1.length c) (numsOf (addO f g k)).1 ∧ Below w.heap.size w w' := by
  have hn := (wholeB_lim hw).1
  have hm := (wholeB_lim hw').1
  have HW := Lib.hid hw
  have HW' := Lib.hid hw'
  have HK := Lib.hid hk
  have HI := Lib.hid hI
  have hkx : -1000 ≤ k ∧ k ≤ 1000 := by simpa using hk
  have hkl : Lim k := by unfold Lim; omega
  clear hw hw' hk hkx hI
  go_enter Try.func13, Try.ntmps13
  go_wp2_with fail
  refine (implIsWhole _ f _ hf).mono ?_
  rw [HW.out]
  rintro e w1 ⟨rfl, q1⟩
  go_wp2_with fail
  refine (implIsWhole _ g _ (hg.qt q1)).mono ?_
  rw [HW'.out]
  rintro e w2 ⟨rfl, q2⟩
  go_wp2_with fail
  refine (isWithin _ _ (by omega) (by omega) _).mono ?_
  rw [HK.out]
  rintro e w3 ⟨rfl, q3⟩
  have hB3 := ((q1.trans q2).trans q3).below
  have hf3 := hf.below hB3
  have hg3 := hg.below hB3
  clear q1 q2 q3 hf hg
  go_wp2_with fail
  refine (wholesOf _ f _ hf3).mono ?_
  rintro e w4 ⟨a4, c4, rfl, o4, b4⟩
  have hg4 := hg3.below b4
  have hB4 := hB3.next b4
  have r4 : RdO w4 _ (f.map some) := RdO.mk o4 (by rw [List.length_map]) (somes_lim HW.out)
  clear hf3 hg3 o4 b4 hB3
  go_wp2_with fail
  refine (wholesOf _ g _ hg4).mono ?_
  rintro e w5 ⟨a5, c5, rfl, o5, b5⟩
  have r5 := r4.below b5
  have hB5 := hB4.next b5
  have s5 : RdO w5 _ (g.map some) := RdO.mk o5 (by rw [List.length_map]) (somes_lim HW'.out)
  clear hg4 o5 b5 r4 hB4
  go_wp2_with fail
  refine (polyScaled _ (g.map some) k _ s5 (by rw [List.length_map]; omega) hkl).mono ?_
  rintro e w6 ⟨v6, rfl, o6, b6⟩
  have r6 := r5.below b6
  have hB6 := hB5.next b6
  have s6 : RdO w6 _ (scaledL (g.map some) k) := RdO.mk o6 (by rw [scaledL_len]) (scaledL_lim _ _)
  obtain ⟨a6, c6, hv6⟩ := s6.shape
  have HV6 := Lib.hid hv6
  clear hv6 o6 b6 r5 s5 hB5
  go_wp2_with fail
  rw [HV6.out] at s6 ⊢
  refine (polyPlus _ _ _ _ _ _ (f.map some) (scaledL (g.map some) k) _ r6 s6 (by rw [List.length_map]) rfl (by omega) (by rw [scaledL_len, List.length_map]; omega)).mono ?_
  rintro e w7 ⟨v7, rfl, o7, b7⟩
  have hB7 := hB6.next b7
  clear b7 r6 s6 hB6
  go_wp2_with fail
  refine (numbersOfO _ (addO f g k) _ o7 (fun j hj => plusL_lim _ _ j hj) (by rw [scaledL_len, List.length_map]; omega) HI.out (by rw [addO_len, scaledL_len, List.length_map])).mono ?_
  rintro e w8 ⟨a8, c8, rfl, o8, b8⟩
  have hB8 := hB7.next b8
  have o9 := o8.lower hB7.size
  clear o7 o8 b8 hB7
  go_wp2
  go_ret2
  exact ⟨a8, c8, rfl, o9, hB8⟩

end Go.Proofs.Ytmccajkndjoooaa
