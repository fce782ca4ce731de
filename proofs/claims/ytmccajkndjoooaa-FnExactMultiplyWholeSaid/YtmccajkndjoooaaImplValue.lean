/- ValueOfWhole of the program. -/
import Derived.Test.YtmccajkndjoooaaPolyValue
set_option linter.unusedSimpArgs false
set_option linter.unusedVariables false
namespace Go.Proofs.Ytmccajkndjoooaa
open Go.RowKit

theorem wholesOf_nil (a : Option Addr) (cap : Nat) (w : World) :
    Calls Try.prog 28 #[.slice a 0 cap] w fun e w' => ∃ v, e = .returned v ∧ w'.ownsRow w.heap.size 45 2 v 0 [] ∧ Below w.heap.size w w' := by
  obtain ⟨i0, hi', z0, z1, z2⟩ := info_parts Try.info45
  go_enter Try.func28, Try.ntmps28
  go_wp2_with (at_make; refine wpList_make_full _ rfl _ _ 41 rfl w.heap.size 45 i0 (.agg #[.int .i64 0, .bool false]) 2 Try.underlying41 hi' z0 z1 _ _ _ _ 0 rfl rfl rfl rfl ?c1 ?c2 ?c3 ?_)
  case c1 => omega
  case c2 => unfold maxLen; omega
  case c3 => exact Nat.le_refl _
  intro w1 hown hgr
  rw [made2b 0] at hown
  have hbl : Below w.heap.size w w1 := (Below.refl _ _).grown hgr (Nat.le_refl _) (by simp)
  clear hgr
  go_wp2
  refine wp_loop_rounds 1 ?_
  rw [rounds_succ]
  go_wp2
  go_ret
  exact ⟨_, rfl, hown, hbl⟩

theorem wholesOf {lo hi : Nat} (v : Value) (xs : List Int) (w : World) (h : RdI lo hi w v xs) :
    Calls Try.prog 28 #[v] w fun e w' => ∃ a c, e = .returned (.slice a xs.length c) ∧ w'.ownsRow w.heap.size 45 2 (.slice a xs.length c) xs.length (flatO (xs.map some)) ∧ Below w.heap.size w w' := by
  have fin : ∀ (e : Ending) (w' : World) v n, xs.length = n → e = .returned v → w'.ownsRow w.heap.size 45 2 v n (flatO (xs.map some)) → Below w.heap.size w w' → ∃ a c, e = .returned (.slice a xs.length c) ∧ w'.ownsRow w.heap.size 45 2 (.slice a xs.length c) xs.length (flatO (xs.map some)) ∧ Below w.heap.size w w' := by
    intro e w' v n hn he ho hb
    subst hn
    have ho' := ho
    rcases ho.2 with ⟨hv, h0⟩ | ⟨g, cap, cur, hv, _⟩
    · subst hv
      rw [h0] at ho' ⊢
      exact ⟨none, 0, he, ho', hb⟩
    · subst hv; exact ⟨_, cap, he, ho', hb⟩
  obtain ⟨h1, h2, ⟨a, cap, rfl, rfl⟩ | ⟨b, off, cap, rfl, h0, _, _, hc⟩⟩ := h
  · exact (wholesOf_nil a cap w).mono fun e w' ⟨v', he, ho, hb⟩ => fin e w' v' 0 rfl he ho hb
  · exact (wholesOf_ne xs.length b off cap xs w h1 rfl (World.block_lt_of_cell? w _ (hc 0 h0)) hc).mono fun e w' ⟨v', he, ho, hb⟩ => fin e w' v' _ rfl he ho hb

theorem value_nil (a : Option Addr) (cap : Nat) (x : Int) (w : World) :
    Calls Try.prog 33 #[.slice a 0 cap, .agg #[.int .i64 x, .bool false]] w fun e w' => e = .returned (.agg #[.int .i64 0, .bool false]) ∧ Below w.heap.size w w' := by
  have hb0 : ∀ o, Below w.heap.size w (w.alloc o) := fun o => (Below.refl _ _).alloc (Nat.le_refl _) o
  go_enter Try.func33, Try.ntmps33
  go_wp2
  refine wp_loop_rounds 1 ?_
  rw [rounds_succ]
  go_wp2
  refine bodyPost_ret (v := .agg #[.int .i64 0, .bool false]) (by simp [results, Try.results33, go_sem]) rfl ⟨rfl, ?_⟩
  repeat (first | exact Below.refl _ _ | refine Below.setCell ?_ (by simp <;> omega) _ | refine Below.alloc ?_ (by simp <;> omega) _)

theorem polyValue {lo : Nat} (a : Option Addr) (n cap : Nat) (xs : List Int) (x : Int) (w : World) (hn : xs.length = n) (hw : wholeB xs = true) (hxl : Lim x)
    (ho : w.ownsRow lo 45 2 (.slice a n cap) n (flatO (xs.map some))) :
    Calls Try.prog 33 #[.slice a n cap, .agg #[.int .i64 x, .bool false]] w fun e w' => e = .returned (.agg #[.int .i64 (numO (valW xs x)), .bool (valW xs x).isNone]) ∧ Below w.heap.size w w' := by
  have hl := wholeB_lim hw
  by_cases h0 : n = 0
  · subst h0
    have e := List.length_eq_zero_iff.1 hn
    subst e
    exact value_nil a cap x w
  · have ho' := ho
    rcases ho.2 with ⟨hv, h1⟩ | ⟨g, cap', cur, hv, _⟩
    · exact absurd h1 h0
    · simp only [Value.slice.injEq] at hv
      obtain ⟨rfl, _, rfl⟩ := hv
      refine value_ne n g cap xs x w (by omega) hn (fun j hj => hl.2 j (by omega)) hxl (ho'.lt _ rfl).2 (fun j hj => ?_)
      obtain ⟨g1, g2⟩ := flatO_get (xs.map some) j (by rw [List.length_map]; omega)
      have e : (xs.map some).getD j none = some (xs.getD j 0) := by simp [List.getD, List.getElem?_eq_getElem (show j < xs.length by omega)]
      rw [e] at g1 g2
      exact ⟨(ho'.cellAt _ (by omega)).trans g1, (ho'.cellAt _ (by omega)).trans g2⟩

theorem implValue_bad (v : Value) (xs : List Int) (x : Int) (w : World) {lo hi : Nat} (hr : RdI lo hi w v xs) (hw : wholeB xs = false) :
    Calls Try.prog 19 #[v, .int .i64 x] w fun e w' => e = .returned (.tuple #[.int .i64 0, .int .i64 1]) ∧ Below w.heap.size w w' := by
  have HW := Lib.hid hw
  clear hw
  go_enter Try.func19, Try.ntmps19
  go_wp2_with fail
  refine (implIsWhole _ _ _ hr).mono ?_
  rw [HW.out]
  rintro e w1 ⟨rfl, q1⟩
  have hB := q1.below
  go_wp2
  go_ret2
  exact ⟨rfl, hB⟩

theorem implValue_far (v : Value) (xs : List Int) (x : Int) (w : World) {lo hi : Nat} (hr : RdI lo hi w v xs) (hw : wholeB xs = true) (hg : (decide (-1000 ≤ x) && decide (x ≤ 1000)) = false) :
    Calls Try.prog 19 #[v, .int .i64 x] w fun e w' => e = .returned (.tuple #[.int .i64 0, .int .i64 2]) ∧ Below w.heap.size w w' := by
  have HW := Lib.hid hw
  have HG := Lib.hid hg
  clear hw hg
  go_enter Try.func19, Try.ntmps19
  go_wp2_with fail
  refine (implIsWhole _ _ _ hr).mono ?_
  rw [HW.out]
  rintro e w1 ⟨rfl, q1⟩
  go_wp2_with fail
  refine (isWithin _ _ (by omega) (by omega) _).mono ?_
  rw [HG.out]
  rintro e w2 ⟨rfl, q2⟩
  have hB := (q1.trans q2).below
  go_wp2
  go_ret2
  exact ⟨rfl, hB⟩

theorem implValue_ok (v : Value) (xs : List Int) (x : Int) (w : World) {lo hi : Nat} (hr : RdI lo hi w v xs) (hw : wholeB xs = true) (hg : (decide (-1000 ≤ x) && decide (x ≤ 1000)) = true) :
    Calls Try.prog 19 #[v, .int .i64 x] w fun e w' => e = .returned (.tuple #[.int .i64 (valueOf xs x).1, .int .i64 (valueOf xs x).2]) ∧ Below w.heap.size w w' := by
  have HW := Lib.hid hw
  have HG := Lib.hid hg
  have hx : -1000 ≤ x ∧ x ≤ 1000 := by simpa using hg
  have hxl : Lim x := by unfold Lim; omega
  clear hw hg hx
  go_enter Try.func19, Try.ntmps19
  go_wp2_with fail
  refine (implIsWhole _ _ _ hr).mono ?_
  rw [HW.out]
  rintro e w1 ⟨rfl, q1⟩
  go_wp2_with fail
  refine (isWithin _ _ (by omega) (by omega) _).mono ?_
  rw [HG.out]
  rintro e w2 ⟨rfl, q2⟩
  have hB := (q1.trans q2).below
  go_wp2_with fail
  refine (wholesOf _ xs _ (hr.below hB)).mono ?_
  rintro e w3 ⟨a3, c3, rfl, o3, b3⟩
  have hB3 := hB.next b3
  clear hB b3 q1 q2
  go_wp2_with fail
  refine (polyValue a3 _ c3 xs x _ rfl HW.out hxl o3).mono ?_
  rintro e w4 ⟨rfl, b4⟩
  have hB4 := hB3.next b4
  clear hB3 b4 o3
  cases hv : valW xs x with
  | none =>
    have HV := Lib.hid hv
    clear hv
    go_wp2
    go_ret2
    exact ⟨by simp only [valueOf, HW.out, HG.out, HV.out]; rfl, hB4.alloc hB4.size _⟩
  | some r =>
    have HV := Lib.hid hv
    clear hv
    go_wp2
    go_ret2
    exact ⟨by simp only [valueOf, HW.out, HG.out, HV.out]; rfl, hB4.alloc hB4.size _⟩

theorem implValue {lo hi : Nat} (v : Value) (xs : List Int) (x : Int) (w : World) (hr : RdI lo hi w v xs) :
    Calls Try.prog 19 #[v, .int .i64 x] w fun e w' => e = .returned (.tuple #[.int .i64 (valueOf xs x).1, .int .i64 (valueOf xs x).2]) ∧ Below w.heap.size w w' := by
  cases hw : wholeB xs with
  | false =>
    have e : valueOf xs x = (0, 1) := by simp [valueOf, hw]
    rw [e]
    exact implValue_bad v xs x w hr hw
  | true =>
    cases hg : (decide (-1000 ≤ x) && decide (x ≤ 1000)) with
    | false =>
      have e : valueOf xs x = (0, 2) := by simp only [valueOf, hw, hg]; rfl
      rw [e]
      exact implValue_far v xs x w hr hw hg
    | true => exact implValue_ok v xs x w hr hw hg

theorem implValueL {lo hi : Nat} (a : Option Addr) (n c : Nat) (xs : List Int) (x : Int) (w : World) (hr : RdI lo hi w (.slice a n c) xs) (_hn : xs.length = n) :
    Calls Try.prog 19 #[.slice a n c, .int .i64 x] w fun e w' => e = .returned (.tuple #[.int .i64 (valueOf xs x).1, .int .i64 (valueOf xs x).2]) ∧ Below w.heap.size w w' :=
  implValue _ xs x w hr
theorem specValueL {lo hi : Nat} (a : Option Addr) (n c : Nat) (xs : List Int) (x : Int) (w : World) (hr : RdI lo hi w (.slice a n c) xs) (_hn : xs.length = n) :
    Calls Try.prog 18 #[.slice a n c, .int .i64 x] w fun e w' => e = .returned (.tuple #[.int .i64 (valueOf xs x).1, .int .i64 (valueOf xs x).2]) ∧ Below w.heap.size w w' :=
  (specValue _ xs x w hr).mono fun e w' ⟨he, hq⟩ => ⟨he, hq.below⟩

end Go.Proofs.Ytmccajkndjoooaa
