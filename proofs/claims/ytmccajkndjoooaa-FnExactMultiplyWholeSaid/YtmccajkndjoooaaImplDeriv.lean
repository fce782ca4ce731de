/- DerivativeOfWhole of the program. -/
import Derived.Test.YtmccajkndjoooaaSpecDeriv2
import Derived.Test.YtmccajkndjoooaaImplValue
set_option linter.unusedSimpArgs false
set_option linter.unusedVariables false
namespace Go.Proofs.Ytmccajkndjoooaa
open Go.RowKit

def derO (xs : List Int) (k : Nat) : List (Option Int) := (List.range k).map (fun i : Nat => timesO (some (xs.getD (i + 1) 0)) (some ((i : Int) + 1)))
theorem derO_succ (xs : List Int) (k : Nat) : derO xs (k+1) = derO xs k ++ [timesO (some (xs.getD (k + 1) 0)) (some ((k : Int) + 1))] := by simp [derO, List.range_succ]
theorem derO_len (xs : List Int) (k : Nat) : (derO xs k).length = k := by simp [derO]
theorem news_two (w : World) (t : TypeId) (x y : Value) : ∀ (j : Nat) (u : Value), [x, y][j]? = some u → (w.alloc (.cells #[x, y] t)).cell? (({ block := w.heap.size, off := 0 } : Addr).add j) = some u := by
  intro j u hj
  match j, hj with
  | 0, hj => simp at hj; subst hj; simp [Addr.add]
  | 1, hj => simp at hj; subst hj; simp [Addr.add]

theorem wholesOfP {lo hi : Nat} (v : Value) (xs : List Int) (w : World) (h : RdI lo hi w v xs) (h0 : 0 < xs.length) :
    Calls Try.prog 28 #[v] w fun e w' => ∃ g c, e = .returned (.slice (some ⟨g, 0, none⟩) xs.length c) ∧ g < w'.heap.size ∧
      (∀ j, j < xs.length → w'.cell? ⟨g, j * 2, none⟩ = some (.int .i64 (xs.getD j 0)) ∧ w'.cell? ⟨g, j * 2 + 1, none⟩ = some (.bool false)) ∧ Below w.heap.size w w' := by
  refine (wholesOf v xs w h).mono fun e w' ⟨a, c, he, ho, hb⟩ => ?_
  have ho' := ho
  rcases ho.2 with ⟨hv, h1⟩ | ⟨g, cap, cur, hv, _⟩
  · omega
  · simp only [Value.slice.injEq] at hv
    obtain ⟨rfl, _, rfl⟩ := hv
    refine ⟨g, c, he, (ho'.lt _ rfl).2, fun j hj => ?_, hb⟩
    obtain ⟨g1, g2⟩ := flatO_get (xs.map some) j (by rw [List.length_map]; exact hj)
    have e : (xs.map some).getD j none = some (xs.getD j 0) := by simp [List.getD, List.getElem?_eq_getElem hj]
    rw [e] at g1 g2
    exact ⟨(ho'.cellAt _ (by omega)).trans g1, (ho'.cellAt _ (by omega)).trans g2⟩

theorem numbersOf_nil (w : World) :
    Calls Try.prog 27 #[.slice none 0 0] w fun e w' => ∃ a c, e = .returned (.tuple #[.slice a 0 c, .int .i64 0]) ∧ OwI w.heap.size w'.heap.size w' (.slice a 0 c) [] ∧ Below w.heap.size w w' := by
  obtain ⟨i0, hi', z0, z1, z2⟩ := info_parts Try.info2
  go_enter Try.func27, Try.ntmps27
  go_wp2_with (at_make; refine wpList_make_full _ rfl _ _ 22 rfl w.heap.size 2 i0 (.int .i64 0) 1 Try.underlying22 hi' z0 z1 _ _ _ _ 0 rfl rfl rfl rfl ?c1 ?c2 ?c3 ?_)
  case c1 => omega
  case c2 => unfold maxLen; omega
  case c3 => exact Nat.le_refl _
  intro w1 hown hgr
  have hbl : Below w.heap.size w w1 := (Below.refl _ _).grown hgr (Nat.le_refl _) (by simp)
  have e0 : (madeCells #[Value.int .i64 0] 0).toList = (([] : List Int).map (Value.int .i64)) := by rw [toList_madeCells_one]; rfl
  rw [e0] at hown
  have ho : OwI w.heap.size w1.heap.size w1 _ [] := .mk hown (by omega) (by simp)
  clear hgr hown
  go_wp2
  refine wp_loop_rounds 1 ?_
  rw [rounds_succ]
  go_wp2_with fail
  refine (wz_nil _ _ _).mono ?_
  rintro e w2 ⟨rfl, hq⟩
  have hB := hbl.qt hq
  have h2 : OwI w.heap.size w2.heap.size w2 (Value.slice (some { block := w.heap.size, off := 0 }) 0 0) [] := by have := ho.qt hq; obtain ⟨p1, p2, p3, p4⟩ := this; exact ⟨p1, p2, p3, fun k hk => (p3.lt k hk).2⟩
  clear ho
  go_wp2
  go_ret2
  exact ⟨_, _, rfl, h2, hB⟩

/-- numbersOf of a list that the call owns -/
theorem numbersOfO {lo n : Nat} (v : Value) (os : List (Option Int)) (w : World) (ho : w.ownsRow lo 45 2 v n (flatO os)) (hl : ∀ j, j < os.length → OLim (os.getD j none)) (hn : n ≤ 1000000) (hI : ∀ x ∈ (numsOf os).1, I64 x) (hx : os.length = n) :
    Calls Try.prog 27 #[v] w fun e w' => ∃ a c, e = .returned (.tuple #[.slice a (numsOf os).1.length c, .int .i64 (numsOf os).2]) ∧ OwI w.heap.size w'.heap.size w' (.slice a (numsOf os).1.length c) (numsOf os).1 ∧ Below w.heap.size w w' := by
  have ho' := ho
  have hlen : (numsOf os).1.length ≤ 40 := by
    unfold numsOf
    split
    · simp
    · split
      · simp
      · show (trim (os.map numO)).length ≤ 40
        omega
  rcases ho.2 with ⟨rfl, h1⟩ | ⟨g, cap, cur, rfl, _⟩
  · have e := List.length_eq_zero_iff.1 (hx.trans h1)
    subst e
    exact numbersOf_nil w
  · exact (numbersOf_ne n g cap os w hx hn (ho'.lt _ rfl).2 (fun j hj => hl j (by omega)) (fun j hj => by
      obtain ⟨g1, g2⟩ := flatO_get os j (by omega)
      exact ⟨(ho'.cellAt _ (by omega)).trans g1, (ho'.cellAt _ (by omega)).trans g2⟩)).mono fun e w' ⟨a, c, he, hr, hb⟩ => ⟨a, c, he, .mk hr (by omega) hI, hb⟩

set_option maxHeartbeats 1600000 in
theorem implDeriv_ne {lo hi : Nat} (n : Nat) (v : Value) (xs : List Int) (w : World) (hx : xs.length = n) (h0 : 0 < n) (hr : RdI lo hi w v xs) (hw : wholeB xs = true) (hI : ∀ x ∈ (numsOf (derO xs (n - 1))).1, I64 x) :
    Calls Try.prog 21 #[v] w fun e w' => ∃ a c, e = .returned (.tuple #[.slice a (numsOf (derO xs (n - 1))).1.length c, .int .i64 (numsOf (derO xs (n - 1))).2]) ∧ OwI w.heap.size w'.heap.size w' (.slice a (numsOf (derO xs (n - 1))).1.length c) (numsOf (derO xs (n - 1))).1 ∧ Below w.heap.size w w' := by
  obtain ⟨i0, hi', z0, z1, z2⟩ := info_parts Try.info45
  have hn := (wholeB_lim hw).1
  rw [hx] at hn
  have HX := Lib.hid hx
  have HW := Lib.hid hw
  have HI := Lib.hid hI
  clear hx hw hI
  go_enter Try.func21, Try.ntmps21
  go_wp2_with fail
  refine (implIsWhole _ _ _ hr).mono ?_
  rw [HW.out]
  rintro e w1 ⟨rfl, hq⟩
  have hB1 := hq.below
  go_wp2_with fail
  refine (wholesOfP _ xs _ (hr.below hB1) (by rw [HX.out]; exact h0)).mono ?_
  rw [HX.out]
  rintro e w2 ⟨g, c2, rfl, hg, hcells, b2⟩
  have hB2 := hB1.next b2
  have HC := Lib.hid hcells
  clear hcells b2 hB1 hq hr
  go_wp2
  go_loopw [13, 4, 5, 6] (fun i v _ _ wr => ∃ k : Nat, k ≤ n ∧ i = .int .i64 k ∧ wr.ownsRow w2.heap.size 45 2 v (k - 1) (flatO (derO xs (k - 1))) ∧ Below w2.heap.size w2 wr) (fun i _ _ _ _ => n - (intOf i).toNat)
  case atStart => exact ⟨0, Nat.zero_le _, rfl, World.ownsRow_nil _ _ _ _, Below.refl _ _⟩
  case round =>
    obtain ⟨k, hk, rfl, hown, hB⟩ := hrel
    by_cases hlt : k < n
    · obtain ⟨h1, h2⟩ := HC.out k hlt
      replace h1 := hB.keep h1
      replace h2 := hB.keep h2
      have hl := (wholeB_lim HW.out).2 k (by rw [HX.out]; exact hlt)
      by_cases hk0 : k = 0
      · subst hk0
        have hown' := Lib.hid hown
        clear hown
        generalize hx0 : xs.getD 0 0 = x0 at *
        clear hx0
        go_wp2
        go_roundw
        case rel => exact ⟨1, by omega, by go_num, hown'.out.alloc _, hB.alloc hB.size _⟩
        case measure => simp [intOf]; omega
      · obtain ⟨j, rfl⟩ : ∃ j, k = j + 1 := ⟨k - 1, by omega⟩
        have es := derO_succ xs j
        simp only [Nat.add_sub_cancel] at hown
        generalize hx0 : xs.getD (j+1) 0 = x0 at *
        have ES := Lib.hid es
        have hown1 := hown.alloc (.cells #[.int .i64 x0, .bool false] 45)
        have hBx := hB.alloc hB.size (.cells #[.int .i64 x0, .bool false] 45)
        clear es hx0 hown
        go_wp2_with fail
        refine calls_gen (fun W => W.ownsRow w2.heap.size 45 2 _ j (flatO (derO xs j)) ∧ Below w2.heap.size w2 W) ⟨hown1, hBx⟩ ?_
        clear hown1 hBx hB
        rintro W ⟨hown, hB⟩
        refine (wtimesA (some x0) (some ((j : Int) + 1)) (OLim.some hl) (OLim.some (by unfold Lim; omega)) _).mono ?_
        rintro e w3 ⟨rfl, b3⟩
        have hB3 := hB.next b3
        have hown3 := ownsRow_chg hown (b3.chg 0 0) (fun _ _ => .inr (Nat.zero_le _))
        clear hown b3 hB
        generalize hR : timesO (some x0) (some ((j : Int) + 1)) = R at *
        have HR := Lib.hid hR
        clear hR
        go_wp2_with (at_builtin; refine wpList_append_own _ rfl _ _ 41 rfl w2.heap.size 45 i0 (.agg #[.int .i64 0, .bool false]) 2 16 Try.underlying41 hi' z0 z1 z2 rfl (by decide) _ _ _ rfl (hown3.alloc _) ⟨w3.heap.size, 0, none⟩ 1 1 [.int .i64 (numO R), .bool R.isNone] rfl rfl ?c1 ?c2 ?c3 ?c4 ?c5 ?_)
        case c1 => exact news_two _ _ _ _
        case c2 => intro u hu; simp at hu; rcases hu with rfl | rfl <;> rfl
        case c3 => unfold maxLen; omega
        case c4 => omega
        case c5 => have := hB3.size; simp; omega
        intro v4 w4 hown4 hgr _
        obtain ⟨hB4, hz4, _, _⟩ := grown_own hB3 hown3 (Nat.le_refl _) hgr
        rw [← flatO_snoc, ← ES.out] at hown4
        clear hgr hown3
        go_wp2
        go_roundw
        case rel => exact ⟨j+1+1, by omega, by go_num, hown4, hB4⟩
        case measure => simp [intOf]; omega
    · obtain rfl : k = n := by omega
      have hBB := hB2.next hB
      have hlim : ∀ i, i < (derO xs (k - 1)).length → OLim ((derO xs (k - 1)).getD i none) := fun i hi => by
        rw [derO_len] at hi
        have : (derO xs (k - 1)).getD i none = timesO (some (xs.getD (i + 1) 0)) (some ((i : Int) + 1)) := by simp [derO, List.getD, hi]
        rw [this]; exact timesO_lim _ _
      go_wp2_with fail
      refine (numbersOfO _ (derO xs (k - 1)) _ hown hlim (by omega) HI.out (derO_len _ _)).mono ?_
      rintro e w5 ⟨a5, c5, rfl, o5, b5⟩
      have hB5 := hBB.next b5
      have o6 := o5.lower hBB.size
      clear o5 b5 hown hlim hBB
      go_wp2
      go_ret2
      exact ⟨a5, c5, rfl, o6, hB5⟩

end Go.Proofs.Ytmccajkndjoooaa
