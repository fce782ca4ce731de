/- DoubleCover of the model and of the program. -/
import Derived.Test.YtnblhkhdilkbeaaCycLaw
import Derived.Deep.AppendLies
set_option linter.unusedSimpArgs false
set_option linter.unusedVariables false
set_option maxRecDepth 100000
namespace Go.Proofs.Ytnblhkhdilkbeaa
open Go.RowKit

def sgB (y : Int) : Bool := decide (y = 1) || decide (y = -1)
def signsB (n : Nat) (ys : List Int) : Bool := ys.all sgB && decide (ys.length = n)
def dblCode (s : Int) (xss : List (List Int)) (ys : List Int) : Int := if grB s xss then (if signsB xss.length ys then 0 else 2) else 1
def dl (y : Int) : Int := if y = 1 then 0 else 1
def dblList (ys : List Int) : List Int := ys.map dl
def dblOf (s : Int) (xss : List (List Int)) (ys : List Int) : (Int × List (List Int) × Int × List (List Int)) × Int :=
  if dblCode s xss ys = 0 then cycOf s xss 2 (dblList ys) else ((0, [], 0, []), dblCode s xss ys)
theorem dblList_len (ys : List Int) : (dblList ys).length = ys.length := by simp [dblList]
theorem dblList_get {ys : List Int} {k : Nat} (h : k < ys.length) : (dblList ys).getD k 0 = dl (ys.getD k 0) := by simp [dblList, List.getD, h]
theorem dl_bd (y : Int) : 0 ≤ dl y ∧ dl y ≤ 1 := by unfold dl; split <;> omega
theorem dblList_I64 (ys : List Int) : ∀ x ∈ dblList ys, I64 x := by
  intro x hx
  simp only [dblList, List.mem_map] at hx
  obtain ⟨y, _, rfl⟩ := hx
  have := dl_bd y
  unfold I64; omega
theorem sgB_iff {y : Int} (h : sgB y = true) : y = 1 ∨ y = -1 := by unfold sgB at h; simpa using h
theorem dl_quo {y : Int} (h : sgB y = true) : (1 - y) / 2 = dl y ∧ Int.tdiv (1 - y) 2 = dl y ∧ -1 ≤ y ∧ y ≤ 1 := by
  rcases sgB_iff h with rfl | rfl <;> decide
theorem dbl_ok {s : Int} {xss : List (List Int)} {ys : List Int} (h : dblCode s xss ys = 0) : grB s xss = true ∧ ys.length = xss.length ∧ (∀ j, j < ys.length → sgB (ys.getD j 0) = true) ∧ cycCode s xss 2 (dblList ys) = 0 := by
  unfold dblCode at h
  cases hg : grB s xss with
  | false => rw [hg] at h; simp at h
  | true =>
    rw [hg, if_pos rfl] at h
    cases hb : signsB xss.length ys with
    | false => rw [hb] at h; simp at h
    | true =>
      unfold signsB at hb
      simp only [Bool.and_eq_true, decide_eq_true_eq] at hb
      obtain ⟨h1, h2⟩ := hb
      refine ⟨rfl, h2, fun j hj => List.all_eq_true.1 h1 _ (getD_memI hj), ?_⟩
      rw [cyc_list hg]
      have : listB xss.length 1000 (dblList ys) = true := by
        unfold listB
        rw [dblList_len, h2, Bool.and_eq_true]
        refine ⟨List.all_eq_true.2 fun x hx => ?_, by simp⟩
        simp only [dblList, List.mem_map] at hx
        obtain ⟨y, _, rfl⟩ := hx
        have := dl_bd y
        unfold wM
        simp; omega
      rw [this]; rfl
theorem dblOf_ok {s : Int} {xss : List (List Int)} {ys : List Int} (h : dblCode s xss ys = 0) : dblOf s xss ys = cycOf s xss 2 (dblList ys) := by unfold dblOf; rw [if_pos h]
theorem dblOf_no {s : Int} {xss : List (List Int)} {ys : List Int} (h : dblCode s xss ys ≠ 0) : dblOf s xss ys = ((0, [], 0, []), dblCode s xss ys) := by unfold dblOf; rw [if_neg h]
theorem dblOf_lens1 (s : Int) (xss : List (List Int)) (ys : List Int) : lens (dblOf s xss ys).1.2.1 ≤ 1000 := by
  by_cases hc : dblCode s xss ys = 0
  · rw [dblOf_ok hc]; exact cycOf_lens1 _ _ _ _
  · rw [dblOf_no hc]; simp [lens]
theorem dblOf_lens2 (s : Int) (xss : List (List Int)) (ys : List Int) : lens (dblOf s xss ys).1.2.2.2 ≤ 1000 := by
  by_cases hc : dblCode s xss ys = 0
  · rw [dblOf_ok hc]; exact cycOf_lens2 _ _ _ _
  · rw [dblOf_no hc]; simp [lens]

set_option maxHeartbeats 1600000 in
theorem isSigns {lo hi : Nat} (s : Int) (a : Option Addr) (n c : Nat) (a2 : Option Addr) (n2 c2 : Nat) (ys : List Int) (w : World) (h2 : RdI lo hi w (.slice a2 n2 c2) ys) (hn2 : ys.length = n2) (hn : n ≤ 10) :
    Calls Try.prog 51 #[.agg #[.int .i64 s, .slice a n c], .slice a2 n2 c2] w fun e w' => e = .returned (.bool (signsB n ys)) ∧ Below w.heap.size w w' := by
  have hb0 : ∀ o, Below w.heap.size w (w.alloc o) := fun o => (Below.refl _ _).alloc (Nat.le_refl _) o
  have HN2 := Lib.hid hn2
  have HCells := Lib.hid (h2.cellsC hn2)
  have hlen2 := h2.1
  rw [hn2] at hlen2
  clear hn2 h2
  by_cases hl : n2 = n
  case neg =>
    have hne : ((n2 : Int) != (n : Int)) = true := by simp; omega
    have HB := Lib.hid (show signsB n ys = false by unfold signsB; rw [HN2.out]; simp [hl])
    go_enter Try.func51, Try.ntmps51
    go_wp2
    go_ret
    exact ⟨by rw [HB.out]; rfl, hb0 _⟩
  have hne : ((n2 : Int) != (n : Int)) = false := by simp; omega
  have HL := Lib.hid hl
  have hn2b : n2 ≤ 10 := by omega
  clear hl
  go_enter Try.func51, Try.ntmps51
  go_wp2
  go_loopw [6, 15] (fun _ i wr => ∃ k : Nat, k ≤ n2 ∧ i = .int .i64 k ∧ Below w.heap.size w wr ∧ (ys.take k).all sgB = true) (fun _ i _ => n2 - (intOf i).toNat)
  case atStart => exact ⟨0, Nat.zero_le _, rfl, hb0 _, rfl⟩
  case round =>
    obtain ⟨k, hk, rfl, hB, hall⟩ := hrel
    have HA := Lib.hid hall
    clear hall
    by_cases hlt : k < n2
    · obtain ⟨b, off, rfl, g1⟩ := HCells.out k hlt
      replace g1 := hB.keep g1
      have hlt' : k < ys.length := by rw [HN2.out]; exact hlt
      have HY := Lib.hid (fun e => all_takeI hlt' HA.out e : sgB (ys.getD k 0) = true → _)
      have HZ := Lib.hid (fun e => all_notI hlt' e : sgB (ys.getD k 0) = false → _)
      generalize ys.getD k 0 = y at *
      by_cases h1 : y = 1
      · subst h1
        go_wp2
        go_roundw
        case rel => exact ⟨k+1, by omega, by go_num, hB, HY.out (by decide)⟩
        case measure => simp [intOf]; omega
      · have hy1 : (y != 1) = true := by simpa using h1
        by_cases h2 : y = -1
        · subst h2
          go_wp2
          go_roundw
          case rel => exact ⟨k+1, by omega, by go_num, hB, HY.out (by decide)⟩
          case measure => simp [intOf]; omega
        · have hy2 : (y != -1) = true := by simpa using h2
          have HW := Lib.hid (show sgB y = false by unfold sgB; simp [h1, h2])
          clear h1 h2
          go_wp2
          go_ret
          exact ⟨by rw [show signsB n ys = false by unfold signsB; rw [HZ.out HW.out]; rfl]; rfl, hB⟩
    · obtain rfl : k = n2 := by omega
      have e := HA.out
      rw [List.take_of_length_le (by rw [HN2.out]; exact Nat.le_refl _)] at e
      have HF := Lib.hid (show signsB n ys = true by unfold signsB; rw [e, HN2.out, HL.out]; simp)
      clear e
      go_wp2
      go_ret
      exact ⟨by rw [HF.out]; rfl, hB⟩

def nz (y : Int) : Bool := !(y == 0)
theorem signs_list (n : Nat) (ys : List Int) : signsB n ys = (listB n 1 ys && ys.all nz) := by
  have h : ∀ y, sgB y = (wM 1 y && nz y) := by
    intro y
    unfold sgB wM nz
    rw [Bool.eq_iff_iff]
    simp
    omega
  unfold signsB listB
  rw [Bool.eq_iff_iff]
  simp only [Bool.and_eq_true, List.all_eq_true, h]
  constructor
  · rintro ⟨h1, h2⟩
    exact ⟨⟨fun x hx => (h1 x hx).1, h2⟩, fun x hx => (h1 x hx).2⟩
  · rintro ⟨⟨h1, h2⟩, h3⟩
    exact ⟨fun x hx => ⟨h1 x hx, h3 x hx⟩, h2⟩

set_option maxHeartbeats 1600000 in
theorem l04Signs {lo hi lo' hi' : Nat} (s : Int) (a : Option Addr) (n c : Nat) (xss : List (List Int)) (a2 : Option Addr) (n2 c2 : Nat) (ys : List Int) (w : World) (h : RdR lo hi w (.slice a n c) xss) (hn : xss.length = n) (h2 : RdI lo' hi' w (.slice a2 n2 c2) ys) (hn2 : ys.length = n2) :
    Calls Try.prog 48 #[.agg #[.int .i64 s, .slice a n c], .slice a2 n2 c2] w fun e w' => e = .returned (.int .i64 (dblCode s xss ys)) ∧ Below w.heap.size w w' := by
  have hb0 : ∀ o, Below w.heap.size w (w.alloc o) := fun o => (Below.refl _ _).alloc (Nat.le_refl _) o
  have HN := Lib.hid hn
  have HN2 := Lib.hid hn2
  have HR := Lib.hid h
  have HR2 := Lib.hid h2
  have HCells := Lib.hid (h2.cellsC hn2)
  have hlen2 := h2.1
  rw [hn2] at hlen2
  obtain ⟨cd, hcd⟩ : ∃ cd, cd = dblCode s xss ys := ⟨_, rfl⟩
  rw [← hcd]
  unfold dblCode at hcd
  clear h hn h2 hn2
  go_enter Try.func48, Try.ntmps48
  go_wp2_with fail
  refine calls_gen (fun W => Below w.heap.size w W ∧ W.cell? ⟨w.heap.size, 0, none⟩ = some (.int .i64 s) ∧ W.cell? ⟨w.heap.size, 1, none⟩ = some (.slice a n c)) ⟨hb0 _, by go_simp, by go_simp⟩ ?_
  rintro W ⟨hB, k0, k1⟩
  refine (l01Is s a n c xss W (HR.out.below hB) HN.out).mono ?_
  rintro e w1 ⟨rfl, b1⟩
  replace k0 := b1.keep k0
  replace k1 := b1.keep k1
  replace hB := hB.next b1
  clear b1
  cases hg : grB s xss with
  | false =>
    rw [hg, if_neg (by simp)] at hcd
    subst hcd
    go_wp2
    go_ret
    exact ⟨rfl, hB⟩
  | true =>
    rw [hg, if_pos rfl, HN.out, signs_list] at hcd
    have hn10 : n ≤ 10 := by have := grB_iff hg; have := HN.out; omega
    have HCD := Lib.hid hcd
    clear hg hcd
    go_wp2_with fail
    refine (l04List s a n c a2 n2 c2 ys 1 _ (HR2.out.below hB) HN2.out (by omega) (by omega) hn10).mono ?_
    rintro e w2 ⟨rfl, b2⟩
    replace hB := hB.next b2
    clear b2
    cases hs : listB n 1 ys with
    | false =>
      have hcd := HCD.out
      rw [hs, Bool.false_and, if_neg (by simp)] at hcd
      subst hcd
      go_wp2
      go_ret
      exact ⟨rfl, hB⟩
    | true =>
      have HC2 : Hid (cd = if ys.all nz then 0 else 2) := Lib.hid (by have hcd := HCD.out; rw [hs, Bool.true_and] at hcd; exact hcd)
      clear hs HCD
      go_wp2
      go_loopw [5] (fun i wr => ∃ k : Nat, k ≤ n2 ∧ i = .int .i64 k ∧ Below w.heap.size w wr ∧ (ys.take k).all nz = true) (fun i _ => n2 - (intOf i).toNat)
      case atStart => exact ⟨0, Nat.zero_le _, rfl, hB, rfl⟩
      case round =>
        clear hB
        obtain ⟨k, hk, rfl, hB, hall⟩ := hrel
        have HA := Lib.hid hall
        clear hall
        by_cases hlt : k < n2
        · obtain ⟨b, off, rfl, g1⟩ := HCells.out k hlt
          replace g1 := hB.keep g1
          have hlt' : k < ys.length := by rw [HN2.out]; exact hlt
          have HY := Lib.hid (fun e => all_takeI hlt' HA.out e : nz (ys.getD k 0) = true → _)
          have HZ := Lib.hid (fun e => all_notI hlt' e : nz (ys.getD k 0) = false → _)
          generalize ys.getD k 0 = y at *
          by_cases h1 : y = 0
          · subst h1
            have HC3 := Lib.hid (show cd = 2 by rw [HC2.out, HZ.out (by decide)]; rfl)
            go_wp2
            go_ret
            exact ⟨by rw [HC3.out]; rfl, hB⟩
          · have hy1 : (y == 0) = false := by simpa using h1
            have HW := Lib.hid (show nz y = true by unfold nz; rw [hy1]; rfl)
            go_wp2
            go_roundw
            case rel => exact ⟨k+1, by omega, by go_num, hB, HY.out HW.out⟩
            case measure => simp [intOf]; omega
        · obtain rfl : k = n2 := by omega
          have e := HA.out
          rw [List.take_of_length_le (by rw [HN2.out]; exact Nat.le_refl _)] at e
          have HC3 := Lib.hid (show cd = 0 by rw [HC2.out, e]; rfl)
          clear e
          go_wp2
          go_ret
          exact ⟨by rw [HC3.out]; rfl, hB⟩

end Go.Proofs.Ytnblhkhdilkbeaa
