/- Cyclic covers by the model. -/
import Derived.Test.YtnblhkhdilkbeaaArr
import Derived.Test.YtnblhkhdilkbeaaCoreB
import Derived.Deep.AppendLies
set_option linter.unusedSimpArgs false
set_option linter.unusedVariables false
set_option maxRecDepth 100000
namespace Go.Proofs.Ytnblhkhdilkbeaa
open Go.RowKit

def wM (m y : Int) : Bool := decide (-m ≤ y) && decide (y ≤ m)
def listB (n : Nat) (m : Int) (ys : List Int) : Bool := ys.all (wM m) && decide (ys.length = n)

set_option maxHeartbeats 1600000 in
theorem l04List {lo hi : Nat} (s : Int) (a : Option Addr) (n c : Nat) (a2 : Option Addr) (n2 c2 : Nat) (ys : List Int) (m : Int) (w : World) (h2 : RdI lo hi w (.slice a2 n2 c2) ys) (hn2 : ys.length = n2) (h0 : 0 ≤ m) (h1 : m ≤ 1000) (hn : n ≤ 10) :
    Calls Try.prog 89 #[.agg #[.int .i64 s, .slice a n c], .slice a2 n2 c2, .int .i64 m] w fun e w' => e = .returned (.bool (listB n m ys)) ∧ Below w.heap.size w w' := by
  have hb0 : ∀ o, Below w.heap.size w (w.alloc o) := fun o => (Below.refl _ _).alloc (Nat.le_refl _) o
  have HN2 := Lib.hid hn2
  have HCells := Lib.hid (h2.cellsC hn2)
  have hlen2 := h2.1
  rw [hn2] at hlen2
  have hwr : IntKind.i64.wrap (-m) = -m := IntWalk.i64_in _ (by omega)
  clear hn2 h2
  go_enter Try.func89, Try.ntmps89
  go_wp2
  go_loopw [7] (fun i wr => ∃ k : Nat, k ≤ n2 ∧ i = .int .i64 k ∧ wr.cell? ⟨w.heap.size, 1, none⟩ = some (.slice a n c) ∧ Below w.heap.size w wr ∧ (ys.take k).all (wM m) = true) (fun i _ => n2 - (intOf i).toNat)
  case atStart => exact ⟨0, Nat.zero_le _, rfl, by go_simp, hb0 _, rfl⟩
  case round =>
    obtain ⟨k, hk, rfl, k1, hB, hall⟩ := hrel
    have HA := Lib.hid hall
    clear hall
    by_cases hlt : k < n2
    · obtain ⟨b, off, rfl, g1⟩ := HCells.out k hlt
      replace g1 := hB.keep g1
      have hlt' : k < ys.length := by rw [HN2.out]; exact hlt
      have HY := Lib.hid (fun e => all_takeI hlt' HA.out e : wM m (ys.getD k 0) = true → _)
      have HZ := Lib.hid (fun e => all_notI hlt' e : wM m (ys.getD k 0) = false → _)
      generalize ys.getD k 0 = y at *
      cases hw : wM m y with
      | true =>
        have HW := Lib.hid hw
        clear hw
        go_wp2_with (go_at_call 54; refine (l01In _ _ _ _).mono ?_; rintro e w3 ⟨rfl, q3⟩; rw [show (decide (-m ≤ y) && decide (y ≤ m)) = true from HW.out])
        go_roundw
        case rel => exact ⟨k+1, by omega, by go_num, q3.cell k1, hB.qt q3, HY.out HW.out⟩
        case measure => simp [intOf]; omega
      | false =>
        have HW := Lib.hid hw
        clear hw
        go_wp2_with (go_at_call 54; refine (l01In _ _ _ _).mono ?_; rintro e w3 ⟨rfl, q3⟩; rw [show (decide (-m ≤ y) && decide (y ≤ m)) = false from HW.out])
        go_ret
        exact ⟨by rw [show listB n m ys = false by unfold listB; rw [HZ.out HW.out]; rfl]; rfl, hB.qt q3⟩
    · obtain rfl : k = n2 := by omega
      have e := HA.out
      rw [List.take_of_length_le (by rw [HN2.out]; exact Nat.le_refl _)] at e
      have hfin : listB n m ys = ((k : Int) == (n : Int)) := by
        unfold listB; rw [e, HN2.out, Bool.true_and, Bool.eq_iff_iff]; simp; omega
      have HF := Lib.hid hfin
      clear hfin e
      go_wp2
      go_ret
      exact ⟨by rw [HF.out]; rfl, hB⟩

theorem Box4.put3 {w : World} {b : Nat} {v0 v1 v2 v3 : Value} (h : Box4 w b v0 v1 v2 v3) (u : Value) : Box4 (w.setCell ⟨b, 3, none⟩ u) b v0 v1 v2 u := by
  obtain ⟨lt, c0, c1, c2, c3, f0, f1, f2, f3⟩ := h
  refine ⟨by simpa [World.setCell] using lt, ?_, ?_, ?_, World.cell?_setCell_same _ _ _ c3, ?_, ?_, ?_, ?_⟩
  · rw [World.cell?_setCell_other _ _ _ _ (by simp)]; exact c0
  · rw [World.cell?_setCell_other _ _ _ _ (by simp)]; exact c1
  · rw [World.cell?_setCell_other _ _ _ _ (by simp)]; exact c2
  all_goals (rw [World.frozen?_setCell]; assumption)

def cycRows (sh : Int) (ys : List Int) : List (List Int) := ys.map (twB sh)
theorem cycRows_get {sh : Int} {ys : List Int} {k : Nat} (h : k < ys.length) : (cycRows sh ys).getD k [] = twB sh (ys.getD k 0) := by
  simp [cycRows, List.getD, h]
theorem cycRows_len (sh : Int) (ys : List Int) : (cycRows sh ys).length = ys.length := by simp [cycRows]
theorem cycRows_take {sh : Int} {ys : List Int} {k : Nat} (h : k < ys.length) : (cycRows sh ys).take (k+1) = (cycRows sh ys).take k ++ [twB sh (ys.getD k 0)] := by
  rw [take_snocR (by rw [cycRows_len]; exact h), cycRows_get h]

theorem getD_memI {ys : List Int} {k : Nat} (h : k < ys.length) : ys.getD k 0 ∈ ys := by
  simp only [List.getD, List.getElem?_eq_getElem h, Option.getD_some]; exact List.getElem_mem h

end Go.Proofs.Ytnblhkhdilkbeaa
