/- Numbers of roots above and at a number, by the program. -/
import Derived.Test.YtkhfhdmhhkfehaaElim
set_option linter.unusedSimpArgs false
set_option linter.unusedVariables false
set_option maxRecDepth 100000
namespace Go.Proofs.Ytkhfhdmhhkfehaa
open Go.RowKit

set_option maxHeartbeats 1600000 in
theorem shiftedF (L cap : Nat) (a : Option Addr) (c : Int) (w : World) :
    Calls Try.prog 97 #[.slice a L cap, .int .i64 c] w fun e w' => e = .returned (.func (Fn.func 109) #[] #[.pointer (some ⟨w.heap.size, 0, none⟩), .pointer (some ⟨w.heap.size + 1, 0, none⟩)]) ∧ w'.cell? ⟨w.heap.size, 0, none⟩ = some (.slice a L cap) ∧ w'.cell? ⟨w.heap.size + 1, 0, none⟩ = some (.int .i64 c) ∧ w'.frozen? ⟨w.heap.size, 0, none⟩ = false ∧ Below w.heap.size w w' := by
  have hb0 : ∀ o o', Below w.heap.size w ((w.alloc o).alloc o') := fun o o' => ((Below.refl _ _).alloc (Nat.le_refl _) o).alloc (by simp) o'
  go_enter Try.func97, Try.ntmps97
  go_wp2
  go_ret
  refine ⟨by simp, by go_simp, by go_simp, by go_simp, hb0 _ _⟩

set_option maxHeartbeats 1600000 in
theorem rootsAbove {lo hi : Nat} (L cap : Nat) (a : Option Addr) (xs : List Int) (c : Int) (w : World) (h : RdI lo hi w (.slice a L cap) xs) (hl : xs.length = L) (hL : L ≤ 100) :
    Calls Try.prog 72 #[.slice a L cap, .int .i64 c] w fun e w' => e = .returned (.int .i64 (chK (rk xs c L) L).1) ∧ Below w.heap.size w w' := by
  have HR := Lib.hid h
  have HC := Lib.hid (fun (W : World) (h1 : W.cell? ⟨w.heap.size, 0, none⟩ = some (.slice a L cap)) (h2 : W.cell? ⟨w.heap.size + 1, 0, none⟩ = some (.int .i64 c)) (h3 : W.frozen? ⟨w.heap.size, 0, none⟩ = false) (hB : Below w.heap.size w W) => changesOf w.heap.size (w.heap.size + 1) L cap a xs c W h1 h2 h3 (by omega) (h.below hB) hl hL)
  clear h hl
  go_enter Try.func72, Try.ntmps72
  go_wp2_with fail
  refine (shiftedF L cap a c w).mono ?_
  rintro e w1 ⟨rfl, k1, k2, k3, b1⟩
  have HC1 := Lib.hid (HC.out w1 k1 k2 k3 b1)
  have HB := Lib.hid b1
  clear HC k1 k2 k3 b1
  go_wp2_with fail
  refine HC1.out.mono ?_
  rintro e w2 ⟨rfl, g2⟩
  have HF := Lib.hid (HB.out.chgn g2 (Nat.le_refl _) HB.out.size)
  clear g2 HC1
  go_wp2
  go_ret
  exact ⟨rfl, HF.out⟩

set_option maxHeartbeats 1600000 in
theorem rootsAt {lo hi : Nat} (L cap m : Nat) (a : Option Addr) (xs : List Int) (c : Int) (w : World) (h : RdI lo hi w (.slice a L cap) xs) (hl : xs.length = L) (hL : L ≤ 100) (hm : m < L) (hz : ∀ k, k < m → rk xs c L k = 0) (hn : ¬ rk xs c L m = 0) :
    Calls Try.prog 73 #[.slice a L cap, .int .i64 c] w fun e w' => e = .returned (.int .i64 (m : Int)) ∧ Below w.heap.size w w' := by
  have HC := Lib.hid (elimin L cap m a xs c w h hl hL hm hz hn)
  clear h hl hz hn
  go_enter Try.func73, Try.ntmps73
  go_wp2_with fail
  refine HC.out.mono ?_
  rintro e w1 ⟨a1, c1, rfl, o1, b1⟩
  have HF := Lib.hid b1
  clear o1 b1 HC
  go_wp2
  go_ret
  exact ⟨rfl, HF.out⟩

end Go.Proofs.Ytkhfhdmhhkfehaa
