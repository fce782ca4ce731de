/- Sums on diagonals, by the program; EdgeMatrix's rows, by the program. -/
import Derived.Test.YtolipjemabmlkaaProd
import Derived.Test.YtolipjemabmlkaaCoreB
import Derived.Maps.RangeWalk
set_option linter.unusedSimpArgs false
set_option linter.unusedVariables false
namespace Go.Proofs.Ytolipjemabmlkaa
open Go.RowKit Go.Maps

set_option maxRecDepth 100000 in
set_option maxHeartbeats 1600000 in
theorem traceOf {lo hi : Nat} (aa : Option Addr) (n ca : Nat) (A : Nat → Nat → Int) (w : World) (hn : n ≤ 1000) (hA : RdR lo hi w (.slice aa n ca) (tab n A)) :
    Calls Try.prog 113 #[.slice aa n ca] w fun e w' => e = .returned (.int .i64 (trW A n)) ∧ Qt w w' := by
  have HA := Lib.hid hA
  clear hA
  go_enter Try.func113, Try.ntmps113
  go_wp2
  go_loopw [3, 7] (fun v i wr => ∃ q : Nat, q ≤ n ∧ i = .int .i64 q ∧ v = .int .i64 (trW A q) ∧ Qt w wr) (fun _ i _ => n - (intOf i).toNat)
  case atStart => exact ⟨0, Nat.zero_le _, rfl, rfl, Qt.refl _⟩
  case round =>
    obtain ⟨q, hq, rfl, rfl, hqt⟩ := hrel
    by_cases hlq : q < n
    · obtain ⟨ba, oa, bA, oA, cA, rfl, a1, a2⟩ := (HA.out.qt hqt).ent (i := q) (j := q) hlq hlq
      have hst : trW A (q+1) = wrap64 (trW A q + A q q) := rfl
      generalize A q q = x at a2 hst
      generalize trW A q = d at hst ⊢
      obtain ⟨s, hs⟩ : ∃ s, s = trW A (q+1) := ⟨_, rfl⟩
      rw [← hs] at hst
      have HS := Lib.hid hs
      clear hs
      have t2 : IntKind.i64.wrap (d + x) = s := by rw [IntWalk.i64_left, hst]
      have t4 : wrap64 (d + x) = s := hst.symm
      clear hst
      go_wp2
      go_roundw
      case rel => exact ⟨q+1, by omega, by go_num, by rw [← HS.out], hqt⟩
      case measure => simp [intOf]; omega
    · obtain rfl : q = n := by omega
      go_wp2
      go_ret
      exact ⟨rfl, hqt⟩

end Go.Proofs.Ytolipjemabmlkaa
