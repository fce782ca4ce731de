/- The program's products of polynomials. -/
import Derived.Test.YtebgbplhcaocoaaMulPure
import Derived.Test.YtebgbplhcaocoaaImplAdd
import Derived.Deep.RegionHeld3
set_option linter.unusedSimpArgs false
set_option linter.unusedVariables false
set_option maxRecDepth 100000
namespace Go.Proofs.Ytebgbplhcaocoaa
open Go.RowKit

set_option maxHeartbeats 8000000 in
theorem times_ne (n m g1 g2 c1 c2 N : Nat) (f h : List Int) (w : World) (hn : f.length = n) (hm : h.length = m) (h0 : 0 < n) (h0' : 0 < m) (hn1 : n ≤ 40) (hm1 : m ≤ 40) (hN : N = n + m - 1)
    (hlf : ∀ j, j < n → Lim (f.getD j 0)) (hlh : ∀ j, j < m → Lim (h.getD j 0)) (hg1 : g1 < w.heap.size) (hg2 : g2 < w.heap.size)
    (hc : ∀ j, j < n → w.cell? ⟨g1, j * 2, none⟩ = some (.int .i64 (f.getD j 0)) ∧ w.cell? ⟨g1, j * 2 + 1, none⟩ = some (.bool false))
    (hc' : ∀ j, j < m → w.cell? ⟨g2, j * 2, none⟩ = some (.int .i64 (h.getD j 0)) ∧ w.cell? ⟨g2, j * 2 + 1, none⟩ = some (.bool false)) :
    Calls Try.prog 222 #[.slice (some ⟨g1, 0, none⟩) n c1, .slice (some ⟨g2, 0, none⟩) m c2] w fun e w' => ∃ v, e = .returned v ∧ w'.ownsRow w.heap.size 73 2 v N (flatO (sumsO f h)) ∧ Below w.heap.size w w' := by
  obtain ⟨i0, hi', z0, z1, z2⟩ := info_parts Try.info73
  have hpl : (prodT f h 0 0) = List.replicate N (some 0) := by rw [prodT_zero, hn, hm, hN]
  have HPN := Lib.hid (show ∀ i j, (prodT f h i j).length = N from fun i j => by rw [prodT_len, hn, hm, hN])
  have HAT := Lib.hid (show ∀ i j, i < n → j < m → _ from fun i j hi hj => prodT_at f h i j (by omega) (by omega) none)
  have HST := Lib.hid (show ∀ i j, i < n → j < m → _ from fun i j hi hj => prodT_step f h i j (by omega) (by omega))
  have HNX := Lib.hid (show ∀ i, prodT f h i m = prodT f h (i+1) 0 from fun i => by rw [← hm]; exact prodT_next f h i)
  have HAL := Lib.hid (show prodT f h n 0 = sumsO f h by rw [← hn]; exact prodT_all f h)
  have HC := Lib.hid hc
  have HC' := Lib.hid hc'
  have HLF := Lib.hid hlf
  have HLH := Lib.hid hlh
  have HPL := Lib.hid hpl
  have hNI : (n : Int) + (m : Int) - 1 = (N : Int) := by omega
  have hNN : n + m - 1 = N := hN.symm
  have hwr : IntKind.i64.wrap ((n : Int) + (m : Int)) = (n : Int) + (m : Int) := IntWalk.i64_in _ (by omega)
  have hwr2 : IntKind.i64.wrap ((N : Int)) = (N : Int) := IntWalk.i64_in _ (by omega)
  have hnz : ¬ (n : Int) = 0 := by omega
  have hmz : ¬ (m : Int) = 0 := by omega
  have hnz2 : ((n : Int) == 0) = false := by simpa using hnz
  have hmz2 : ((m : Int) == 0) = false := by simpa using hmz
  clear hn hm hc hc' hlf hlh hpl hN
  go_enter Try.func222, Try.ntmps222
  go_wp2_with (at_make; refine wpList_make_full _ rfl _ _ 68 rfl w.heap.size 73 i0 (.agg #[.int .i64 0, .bool false]) 2 Try.underlying68 hi' z0 z1 _ _ _ _ N rfl rfl rfl rfl ?c1 ?c2 ?c3 ?_)
  case c1 => rw [z2]; omega
  case c2 => unfold maxLen; omega
  case c3 => exact Nat.le_refl _
  intro w1 hown hgr
  rw [made2b N, ← HPL.out] at hown
  have hbl : Below w.heap.size w w1 := (Below.refl _ _).grown hgr (Nat.le_refl _) (by simp)
  have hz : w.heap.size < w1.heap.size := (hown.lt _ rfl).2
  clear hgr
  go_wp2
  go_loopw [25] (fun i wr => ∃ k : Nat, k ≤ n ∧ i = .int .i64 k ∧ wr.ownsRow w.heap.size 73 2 (.slice (some ⟨w.heap.size, 0, none⟩) N N) N (flatO (prodT f h k 0)) ∧ Below w.heap.size w wr ∧ w.heap.size < wr.heap.size) (fun i _ => n - (intOf i).toNat)
  case atStart => exact ⟨0, Nat.zero_le _, rfl, hown, hbl, hz⟩
  case round =>
    clear hown hbl hz
    obtain ⟨k, hk, rfl, hown, hbl, hz⟩ := hrel
    by_cases hlt : k < n
    · go_wp2
      go_loopw [30] (fun i wr => ∃ j : Nat, j ≤ m ∧ i = .int .i64 j ∧ wr.ownsRow w.heap.size 73 2 (.slice (some ⟨w.heap.size, 0, none⟩) N N) N (flatO (prodT f h k j)) ∧ Below w.heap.size w wr ∧ w.heap.size < wr.heap.size) (fun i _ => m - (intOf i).toNat)
      case atStart => exact ⟨0, Nat.zero_le _, rfl, hown, hbl, hz⟩
      case round =>
        clear hown hbl hz
        obtain ⟨j, hj, rfl, hown, hbl, hz⟩ := hrel
        by_cases hlj : j < m
        · obtain ⟨h1, h2⟩ := HC.out k hlt
          obtain ⟨h3, h4⟩ := HC'.out j hlj
          replace h1 := (hbl.cell (p := ⟨g1, k * 2, none⟩) hg1).trans h1
          replace h2 := (hbl.cell (p := ⟨g1, k * 2 + 1, none⟩) hg1).trans h2
          replace h3 := (hbl.cell (p := ⟨g2, j * 2, none⟩) hg2).trans h3
          replace h4 := (hbl.cell (p := ⟨g2, j * 2 + 1, none⟩) hg2).trans h4
          have hlo : k + j < (prodT f h k j).length := by rw [HPN.out]; omega
          obtain ⟨q1, q2⟩ := flatO_get _ (k + j) hlo
          rw [HAT.out k j hlt hlj] at q1 q2
          have p1 := (hown.cellAt ((k + j) * 2) (by omega)).trans q1
          have p2 := (hown.cellAt ((k + j) * 2 + 1) (by omega)).trans q2
          have f1 := hown.frozenAt ((k + j) * 2)
          have f2 := hown.frozenAt ((k + j) * 2 + 1)
          have hla := HLF.out k hlt
          have hlb := HLH.out j hlj
          have hlc := accO_lim f h (k + j) k
          have hst := HST.out k j hlt hlj
          generalize f.getD k 0 = x at *
          generalize h.getD j 0 = y at *
          generalize accO f h (k + j) k = o at *
          have HOWN := Lib.hid hown
          have HS := Lib.hid hst
          have HLO := Lib.hid hlo
          have HB := Lib.hid hbl
          have hkj0 : (0 : Int) ≤ (k : Int) + (j : Int) := by omega
          have hkj1 : (k : Int) + (j : Int) < (N : Int) := by omega
          have hkj2 : ((k : Int) + (j : Int)).toNat = k + j := by omega
          have hkN : k + j < N := by omega
          have hwk : IntKind.i64.wrap ((k : Int) + (j : Int)) = (k : Int) + (j : Int) := IntWalk.i64_in _ (by omega)
          have hmt := m_times
          have hmp := m_plus
          clear hown hst hlo q1 q2 hbl
          go_wp2
          go_region_with (first
            | (go_at_call 129; refine (wtimesA (some x) (some y) (OLim.some hla) (OLim.some hlb) _).mono ?_; rintro e w4 ⟨rfl, b4⟩; have d1 := b4.keep p1; have d2 := b4.keep p2)
            | (go_at_call 130; refine (wplusA o (timesO (some x) (some y)) hlc (timesO_lim _ _) _).mono ?_; rintro e w5 ⟨rfl, b5⟩; have bb := (((Qt.refl wr).drew).below.next b4).next b5; have y1 := bb.keep p1; have y2 := bb.keep p2; have x1 := bb.keepf (show w.heap.size < wr.heap.size from hz) f1; have x2 := bb.keepf (show w.heap.size < wr.heap.size from hz) f2; clear d1 d2))
          all_goals
            clear hmt hmp
            have hown5 := ownsRow_chg HOWN.out (bb.chg 0 0) (fun _ _ => .inr (Nat.zero_le _))
            have hst2 := ((hown5.stored ((k + j) * 2) (.int .i64 (numO (plusO o (timesO (some x) (some y)))))).1.stored ((k + j) * 2 + 1) (.bool (plusO o (timesO (some x) (some y))).isNone)).1
            rw [flatO_set _ _ _ HLO.out, HS.out] at hst2
            have HS2 := Lib.hid hst2
            have hz5 : w.heap.size < w5.heap.size := Nat.lt_of_lt_of_le hz bb.size
            have hB5 := Lib.hid (HB.out.trans (bb.mono (Nat.le_of_lt hz)))
            clear hst2 hown5
            go_wp2
            go_roundw
            case rel => exact ⟨j+1, by omega, by go_num, HS2.out, (hB5.out.setCell (Nat.le_refl _) _).setCell (Nat.le_refl _) _, by simp [World.setCell]; exact hz5⟩
            case measure => simp [intOf]; omega
        · obtain rfl : j = m := by omega
          go_wp2
          go_roundw
          case rel => exact ⟨k+1, by omega, by go_num, by rw [← HNX.out]; exact hown, hbl, hz⟩
          case measure => simp [intOf]; omega
    · obtain rfl : k = n := by omega
      go_wp2
      go_ret
      rw [HAL.out] at hown
      exact ⟨_, rfl, hown, hbl⟩

end Go.Proofs.Ytebgbplhcaocoaa
