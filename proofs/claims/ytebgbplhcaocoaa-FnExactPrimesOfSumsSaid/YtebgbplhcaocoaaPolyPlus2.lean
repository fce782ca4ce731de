/- The program's sums of polynomials of bounded numbers. -/
import Derived.Test.YtebgbplhcaocoaaPolyPlus
set_option linter.unusedSimpArgs false
set_option linter.unusedVariables false
set_option maxRecDepth 100000
namespace Go.Proofs.Ytebgbplhcaocoaa
open Go.RowKit

def plusL (f g : List (Option Int)) : List (Option Int) := (List.range (max f.length g.length)).map (fun k : Nat => plusO (atO f k) (atO g k))
theorem plusL_len (f g : List (Option Int)) : (plusL f g).length = max f.length g.length := by simp [plusL]
theorem plusL_succ (f g : List (Option Int)) (k : Nat) (h : k < max f.length g.length) : (plusL f g).take (k+1) = (plusL f g).take k ++ [plusO (atO f k) (atO g k)] := by
  rw [List.take_add_one, List.getElem?_eq_getElem (by rw [plusL_len]; exact h)]
  simp [plusL]

set_option maxHeartbeats 3200000 in
theorem polyPlus (a a' : Option Addr) (n m cap cap' : Nat) (f g : List (Option Int)) (w : World) (hf : RdO w (.slice a n cap) f) (hg : RdO w (.slice a' m cap') g) (hn : f.length = n) (hm : g.length = m) (hn1 : n ≤ 1000) (hm1 : m ≤ 1000) :
    Calls Try.prog 221 #[.slice a n cap, .slice a' m cap'] w fun e w' => ∃ v, e = .returned v ∧ w'.ownsRow w.heap.size 73 2 v (max n m) (flatO (plusL f g)) ∧ Below w.heap.size w w' := by
  obtain ⟨i0, hi', z0, z1, z2⟩ := info_parts Try.info73
  have HN := Lib.hid hn
  have HM := Lib.hid hm
  have hpl : (plusL f g).length = max n m := by rw [plusL_len, HN.out, HM.out]
  obtain ⟨N, hN⟩ : ∃ N, N = max n m := ⟨_, rfl⟩
  have hmx : max f.length g.length = N := by rw [HN.out, HM.out, hN]
  rw [← hN] at hpl ⊢
  have HPL := Lib.hid hpl
  have HMX := Lib.hid hmx
  have hN1 : N ≤ 1000 := by omega
  have hNn : n ≤ N := by omega
  have hNm : m ≤ N := by omega
  have HNN := Lib.hid hN
  clear hpl hn hm hmx hN
  by_cases hnm : n < m
  all_goals
    go_enter Try.func221, Try.ntmps221
    go_wp2_with (at_make; refine wpList_make_full _ rfl _ _ 68 rfl w.heap.size 73 i0 (.agg #[.int .i64 0, .bool false]) 2 Try.underlying68 hi' z0 z1 _ _ _ _ N rfl rfl ?_ ?_ ?_ ?_ ?_ ?_)
    · have := HNN.out; omega
    · have := HNN.out; omega
    · rw [z2]; omega
    · unfold maxLen; omega
    · exact Nat.le_refl _
    intro w1 hown hgr
    rw [made2b N] at hown
    have e0 : List.replicate N (some (0 : Int)) = setO [] N := by simp [setO]
    rw [e0] at hown
    have hbl : Below w.heap.size w w1 := (Below.refl _ _).grown hgr (Nat.le_refl _) (by simp)
    have hz : w.heap.size < w1.heap.size := (hown.lt _ rfl).2
    clear hgr e0
    go_wp2
    go_loopw [15, 6] (fun i _ wr => ∃ k : Nat, k ≤ N ∧ i = .int .i64 k ∧ wr.ownsRow w.heap.size 73 2 (.slice (some ⟨w.heap.size, 0, none⟩) N N) N (flatO (setO ((plusL f g).take k) N)) ∧ Below w.heap.size w wr ∧ w.heap.size < wr.heap.size) (fun i _ _ => N - (intOf i).toNat)
    case atStart => exact ⟨0, Nat.zero_le _, rfl, hown, hbl, hz⟩
    case round =>
      clear hown hbl hz
      obtain ⟨k, hk, rfl, hown, hbl, hz⟩ := hrel
      by_cases hlt : k < N
      · have hlen : ((plusL f g).take k).length = k := by rw [List.length_take]; have := HPL.out; omega
        have hlo : k < (setO ((plusL f g).take k) N).length := by rw [setO_len _ _ (by omega)]; exact hlt
        have hst0 := setO_step ((plusL f g).take k) (plusO (atO f k) (atO g k)) N k hlen hlt
        rw [← plusL_succ f g k (by rw [HMX.out]; exact hlt)] at hst0
        have HST := Lib.hid hst0
        have HLO := Lib.hid hlo
        have hf1 := hf.below hbl
        have hg1 := hg.below hbl
        have hmp := m_plus
        clear hlen hst0 hlo
        go_wp2_with fail
        refine (polyAt _ f k wr hf1 (by rw [HN.out]; omega) (by omega)).mono ?_
        rintro e w2 ⟨rfl, b2⟩
        have hg2 := hg1.below b2
        go_wp2_with fail
        refine (polyAt _ g k w2 hg2 (by rw [HM.out]; omega) (by omega)).mono ?_
        rintro e w3 ⟨rfl, b3⟩
        go_wp2_with fail
        refine (wplusA (atO f k) (atO g k) (hf.1 k) (hg.1 k) _).mono ?_
        rintro e w4 ⟨rfl, b4⟩
        have bb := (b2.next b3).next b4
        have hB4 := hbl.trans (bb.mono (Nat.le_of_lt hz))
        have hz4 : w.heap.size < w4.heap.size := Nat.lt_of_lt_of_le hz bb.size
        have hown4 := ownsRow_chg hown (bb.chg 0 0) (fun _ _ => .inr (Nat.zero_le _))
        obtain ⟨q1, q2⟩ := flatO_get _ k HLO.out
        have d0 := (hown4.cellAt (k * 2) (by omega)).trans q1
        have d1 := (hown4.cellAt (k * 2 + 1) (by omega)).trans q2
        have f0 := hown4.frozenAt (k * 2)
        have f1 := hown4.frozenAt (k * 2 + 1)
        have hst := ((hown4.stored (k * 2) (.int .i64 (numO (plusO (atO f k) (atO g k))))).1.stored (k * 2 + 1) (.bool (plusO (atO f k) (atO g k)).isNone)).1
        rw [flatO_set _ _ _ HLO.out, HST.out] at hst
        have HS := Lib.hid hst
        clear hst q1 q2 hown hown4 b2 b3 b4 bb hf1 hg1 hg2 hbl hmp
        go_wp2
        go_roundw
        case rel => exact ⟨k+1, by omega, by go_num, HS.out, (hB4.setCell (Nat.le_refl _) _).setCell (Nat.le_refl _) _, by simp [World.setCell]; exact hz4⟩
        case measure => simp [intOf]; omega
      · go_wp2
        go_ret
        obtain rfl : k = N := by omega
        have e1 : setO ((plusL f g).take k) k = plusL f g := by
          rw [List.take_of_length_le (by rw [HPL.out]; exact Nat.le_refl _)]
          simp [setO, HPL.out]
        rw [e1] at hown
        exact ⟨_, rfl, hown, hbl⟩

end Go.Proofs.Ytebgbplhcaocoaa
