/- Rows of zeros, made anew; sums on diagonals. -/
import Derived.Test.YtolipjemabmlkaaMat
import Derived.Test.YtolipjemabmlkaaCoreA
import Derived.StillTailTactics
set_option linter.unusedSimpArgs false
set_option linter.unusedVariables false
namespace Go.Proofs.Ytolipjemabmlkaa
open Go.RowKit

def zeros : Nat → Nat → Int := fun _ _ => 0
theorem made_row (n : Nat) : (madeCells #[Value.int .i64 0] n).toList = ((List.range n).map (zeros 0)).map (Value.int .i64) := by
  rw [toList_madeCells_one]
  apply List.ext_getElem
  · simp
  · intro j h1 h2
    simp [zeros]
theorem row_OwI {n : Nat} {w w' : World} {v : Value} (hn : n ≤ 1000) (h : w'.ownsRow w.heap.size 2 1 v n (madeCells #[Value.int .i64 0] n).toList) : OwI w.heap.size w'.heap.size w' v ((List.range n).map (zeros 0)) := by
  rw [made_row] at h
  refine .mk h (by omega) (fun x hx => ?_)
  simp [zeros] at hx
  rw [← hx.2]; exact I64_zero

set_option maxRecDepth 100000 in
set_option maxHeartbeats 1600000 in
theorem zeroRows_pos (n : Nat) (w : World) (hn : n ≤ 1000) (hw : 0 < w.heap.size) :
    Calls Try.prog 63 #[.int .i64 n] w fun e w' => ∃ v, e = .returned v ∧ OwR w.heap.size w'.heap.size w' v (tab n zeros) ∧ Below w.heap.size w w' := by
  obtain ⟨i0, hi', z0, z1, z2⟩ := info_parts Try.info26
  obtain ⟨j0, hj', y0, y1, y2⟩ := info_parts Try.info2
  have HT := Lib.hid (show (tab n zeros).length = n from tab_len _ _)
  go_enter Try.func63, Try.ntmps63
  go_wp2_with (at_make; refine wpList_make_full _ rfl _ _ 22 rfl w.heap.size 26 i0 (.slice none 0 0) 1 Try.underlying22 hi' z0 z1 _ _ _ _ n rfl rfl rfl rfl ?c1 ?c2 ?c3 ?_)
  case c1 => rw [z2]; omega
  case c2 => unfold maxLen; omega
  case c3 => exact Nat.le_refl _
  intro w1 hown hgr
  have hbl : Below w.heap.size w w1 := (Below.refl _ _).grown hgr (by simp) (by simp)
  have hP := OwP.made (x := 0) hown (by omega)
  rw [← filled_zero (tab n zeros) n] at hP
  obtain ⟨G, hG⟩ : ∃ G, G = w.heap.size := ⟨_, rfl⟩
  rw [← hG] at hP hw ⊢
  have HG := Lib.hid hG
  rw [← hG] at hbl
  clear hgr hown hG
  go_wp2
  go_loopw [9] (fun i wr => ∃ (k : Nat) (rvs : List Value), k ≤ n ∧ i = .int .i64 k ∧ OwP G 0 wr G n n rvs (filled (tab n zeros) k n) ∧ Below G w wr) (fun i _ => n - (intOf i).toNat)
  case atStart => exact ⟨0, _, Nat.zero_le _, rfl, hP, hbl⟩
  case round =>
    clear hP hbl
    obtain ⟨k, rvs, hk, rfl, hP, hB⟩ := hrel
    by_cases hlt : k < n
    · have hst := filled_step (rows := tab n zeros) HT.out hlt
      rw [tab_row _ hlt] at hst
      have HST := Lib.hid hst
      have hGw : G ≤ wr.heap.size := by have := hB.size; have := HG.out; omega
      have hz0 : 0 < wr.heap.size := by omega
      clear hst
      go_wp2_with (at_make; refine wpList_make_full _ rfl _ _ 26 rfl wr.heap.size 2 j0 (.int .i64 0) 1 Try.underlying26 hj' y0 y1 _ _ _ _ n rfl rfl rfl rfl ?d1 ?d2 ?d3 ?_)
      case d1 => rw [y2]; omega
      case d2 => unfold maxLen; omega
      case d3 => exact Nat.le_refl _
      intro w2 hown2 hgr2
      have hb2 : Below wr.heap.size wr w2 := (Below.refl _ _).grown hgr2 (by simp) (by simp)
      have hrv := row_OwI hn hown2
      obtain ⟨R, hR⟩ : ∃ R, R = wr.heap.size := ⟨_, rfl⟩
      have hput := hP.put hz0 hb2 hlt hrv
      have hPP := hP.below hb2
      rw [show (List.range n).map (zeros 0) = (List.range n).map (zeros k) from rfl, HST.out] at hput
      have hB2 : Below G w w2 := hB.trans (hb2.mono hGw)
      obtain ⟨ov, hcell⟩ : ∃ ov, w2.cell? ⟨G, k, none⟩ = some ov := ⟨_, (hPP.row hlt).1⟩
      have hfr := hPP.out.frozenAt k
      rw [← hR] at hput ⊢
      have HF := Lib.hid (⟨hput, hB2.setCell (p := ⟨G, k, none⟩) (Nat.le_refl _) _⟩ : _ ∧ Below G w (w2.setCell ⟨G, k, none⟩ (.slice (some ⟨R, 0, none⟩) n n)))
      clear hput hPP hB2 hrv hb2 hgr2 hown2 hP hB hR
      go_wp2
      go_roundw
      case rel => exact ⟨k+1, _, by omega, by go_num, HF.out⟩
      case measure => simp [intOf]; omega
    · have e2 : filled (tab n zeros) k n = tab n zeros := by
        obtain rfl : k = n := by omega
        exact filled_all HT.out
      rw [e2] at hP
      have HF := Lib.hid (⟨hP.owr (by omega), hB⟩ : _ ∧ _)
      clear hP hB e2
      go_wp2
      go_ret
      exact ⟨_, rfl, by rw [← HG.out]; exact HF.out⟩

set_option maxRecDepth 100000 in
theorem zeroRows_zero (w : World) :
    Calls Try.prog 63 #[.int .i64 0] w fun e w' => ∃ v, e = .returned v ∧ OwR w.heap.size w'.heap.size w' v (tab 0 zeros) ∧ Below w.heap.size w w' := by
  obtain ⟨i0, hi', z0, z1, z2⟩ := info_parts Try.info26
  go_enter Try.func63, Try.ntmps63
  go_wp2_with (at_make; refine wpList_make_full _ rfl _ _ 22 rfl w.heap.size 26 i0 (.slice none 0 0) 1 Try.underlying22 hi' z0 z1 _ _ _ _ 0 rfl rfl rfl rfl ?c1 ?c2 ?c3 ?_)
  case c1 => rw [z2]; omega
  case c2 => unfold maxLen; omega
  case c3 => exact Nat.le_refl _
  intro w1 hown hgr
  have hbl : Below w.heap.size w w1 := (Below.refl _ _).grown hgr (by simp) (by simp)
  have hO : OwR w.heap.size w1.heap.size w1 (.slice (some ⟨w.heap.size, 0, none⟩) 0 0) (tab 0 zeros) := OwR.nil (by simpa [toList_madeCells_one] using hown) (Nat.le_refl _)
  have HF := Lib.hid (⟨hO, hbl⟩ : _ ∧ _)
  clear hO hbl hgr hown
  go_wp2
  refine wp_loop_rounds 1 ?_
  rw [rounds_succ]
  go_wp2
  go_ret
  exact ⟨_, rfl, HF.out⟩

theorem zeroRows (n : Nat) (w : World) (hn : n ≤ 1000) (hw : n = 0 ∨ 0 < w.heap.size) :
    Calls Try.prog 63 #[.int .i64 n] w fun e w' => ∃ v, e = .returned v ∧ OwR w.heap.size w'.heap.size w' v (tab n zeros) ∧ Below w.heap.size w w' := by
  rcases hw with rfl | hw
  · exact zeroRows_zero w
  · exact zeroRows_pos n w hn hw

end Go.Proofs.Ytolipjemabmlkaa
