/- slices.Sort of at most twelve numbers: the library's own insertion sort, walked; what it leaves is isort. -/
import Derived.Test.YtnblhkhdilkbeaaCoreE
import Derived.Test.YtnblhkhdilkbeaaCoreF
import Derived.RegionTactic
set_option linter.unusedSimpArgs false
set_option linter.unusedVariables false
set_option maxRecDepth 100000
namespace Go.Proofs.Ytnblhkhdilkbeaa
open Go.RowKit

/-- the first n cells of a block hold a list, and may be written -/
structure RowX (w : World) (b n : Nat) (xs : List Int) : Prop where
  len : xs.length = n
  lt : b < w.heap.size
  cell : ∀ j, j < n → w.cell? ⟨b, j, none⟩ = some (.int .i64 (xs.getD j 0))
  free : ∀ j, j < n → w.frozen? ⟨b, j, none⟩ = false
theorem RowX.chg {w w' : World} {b n lo hi : Nat} {xs : List Int} (h : RowX w b n xs) (hc : Chg lo hi w w') (hb : b < lo ∨ hi ≤ b) : RowX w' b n xs :=
  ⟨h.len, Nat.lt_of_lt_of_le h.lt hc.size, fun j hj => hc.cell (h.cell j hj) hb, fun j hj => hc.frozen h.lt hb (h.free j hj)⟩
theorem RowX.below {w w' : World} {b n : Nat} {xs : List Int} (h : RowX w b n xs) (hc : Below w.heap.size w w') : RowX w' b n xs := h.chg (hc.chg 0 0) (.inr (Nat.zero_le _))
theorem RowX.qt {w w' : World} {b n : Nat} {xs : List Int} (h : RowX w b n xs) (hc : Qt w w') : RowX w' b n xs := h.below hc.below
theorem getD_setI (xs : List Int) (j k : Nat) (x : Int) (h : k < xs.length) : (xs.set j x).getD k 0 = if j = k then x else xs.getD k 0 := by
  simp only [List.getD, List.getElem?_set]
  by_cases e : j = k
  · subst e; rw [if_pos rfl, if_pos rfl, if_pos h]; rfl
  · rw [if_neg e, if_neg e]
theorem RowX.set {w : World} {b n : Nat} {xs : List Int} (h : RowX w b n xs) {j : Nat} (hj : j < n) (x : Int) : RowX (w.setCell ⟨b, j, none⟩ (.int .i64 x)) b n (xs.set j x) := by
  refine ⟨by rw [List.length_set]; exact h.len, by simpa [World.setCell] using h.lt, fun k hk => ?_, fun k hk => by rw [World.frozen?_setCell]; exact h.free k hk⟩
  rw [getD_setI _ _ _ _ (by rw [h.len]; exact hk)]
  by_cases e : j = k
  · subst e
    rw [if_pos rfl]
    exact World.cell?_setCell_same _ _ _ (h.cell j hk)
  · rw [if_neg e, World.cell?_setCell_other _ _ _ _ (by simp [e])]
    exact h.cell k hk

theorem cmpLess (x y : Int) (w : World) :
    Calls Try.prog 167 #[.int .i64 x, .int .i64 y] w fun e w' => e = .returned (.bool (decide (x < y))) ∧ Qt w w' := by
  go_enter Try.func167, Try.ntmps167
  go_wp2_with fail
  refine (isNaN x _).mono ?_
  rintro e w1 ⟨rfl, q1⟩
  go_wp2
  go_ret
  exact ⟨rfl, q1⟩

theorem sink_swap {x : List Int} {j : Nat} (h : x.getD (j+1) 0 < x.getD j 0) : sink (j+1) x = sink j (swapL x j) := by
  rw [sink, if_pos h]
theorem sink_stop {x : List Int} {j : Nat} (h : j = 0 ∨ ¬ x.getD j 0 < x.getD (j-1) 0) : sink j x = x := by
  cases j with
  | zero => rfl
  | succ j =>
    rcases h with h | h
    · omega
    · rw [sink, if_neg (by simpa using h)]

set_option maxHeartbeats 1600000 in
theorem insSort (b n cap : Nat) (xs : List Int) (w : World) (h : RowX w b n xs) (h1 : 1 ≤ n) (hn : n ≤ 12) :
    Calls Try.prog 161 #[.slice (some ⟨b, 0, none⟩) n cap, .int .i64 0, .int .i64 n] w fun e w' => e = .returned (.tuple #[]) ∧ RowX w' b n (isort xs) ∧ Chg b (b+1) w w' := by
  have HW := Lib.hid h
  have hlen := h.len
  clear h
  go_enter Try.func161, Try.ntmps161
  go_wp2
  go_loopw [6] (fun i wr => ∃ k : Nat, 1 ≤ k ∧ k ≤ n ∧ i = .int .i64 k ∧ RowX wr b n (sortTo (k-1) xs) ∧ Chg b (b+1) w wr) (fun i _ => n - (intOf i).toNat)
  case atStart => exact ⟨1, Nat.le_refl _, h1, by go_num, HW.out, Chg.refl _ _ _⟩
  case round =>
    obtain ⟨k, hk1, hk2, rfl, hrow, hch⟩ := hrel
    have HR := Lib.hid hrow
    have HC := Lib.hid hch
    clear hrow hch
    by_cases hlt : k < n
    · go_wp2
      go_loopw [7] (fun i wr2 => ∃ (j : Nat) (y : List Int), j ≤ k ∧ i = .int .i64 j ∧ RowX wr2 b n y ∧ sink j y = sink k (sortTo (k-1) xs) ∧ Chg b (b+1) w wr2) (fun i _ => (intOf i).toNat)
      case atStart => exact ⟨k, _, Nat.le_refl _, rfl, HR.out, rfl, HC.out⟩
      case round =>
        clear HR HC
        obtain ⟨j, y, hj, rfl, hrow, hs, hch⟩ := hrel
        have HR := Lib.hid hrow
        have HC := Lib.hid hch
        have HS := Lib.hid hs
        clear hrow hch hs
        have hstep : sink k (sortTo (k-1) xs) = sortTo k xs := by
          obtain ⟨m, rfl⟩ : ∃ m, k = m + 1 := ⟨k - 1, by omega⟩
          rfl
        have HST := Lib.hid hstep
        clear hstep
        go_wp2
        by_cases hj0 : 0 < j
        · obtain ⟨m, rfl⟩ : ∃ m, j = m + 1 := ⟨j - 1, by omega⟩
          have c0 := HR.out.cell m (by omega)
          have c1 := HR.out.cell (m+1) (by omega)
          have f0 := HR.out.free m (by omega)
          have f1 := HR.out.free (m+1) (by omega)
          obtain ⟨x0, hx0⟩ : ∃ x, x = y.getD m 0 := ⟨_, rfl⟩
          obtain ⟨x1, hx1⟩ : ∃ x, x = y.getD (m+1) 0 := ⟨_, rfl⟩
          rw [← hx0] at c0
          rw [← hx1] at c1
          have H0 := Lib.hid hx0
          have H1 := Lib.hid hx1
          clear hx0 hx1
          have hgd : decide ((0:Int) < ((m + 1 : Nat) : Int)) = true := by simp
          have hsub : IntKind.i64.wrap (((m + 1 : Nat) : Int) - 1) = (m : Int) := by rw [show (((m + 1 : Nat) : Int) - 1) = (m : Int) by omega]; exact IntWalk.i64_in _ (by omega)
          by_cases hl : x1 < x0
          · have hdec : decide (x1 < x0) = true := by simpa using hl
            have hswap : ∀ W, Qt wr W → RowX ((W.setCell ⟨b, m+1, none⟩ (.int .i64 x0)).setCell ⟨b, m, none⟩ (.int .i64 x1)) b n (swapL y m) ∧ Chg b (b+1) w ((W.setCell ⟨b, m+1, none⟩ (.int .i64 x0)).setCell ⟨b, m, none⟩ (.int .i64 x1)) := by
              intro W q
              refine ⟨?_, ((HC.out.trans (q.chg _ _)).setCell (by simp) _).setCell (by simp) _⟩
              have := ((HR.out.qt q).set (show m+1 < n by omega) x0).set (show m < n by omega) x1
              unfold swapL
              rw [← H0.out, ← H1.out]
              exact this
            have HSW := Lib.hid hswap
            have hss : sink m (swapL y m) = sink k (sortTo (k-1) xs) := by rw [← sink_swap (by rw [← H0.out, ← H1.out]; exact hl)]; exact HS.out
            have HSS := Lib.hid hss
            clear hswap hss
            go_quiet (first | (go_at_call 167; exact Calls.quiet_of (cmpLess _ _ _)))
            go_wp2
            go_region
            all_goals go_wp2
            go_roundw
            case rel =>
              obtain ⟨g1, g2⟩ := HSW.out (wr.drewN (nq + 1)) ((Qt.refl wr).drewN _)
              exact ⟨m, swapL y m, by omega, rfl, g1, HSS.out, g2⟩
            case measure => simp [intOf]
          · have hdec : decide (x1 < x0) = false := by simpa using hl
            go_quiet (first | (go_at_call 167; exact Calls.quiet_of (cmpLess _ _ _)))
            go_wp2
            go_roundw
            case rel => exact ⟨k+1, by omega, by omega, by go_num, by rw [Nat.add_sub_cancel, ← HST.out, ← HS.out, sink_stop (Or.inr (by rw [Nat.add_sub_cancel, ← H0.out, ← H1.out]; exact hl))]; exact HR.out.qt ((Qt.refl wr).drewN _), HC.out.trans (((Qt.refl wr).drewN _).chg _ _)⟩
            case measure => simp [intOf]; omega
        · have hgd : decide ((0:Int) < (j : Int)) = false := by simp; omega
          go_quiet (first | (go_at_call 167; exact Calls.quiet_of (cmpLess _ _ _)))
          go_wp2
          go_roundw
          case rel => exact ⟨k+1, by omega, by omega, by go_num, by rw [Nat.add_sub_cancel, ← HST.out, ← HS.out, sink_stop (Or.inl (by omega))]; exact HR.out.qt ((Qt.refl wr).drewN _), HC.out.trans (((Qt.refl wr).drewN _).chg _ _)⟩
          case measure => simp [intOf]; omega
    · go_wp2
      go_end0
      obtain rfl : k = n := by omega
      exact ⟨rfl, by unfold isort; rw [hlen]; exact HR.out, HC.out⟩

set_option maxHeartbeats 1600000 in
theorem bitsLen (n : Nat) (w : World) (h1 : 1 ≤ n) (h4 : n ≤ 4) : Calls Try.prog 160 #[.int .u64 n] w fun e w' => (∃ v : Int, e = .returned (.int .i64 v)) ∧ Qt w w' := by
  have hn : n = 1 ∨ n = 2 ∨ n = 3 ∨ n = 4 := by omega
  rcases hn with rfl | rfl | rfl | rfl
  all_goals
    go_enter Try.func160, Try.ntmps160
    go_wp2_with (go_in)
    go_ret
    exact ⟨⟨_, rfl⟩, Qt.refl _⟩

set_option maxHeartbeats 1600000 in
theorem pdqS (b n cap : Nat) (xs : List Int) (l : Int) (w : World) (h : RowX w b n xs) (h1 : 1 ≤ n) (hn : n ≤ 12) :
    Calls Try.prog 159 #[.slice (some ⟨b, 0, none⟩) n cap, .int .i64 0, .int .i64 n, .int .i64 l] w fun e w' => e = .returned (.tuple #[]) ∧ RowX w' b n (isort xs) ∧ Chg b (b+1) w w' := by
  have hb : ((n : Int) ≤ 12) := by omega
  go_enter Try.func159, Try.ntmps159
  go_wp2
  refine wp_loop_rounds 1 ?_
  rw [rounds_succ]
  go_wp2_with fail
  refine (insSort b n cap xs _ h h1 hn).mono ?_
  rintro e w1 ⟨rfl, r1, c1⟩
  go_wp2
  exact bodyPost_ret (results_none rfl _ _ _) rfl ⟨rfl, r1, c1⟩

theorem slSort (b n cap : Nat) (xs : List Int) (w : World) (h : RowX w b n xs) (h1 : 1 ≤ n) (hn : n ≤ 4) :
    Calls Try.prog 154 #[.slice (some ⟨b, 0, none⟩) n cap] w fun e w' => e = .returned (.tuple #[]) ∧ RowX w' b n (isort xs) ∧ Chg b (b+1) w w' := by
  have hw : IntKind.u64.wrap (n : Int) = (n : Int) := IntWalk.u64_in _ (by omega)
  go_enter Try.func154, Try.ntmps154
  go_wp2_with fail
  refine (bitsLen n _ h1 hn).mono ?_
  rintro e w1 ⟨⟨v, rfl⟩, q1⟩
  go_wp2_with fail
  refine (pdqS b n cap xs v _ (h.qt q1) h1 (by omega)).mono ?_
  rintro e w2 ⟨rfl, r2, c2⟩
  go_wp2
  go_end0
  exact ⟨rfl, r2, (q1.chg _ _).trans c2⟩

end Go.Proofs.Ytnblhkhdilkbeaa
