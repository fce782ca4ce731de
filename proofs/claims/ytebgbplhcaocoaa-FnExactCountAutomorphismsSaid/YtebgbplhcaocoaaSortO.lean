/- slices.Sort and slices.Reverse of a list that the call owns. -/
import Derived.Test.YtebgbplhcaocoaaSortI
import Derived.Test.YtebgbplhcaocoaaImplCyc2
import Derived.RegionTactic
set_option linter.unusedSimpArgs false
set_option linter.unusedVariables false
set_option maxRecDepth 100000
namespace Go.Proofs.Ytebgbplhcaocoaa
open Go.RowKit

/-- a list owned, by its block -/
def OwX (lo cap : Nat) (w : World) (b n : Nat) (xs : List Int) : Prop := w.ownsRow lo 2 1 (.slice (some ⟨b, 0, none⟩) n cap) n (xs.map (Value.int .i64))
theorem OwX.len {lo cap : Nat} {w : World} {b n : Nat} {xs : List Int} (h : OwX lo cap w b n xs) : xs.length = n := by have := h.1; simpa using this
theorem OwX.cell {lo cap : Nat} {w : World} {b n : Nat} {xs : List Int} (h : OwX lo cap w b n xs) (j : Nat) (hj : j < n) : w.cell? ⟨b, j, none⟩ = some (.int .i64 (xs.getD j 0)) := by
  have hl := h.len
  rw [World.ownsRow.cellAt h j (by omega)]
  simp [List.getD, List.getElem?_eq_getElem (show j < xs.length by omega)]
theorem OwX.free {lo cap : Nat} {w : World} {b n : Nat} {xs : List Int} (h : OwX lo cap w b n xs) (j : Nat) (hj : j < n) : w.frozen? ⟨b, j, none⟩ = false := World.ownsRow.frozenAt h j
theorem OwX.qt {lo cap : Nat} {w w' : World} {b n : Nat} {xs : List Int} (h : OwX lo cap w b n xs) (q : Qt w w') : OwX lo cap w' b n xs := ownsRow_chg h (q.chg 0 0) (fun _ _ => .inr (Nat.zero_le _))
theorem OwX.set {lo cap : Nat} {w : World} {b n : Nat} {xs : List Int} (h : OwX lo cap w b n xs) {j : Nat} (hj : j < n) (x : Int) : OwX lo cap (w.setCell ⟨b, j, none⟩ (.int .i64 x)) b n (xs.set j x) := by
  have := (World.ownsRow.stored h j (.int .i64 x)).1
  unfold OwX
  rw [List.map_set]
  exact this

set_option maxHeartbeats 1600000 in
theorem insSortO (lo b n cap : Nat) (xs : List Int) (w : World) (h : OwX lo cap w b n xs) (h1 : 1 ≤ n) (hn : n ≤ 12) :
    Calls Try.prog 189 #[.slice (some ⟨b, 0, none⟩) n cap, .int .i64 0, .int .i64 n] w fun e w' => e = .returned (.tuple #[]) ∧ OwX lo cap w' b n (isort xs) ∧ Chg b (b+1) w w' := by
  have HW := Lib.hid h
  have hlen := h.len
  clear h
  go_enter Try.func189, Try.ntmps189
  go_wp2
  go_loopw [6] (fun i wr => ∃ k : Nat, 1 ≤ k ∧ k ≤ n ∧ i = .int .i64 k ∧ OwX lo cap wr b n (sortTo (k-1) xs) ∧ Chg b (b+1) w wr) (fun i _ => n - (intOf i).toNat)
  case atStart => exact ⟨1, Nat.le_refl _, h1, by go_num, HW.out, Chg.refl _ _ _⟩
  case round =>
    obtain ⟨k, hk1, hk2, rfl, hrow, hch⟩ := hrel
    have HR := Lib.hid hrow
    have HC := Lib.hid hch
    clear hrow hch
    by_cases hlt : k < n
    · go_wp2
      go_loopw [7] (fun i wr2 => ∃ (j : Nat) (y : List Int), j ≤ k ∧ i = .int .i64 j ∧ OwX lo cap wr2 b n y ∧ sink j y = sink k (sortTo (k-1) xs) ∧ Chg b (b+1) w wr2) (fun i _ => (intOf i).toNat)
      case atStart => exact ⟨k, _, Nat.le_refl _, rfl, HR.out, rfl, HC.out⟩
      case round =>
        clear HR HC
        obtain ⟨j, y, hj, rfl, hrow, hs, hch⟩ := hrel
        have HR := Lib.hid hrow
        have HC := Lib.hid hch
        have HS := Lib.hid hs
        clear hrow hch hs
        have hstep : sink k (sortTo (k-1) xs) = sortTo k xs := by
          obtain ⟨m, rfl⟩ : ∃ m, k = m + 1 := ⟨k - 1, by omega⟩
          rfl
        have HST := Lib.hid hstep
        clear hstep
        go_wp2
        by_cases hj0 : 0 < j
        · obtain ⟨m, rfl⟩ : ∃ m, j = m + 1 := ⟨j - 1, by omega⟩
          have c0 := HR.out.cell m (by omega)
          have c1 := HR.out.cell (m+1) (by omega)
          have f0 := HR.out.free m (by omega)
          have f1 := HR.out.free (m+1) (by omega)
          obtain ⟨x0, hx0⟩ : ∃ x, x = y.getD m 0 := ⟨_, rfl⟩
          obtain ⟨x1, hx1⟩ : ∃ x, x = y.getD (m+1) 0 := ⟨_, rfl⟩
          rw [← hx0] at c0
          rw [← hx1] at c1
          have H0 := Lib.hid hx0
          have H1 := Lib.hid hx1
          clear hx0 hx1
          have hgd : decide ((0:Int) < ((m + 1 : Nat) : Int)) = true := by simp
          have hsub : IntKind.i64.wrap (((m + 1 : Nat) : Int) - 1) = (m : Int) := by rw [show (((m + 1 : Nat) : Int) - 1) = (m : Int) by omega]; exact IntWalk.i64_in _ (by omega)
          by_cases hl : x1 < x0
          · have hdec : decide (x1 < x0) = true := by simpa using hl
            have hswap : ∀ W, Qt wr W → OwX lo cap ((W.setCell ⟨b, m+1, none⟩ (.int .i64 x0)).setCell ⟨b, m, none⟩ (.int .i64 x1)) b n (swapL y m) ∧ Chg b (b+1) w ((W.setCell ⟨b, m+1, none⟩ (.int .i64 x0)).setCell ⟨b, m, none⟩ (.int .i64 x1)) := by
              intro W q
              refine ⟨?_, ((HC.out.trans (q.chg _ _)).setCell (by simp) _).setCell (by simp) _⟩
              have := ((HR.out.qt q).set (show m+1 < n by omega) x0).set (show m < n by omega) x1
              unfold swapL
              rw [← H0.out, ← H1.out]
              exact this
            have HSW := Lib.hid hswap
            have hss : sink m (swapL y m) = sink k (sortTo (k-1) xs) := by rw [← sink_swap (by rw [← H0.out, ← H1.out]; exact hl)]; exact HS.out
            have HSS := Lib.hid hss
            clear hswap hss
            go_quiet (first | (go_at_call 195; exact Calls.quiet_of (cmpLess _ _ _)))
            go_wp2
            go_region
            all_goals go_wp2
            go_roundw
            case rel =>
              obtain ⟨g1, g2⟩ := HSW.out (wr.drewN (nq + 1)) ((Qt.refl wr).drewN _)
              exact ⟨m, swapL y m, by omega, rfl, g1, HSS.out, g2⟩
            case measure => simp [intOf]
          · have hdec : decide (x1 < x0) = false := by simpa using hl
            go_quiet (first | (go_at_call 195; exact Calls.quiet_of (cmpLess _ _ _)))
            go_wp2
            go_roundw
            case rel => exact ⟨k+1, by omega, by omega, by go_num, by rw [Nat.add_sub_cancel, ← HST.out, ← HS.out, sink_stop (Or.inr (by rw [Nat.add_sub_cancel, ← H0.out, ← H1.out]; exact hl))]; exact HR.out.qt ((Qt.refl wr).drewN _), HC.out.trans (((Qt.refl wr).drewN _).chg _ _)⟩
            case measure => simp [intOf]; omega
        · have hgd : decide ((0:Int) < (j : Int)) = false := by simp; omega
          go_quiet (first | (go_at_call 195; exact Calls.quiet_of (cmpLess _ _ _)))
          go_wp2
          go_roundw
          case rel => exact ⟨k+1, by omega, by omega, by go_num, by rw [Nat.add_sub_cancel, ← HST.out, ← HS.out, sink_stop (Or.inl (by omega))]; exact HR.out.qt ((Qt.refl wr).drewN _), HC.out.trans (((Qt.refl wr).drewN _).chg _ _)⟩
          case measure => simp [intOf]; omega
    · go_wp2
      go_end0
      obtain rfl : k = n := by omega
      exact ⟨rfl, by unfold isort; rw [hlen]; exact HR.out, HC.out⟩

set_option maxHeartbeats 1600000 in
theorem pdqSO (lo b n cap : Nat) (xs : List Int) (l : Int) (w : World) (h : OwX lo cap w b n xs) (h1 : 1 ≤ n) (hn : n ≤ 12) :
    Calls Try.prog 187 #[.slice (some ⟨b, 0, none⟩) n cap, .int .i64 0, .int .i64 n, .int .i64 l] w fun e w' => e = .returned (.tuple #[]) ∧ OwX lo cap w' b n (isort xs) ∧ Chg b (b+1) w w' := by
  have hb : ((n : Int) ≤ 12) := by omega
  go_enter Try.func187, Try.ntmps187
  go_wp2
  refine wp_loop_rounds 1 ?_
  rw [rounds_succ]
  go_wp2_with fail
  refine (insSortO lo b n cap xs _ h h1 hn).mono ?_
  rintro e w1 ⟨rfl, r1, c1⟩
  go_wp2
  exact bodyPost_ret (results_none rfl _ _ _) rfl ⟨rfl, r1, c1⟩

theorem slSortO (lo b n cap : Nat) (xs : List Int) (w : World) (h : OwX lo cap w b n xs) (h1 : 1 ≤ n) (hn : n ≤ 4) :
    Calls Try.prog 184 #[.slice (some ⟨b, 0, none⟩) n cap] w fun e w' => e = .returned (.tuple #[]) ∧ OwX lo cap w' b n (isort xs) ∧ Chg b (b+1) w w' := by
  have hw : IntKind.u64.wrap (n : Int) = (n : Int) := IntWalk.u64_in _ (by omega)
  go_enter Try.func184, Try.ntmps184
  go_wp2_with fail
  refine (bitsLen n _ h1 hn).mono ?_
  rintro e w1 ⟨⟨v, rfl⟩, q1⟩
  go_wp2_with fail
  refine (pdqSO lo b n cap xs v _ (h.qt q1) h1 (by omega)).mono ?_
  rintro e w2 ⟨rfl, r2, c2⟩
  go_wp2
  go_end0
  exact ⟨rfl, r2, (q1.chg _ _).trans c2⟩

def swp2 (y : List Int) (i j : Nat) : List Int := (y.set i (y.getD j 0)).set j (y.getD i 0)
def revGo : Nat → Nat → Nat → List Int → List Int
  | 0, _, _, y => y
  | f + 1, i, j, y => if i < j then revGo f (i + 1) (j - 1) (swp2 y i j) else y
theorem revGo_rev {xs : List Int} (h1 : 1 ≤ xs.length) (h4 : xs.length ≤ 4) : revGo 2 0 (xs.length - 1) xs = xs.reverse := by
  have hl : xs.length = 1 ∨ xs.length = 2 ∨ xs.length = 3 ∨ xs.length = 4 := by omega
  rcases hl with h | h | h | h
  · obtain ⟨a, rfl⟩ := len1 h; rfl
  · obtain ⟨a, b, rfl⟩ := len2 h; rfl
  · obtain ⟨a, b, c, rfl⟩ := len3 h; rfl
  · obtain ⟨a, b, c, d, rfl⟩ := len4 h; rfl
theorem revGo_stop {f i j : Nat} {y : List Int} (h : ¬ i < j) : revGo f i j y = y := by
  cases f with
  | zero => rfl
  | succ f => rw [revGo, if_neg h]

end Go.Proofs.Ytebgbplhcaocoaa
