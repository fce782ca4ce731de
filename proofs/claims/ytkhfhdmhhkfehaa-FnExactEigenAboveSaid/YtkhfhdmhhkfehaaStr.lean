/- Changes of sign of a shifted polynomial, by the program: a closure that goes on. -/
import Derived.Test.YtkhfhdmhhkfehaaQR
set_option linter.unusedSimpArgs false
set_option linter.unusedVariables false
set_option maxRecDepth 100000
namespace Go.Proofs.Ytkhfhdmhhkfehaa
open Go.RowKit

/-- the quotients, one after the other, and their rests -/
def qk (xs : List Int) (c : Int) (L : Nat) : Nat → List Int
  | 0 => xs
  | k + 1 => quo (qk xs c L k) c (L - k)
def rk (xs : List Int) (c : Int) (L k : Nat) : Int := hs (qk xs c L k) c (L - k) (L - k - 1)
theorem qk_len {xs : List Int} {L : Nat} (h : xs.length = L) (c : Int) : ∀ k, (qk xs c L k).length = L - k
  | 0 => h
  | k + 1 => by show (quo _ c (L - k)).length = _; rw [quo_len]; omega
/-- changes of sign so far, and the sign before -/
def chS (s : Int × Int) (r : Int) : Int × Int := if r = 0 then s else (if cmpI r 0 = -s.2 then s.1 + 1 else s.1, cmpI r 0)
def chK (f : Nat → Int) : Nat → Int × Int
  | 0 => (0, 0)
  | k + 1 => chS (chK f k) (f k)
theorem chK_bd (f : Nat → Int) : ∀ k, 0 ≤ (chK f k).1 ∧ (chK f k).1 ≤ k ∧ -1 ≤ (chK f k).2 ∧ (chK f k).2 ≤ 1
  | 0 => by simp [chK]
  | k + 1 => by
    have h := chK_bd f k
    unfold chK chS
    split
    · omega
    · have hc : -1 ≤ cmpI (f k) 0 ∧ cmpI (f k) 0 ≤ 1 := by unfold cmpI; split <;> (try split) <;> omega
      simp only []
      split <;> omega

set_option maxHeartbeats 1600000 in
theorem shClo_end (F C cap : Nat) (a : Option Addr) (w : World) (hF : w.cell? ⟨F, 0, none⟩ = some (.slice a 0 cap)) :
    Calls Try.prog 109 #[.pointer (some ⟨F, 0, none⟩), .pointer (some ⟨C, 0, none⟩)] w fun e w' => e = .returned (.tuple #[.int .i64 0, .bool false]) ∧ Qt w w' := by
  go_enter Try.func109, Try.ntmps109
  go_wp2
  go_ret2
  exact ⟨rfl, Qt.refl _⟩

set_option maxHeartbeats 1600000 in
theorem shClo {lo hi : Nat} (F C b off L cap : Nat) (xs : List Int) (c : Int) (w : World) (hF : w.cell? ⟨F, 0, none⟩ = some (.slice (some ⟨b, off, none⟩) L cap)) (hC : w.cell? ⟨C, 0, none⟩ = some (.int .i64 c)) (hf : w.frozen? ⟨F, 0, none⟩ = false) (hne : F ≠ C) (h : RdI lo hi w (.slice (some ⟨b, off, none⟩) L cap) xs) (hl : xs.length = L) (h0 : 0 < L) (hL : L ≤ 100) :
    Calls Try.prog 109 #[.pointer (some ⟨F, 0, none⟩), .pointer (some ⟨C, 0, none⟩)] w fun e w' => e = .returned (.tuple #[.int .i64 (hs xs c L (L - 1)), .bool true]) ∧ ∃ b' off' cap', w'.cell? ⟨F, 0, none⟩ = some (.slice (some ⟨b', off', none⟩) (L - 1) cap') ∧ w'.frozen? ⟨F, 0, none⟩ = false ∧ w'.cell? ⟨C, 0, none⟩ = some (.int .i64 c) ∧ RdI w.heap.size w'.heap.size w' (.slice (some ⟨b', off', none⟩) (L - 1) cap') (quo xs c L) ∧ Chg F (F + 1) w w' := by
  have HQ := Lib.hid (quoRest b off L cap xs c w h hl h0 hL)
  have hLb : ((L : Int) == 0) = false := by simp; omega
  have hFw := World.block_lt_of_cell? w _ hF
  have HK := Lib.hid (⟨hF, hC, hf, hFw⟩ : _ ∧ _ ∧ _ ∧ _)
  clear h hl
  go_enter Try.func109, Try.ntmps109
  go_wp2_with fail
  refine HQ.out.mono ?_
  rintro e w1 ⟨b', off', cap', rfl, o1, b1⟩
  obtain ⟨k0, k1, k2, k3⟩ := HK.out
  have g0 := b1.keep k0
  have g1 := b1.keep k1
  have g2 := b1.keepf k3 k2
  obtain ⟨w2, hw2⟩ : ∃ w2, w2 = w1.setCell ⟨F, 0, none⟩ (.slice (some ⟨b', off', none⟩) (L - 1) cap') := ⟨_, rfl⟩
  have c0 : w2.cell? ⟨F, 0, none⟩ = some (.slice (some ⟨b', off', none⟩) (L - 1) cap') := by rw [hw2]; exact World.cell?_setCell_same _ _ _ g0
  have c1 : w2.cell? ⟨C, 0, none⟩ = some (.int .i64 c) := by rw [hw2, World.cell?_setCell_other _ _ _ _ (by intro e; exact hne (by injection e))]; exact g1
  have hC2 : Chg F (F + 1) w w2 := by rw [hw2]; exact (b1.chg F (F + 1)).setCell ⟨Nat.le_refl _, Nat.lt_succ_self _⟩ _
  have hC3 : Chg F (F + 1) w1 w2 := by rw [hw2]; exact (Chg.refl F (F + 1) w1).setCell (p := ⟨F, 0, none⟩) ⟨Nat.le_refl _, Nat.lt_succ_self _⟩ _
  have c2 : w2.frozen? ⟨F, 0, none⟩ = false := by rw [hw2]; first | exact World.frozen?_setCell .. | (simp; exact g2) | sorry
  have hR2 : RdI w.heap.size w2.heap.size w2 (.slice (some ⟨b', off', none⟩) (L - 1) cap') (quo xs c L) := by
    refine ⟨o1.1, o1.2.1, ?_⟩
    rcases o1.2.2 with h5 | ⟨b5, off5, c5, e1, e2, e3, e4, e5⟩
    · exact .inl h5
    · refine .inr ⟨b5, off5, c5, e1, e2, e3, Nat.lt_of_lt_of_le e4 hC3.size, fun j hj => hC3.cell (e5 j hj) (.inr ?_)⟩
      show F + 1 ≤ b5
      have h9 : F < w.heap.size := HK.out.2.2.2
      omega
  have HF := Lib.hid (⟨c0, c2, c1, hR2, hC2⟩ : _ ∧ _ ∧ _ ∧ _ ∧ _)
  clear hR2 hC2 hC3 c0 c1 c2 o1 b1 HK k0 k1 k2 k3 hFw hF hC hf
  go_wp2
  rw [← hw2]
  go_ret2
  exact ⟨rfl, b', off', cap', HF.out⟩


def strM (F : Nat) (mo : Value) (wr : World) : Nat := (match mo with | .bool true => 1 | _ => 0) + (match wr.cell? ⟨F, 0, none⟩ with | some (.slice _ n _) => n | _ => 0)
theorem strM_at {F n cap : Nat} {a : Option Addr} {wr : World} {b : Bool} (h : wr.cell? ⟨F, 0, none⟩ = some (.slice a n cap)) : strM F (.bool b) wr = (if b = true then 1 else 0) + n := by
  unfold strM
  rw [h]
  cases b <;> rfl

set_option maxHeartbeats 3200000 in
theorem changesOf {lo hi : Nat} (F C L cap : Nat) (a : Option Addr) (xs : List Int) (c : Int) (w : World) (hF : w.cell? ⟨F, 0, none⟩ = some (.slice a L cap)) (hC : w.cell? ⟨C, 0, none⟩ = some (.int .i64 c)) (hf : w.frozen? ⟨F, 0, none⟩ = false) (hne : F ≠ C) (h : RdI lo hi w (.slice a L cap) xs) (hl : xs.length = L) (hL : L ≤ 100) :
    Calls Try.prog 96 #[.func (Fn.func 109) #[] #[.pointer (some ⟨F, 0, none⟩), .pointer (some ⟨C, 0, none⟩)]] w fun e w' => e = .returned (.int .i64 (chK (rk xs c L) L).1) ∧ Chg F (F + 1) w w' := by
  have HSTEP := Lib.hid (fun (q : Nat) (lo' hi' : Nat) (a' : Option Addr) (cap' : Nat) (W : World) (hq : q < L) (h1 : W.cell? ⟨F, 0, none⟩ = some (.slice a' (L - q) cap')) (h2 : W.cell? ⟨C, 0, none⟩ = some (.int .i64 c)) (h3 : W.frozen? ⟨F, 0, none⟩ = false) (h4 : RdI lo' hi' W (.slice a' (L - q) cap') (qk xs c L q)) =>
    show Calls Try.prog 109 #[.pointer (some ⟨F, 0, none⟩), .pointer (some ⟨C, 0, none⟩)] W fun e w' => e = .returned (.tuple #[.int .i64 (rk xs c L q), .bool true]) ∧ ∃ b' off' cap'', w'.cell? ⟨F, 0, none⟩ = some (.slice (some ⟨b', off', none⟩) (L - (q + 1)) cap'') ∧ w'.frozen? ⟨F, 0, none⟩ = false ∧ w'.cell? ⟨C, 0, none⟩ = some (.int .i64 c) ∧ RdI W.heap.size w'.heap.size w' (.slice (some ⟨b', off', none⟩) (L - (q + 1)) cap'') (qk xs c L (q + 1)) ∧ Chg F (F + 1) W w' by
      obtain ⟨b, off, rfl, _⟩ := h4.at (qk_len hl c q) 0 (by omega)
      have := shClo F C b off (L - q) cap' (qk xs c L q) c W h1 h2 h3 hne h4 (qk_len hl c q) (by omega) (by omega)
      have e1 : L - q - 1 = L - (q + 1) := by omega
      rw [e1] at this
      have e2 : hs (qk xs c L q) c (L - q) (L - (q + 1)) = rk xs c L q := by unfold rk; rw [e1]
      rw [e2] at this
      exact this)
  have HEND := Lib.hid (fun (a' : Option Addr) (cap' : Nat) (W : World) (h1 : W.cell? ⟨F, 0, none⟩ = some (.slice a' 0 cap')) => shClo_end F C cap' a' W h1)
  have HBD := Lib.hid (fun q => chK_bd (rk xs c L) q)
  have HR0 := Lib.hid (⟨hF, hC, hf, h⟩ : _ ∧ _ ∧ _ ∧ _)
  have HQL := Lib.hid (fun q => qk_len hl c q)
  have hq0 : qk xs c L 0 = xs := rfl
  have HQ0 := Lib.hid hq0
  have HST := Lib.hid (fun q => show chK (rk xs c L) (q + 1) = chS (chK (rk xs c L) q) (rk xs c L q) from rfl)
  have HS0 := Lib.hid (show chK (rk xs c L) 0 = (0, 0) from rfl)
  generalize rk xs c L = f at HSTEP HBD HST HS0 ⊢
  clear hF hC hf hne h hl hq0
  go_enter Try.func96, Try.ntmps96
  by_cases h0 : L = 0
  · subst h0
    go_wp2_with fail
    refine (HEND.out a cap w HR0.out.1).mono ?_
    rintro e w1 ⟨rfl, q1⟩
    have HQT := Lib.hid q1
    clear q1
    go_wp2
    refine wp_loop_rounds 1 ?_
    rw [rounds_succ]
    go_wp2
    go_ret
    exact ⟨by rw [HS0.out]; rfl, HQT.out.below.chg _ _⟩
  · go_wp2_with fail
    refine (HSTEP.out 0 _ _ a cap w (by omega) (by rw [Nat.sub_zero]; exact HR0.out.1) HR0.out.2.1 HR0.out.2.2.1 (by rw [Nat.sub_zero, HQ0.out]; exact HR0.out.2.2.2)).mono ?_
    rintro e w1 ⟨rfl, b1, off1, cap1, k1, k2, k3, k4, k5⟩
    have HI1 := Lib.hid (⟨k1, k2, k3, k4, k5⟩ : _ ∧ _ ∧ _ ∧ _ ∧ _)
    clear k1 k2 k3 k4 k5 HR0
    go_wp2
    go_loopw [3, 4, 5, 6] (fun ch bf nm mo wr => ∃ (q : Nat) (y : Int) (a' : Option Addr) (cap' lo' hi' : Nat), q ≤ L ∧ mo = .bool (decide (q < L)) ∧ nm = .int .i64 y ∧ (q < L → y = f q) ∧ ch = .int .i64 (chK f q).1 ∧ bf = .int .i64 (chK f q).2 ∧ wr.cell? ⟨F, 0, none⟩ = some (.slice a' (L - (q + 1)) cap') ∧ wr.frozen? ⟨F, 0, none⟩ = false ∧ wr.cell? ⟨C, 0, none⟩ = some (.int .i64 c) ∧ RdI lo' hi' wr (.slice a' (L - (q + 1)) cap') (qk xs c L (q + 1)) ∧ Chg F (F + 1) w wr) (fun ch bf nm mo wr => strM F mo wr)
    case atStart => exact ⟨0, f 0, _, _, _, _, Nat.zero_le _, by rw [decide_eq_true (by omega)], rfl, fun _ => rfl, by rw [HS0.out], by rw [HS0.out], HI1.out⟩
    case round =>
      clear HI1
      obtain ⟨q, y, a', cap', lo', hi', hq, rfl, rfl, hy, rfl, rfl, k1, k2, k3, k4, k5⟩ := hrel
      by_cases hlt : q < L
      · have HM : Hid (strM F (.bool true) wr = L - q) := Lib.hid (by rw [strM_at (b := true) k1]; simp only [if_true]; omega)
        rw [decide_eq_true hlt]
        replace hy := hy hlt
        have hst := HST.out q
        rw [← hy] at hst
        have hbd := HBD.out q
        obtain ⟨A0, B0, hAB⟩ : ∃ A0 B0, chK f q = (A0, B0) := ⟨(chK f q).1, (chK f q).2, rfl⟩
        rw [hAB] at hst hbd ⊢
        simp only [] at hbd ⊢
        obtain ⟨sg, hsg⟩ : ∃ sg, sg = cmpI y 0 := ⟨_, rfl⟩
        have hstz : y = 0 → chK f (q + 1) = (A0, B0) := fun h => by rw [hst]; unfold chS; rw [if_pos h]
        have hsts : ¬ y = 0 → sg = -B0 → chK f (q + 1) = (A0 + 1, sg) := fun h h2 => by rw [hst]; unfold chS; rw [if_neg h, ← hsg, if_pos h2]
        have hstn : ¬ y = 0 → ¬ sg = -B0 → chK f (q + 1) = (A0, sg) := fun h h2 => by rw [hst]; unfold chS; rw [if_neg h, ← hsg, if_neg h2]
        have HZ := Lib.hid hstz
        have HSS := Lib.hid hsts
        have HSN := Lib.hid hstn
        have hsg0 : (sg = 0) ↔ (y = 0) := by rw [hsg]; unfold cmpI; constructor <;> intro h <;> (split at * <;> (try split at *) <;> omega)
        have HK := Lib.hid (⟨k1, k2, k3, k4, k5⟩ : _ ∧ _ ∧ _ ∧ _ ∧ _)
        have HSG := Lib.hid (⟨hsg, hbd, hsg0⟩ : _ ∧ _ ∧ _)
        clear hst hstz hsts hstn hAB hsg k1 k2 k3 k4 k5 hy hbd hsg0
        go_wp2_with fail
        refine (cmpCompare y 0 wr).mono ?_
        rw [← HSG.out.1]
        rintro e w2 ⟨rfl, q2⟩
        have k1 := q2.cell HK.out.1
        have k2 := q2.below.keepf (World.block_lt_of_cell? wr _ HK.out.1) HK.out.2.1
        have k3 := q2.cell HK.out.2.2.1
        have k4 := HK.out.2.2.2.1.qt q2
        have k5 := HK.out.2.2.2.2.trans (q2.below.chg F (F + 1))
        clear q2 HK
        by_cases hz : y = 0
        · have hs0 : sg = 0 := HSG.out.2.2.2 hz
          have HT := Lib.hid (HZ.out hz)
          clear hz
          subst hs0
          by_cases hq1 : q + 1 < L
          · have HNX := Lib.hid (HSTEP.out (q + 1) _ _ a' cap' w2 hq1 k1 k3 k2 k4)
            have H2 := Lib.hid k5
            clear k1 k2 k3 k4 k5
            go_wp2_with fail
            refine HNX.out.mono ?_
            rintro e w3 ⟨rfl, b3, off3, cap3, j1, j2, j3, j4, j5⟩
            have HF := Lib.hid (⟨j1, j2, j3, j4, H2.out.trans j5⟩ : _ ∧ _ ∧ _ ∧ _ ∧ _)
            clear j1 j2 j3 j4 j5 HNX
            go_wp2
            go_roundw
            case rel => exact ⟨q + 1, f (q + 1), _, _, _, _, by omega, by rw [decide_eq_true hq1], rfl, fun _ => rfl, by rw [HT.out], by rw [HT.out], HF.out⟩
            case measure => rw [strM_at (b := true) HF.out.1, HM.out, if_pos rfl]; omega
          · have hq2 : L - (q + 1) = 0 := by omega
            rw [hq2] at k1
            have HNX := Lib.hid (HEND.out a' cap' w2 k1)
            have H2 := Lib.hid (⟨k1, k2, k3, k4, k5⟩ : _ ∧ _ ∧ _ ∧ _ ∧ _)
            clear k1 k2 k3 k4 k5
            go_wp2_with fail
            refine HNX.out.mono ?_
            rintro e w3 ⟨rfl, q3⟩
            have HF : Hid (w3.cell? ⟨F, 0, none⟩ = some (.slice a' (L - (q + 1 + 1)) cap') ∧ w3.frozen? ⟨F, 0, none⟩ = false ∧ w3.cell? ⟨C, 0, none⟩ = some (.int .i64 c) ∧ RdI 0 w3.heap.size w3 (.slice a' (L - (q + 1 + 1)) cap') (qk xs c L (q + 1 + 1)) ∧ Chg F (F + 1) w w3) := Lib.hid (by
              obtain ⟨j1, j2, j3, j4, j5⟩ := H2.out
              have hl2 := HQL.out (q + 1 + 1)
              have h9 : L - (q + 1 + 1) = 0 := by omega
              rw [h9] at hl2 ⊢
              refine ⟨q3.cell j1, q3.below.keepf (World.block_lt_of_cell? w2 _ j1) j2, q3.cell j3, ?_, j5.trans (q3.below.chg _ _)⟩
              exact ⟨by omega, fun x hx => (by rw [List.eq_nil_of_length_eq_zero hl2] at hx; cases hx), .inl ⟨_, _, List.eq_nil_of_length_eq_zero hl2, rfl⟩⟩)
            clear q3 HNX
            go_wp2
            go_roundw
            case rel => exact ⟨q + 1, 0, _, _, _, _, by omega, by rw [decide_eq_false hq1], rfl, fun h => absurd h hq1, by rw [HT.out], by rw [HT.out], HF.out⟩
            case measure => rw [strM_at (b := false) HF.out.1, HM.out, if_neg (by decide)]; omega
        · have hs0 : ¬ sg = 0 := fun h => hz (HSG.out.2.2.1 h)
          have hsb : (sg == 0) = false := by simpa using hs0
          have hbd := HSG.out.2.1
          have n1 : IntKind.i64.wrap (-B0) = -B0 := IntWalk.i64_in _ (by omega)
          have n2 : wrap64 (-B0) = -B0 := IntWalk.wrap64_in _ (by clear n1; omega)
          by_cases he : sg = -B0
          · have heb : (sg == -B0) = true := by simpa using he
            have n3 : IntKind.i64.wrap (A0 + 1) = A0 + 1 := IntWalk.i64_in _ (by clear n1 n2; omega)
            have n4 : wrap64 (A0 + 1) = A0 + 1 := IntWalk.wrap64_in _ (by clear n1 n2 n3; omega)
            have HT := Lib.hid (HSS.out hz he)
            clear hz he hbd hs0
            by_cases hq1 : q + 1 < L
            · have HNX := Lib.hid (HSTEP.out (q + 1) _ _ a' cap' w2 hq1 k1 k3 k2 k4)
              have H2 := Lib.hid k5
              clear k1 k2 k3 k4 k5
              go_wp2_with fail
              refine HNX.out.mono ?_
              rintro e w3 ⟨rfl, b3, off3, cap3, j1, j2, j3, j4, j5⟩
              have HF := Lib.hid (⟨j1, j2, j3, j4, H2.out.trans j5⟩ : _ ∧ _ ∧ _ ∧ _ ∧ _)
              clear j1 j2 j3 j4 j5 HNX
              go_wp2
              go_roundw
              case rel => exact ⟨q + 1, f (q + 1), _, _, _, _, by omega, by rw [decide_eq_true hq1], rfl, fun _ => rfl, by rw [HT.out], by rw [HT.out], HF.out⟩
              case measure => rw [strM_at (b := true) HF.out.1, HM.out, if_pos rfl]; omega
            · have hq2 : L - (q + 1) = 0 := by omega
              rw [hq2] at k1
              have HNX := Lib.hid (HEND.out a' cap' w2 k1)
              have H2 := Lib.hid (⟨k1, k2, k3, k4, k5⟩ : _ ∧ _ ∧ _ ∧ _ ∧ _)
              clear k1 k2 k3 k4 k5
              go_wp2_with fail
              refine HNX.out.mono ?_
              rintro e w3 ⟨rfl, q3⟩
              have HF : Hid (w3.cell? ⟨F, 0, none⟩ = some (.slice a' (L - (q + 1 + 1)) cap') ∧ w3.frozen? ⟨F, 0, none⟩ = false ∧ w3.cell? ⟨C, 0, none⟩ = some (.int .i64 c) ∧ RdI 0 w3.heap.size w3 (.slice a' (L - (q + 1 + 1)) cap') (qk xs c L (q + 1 + 1)) ∧ Chg F (F + 1) w w3) := Lib.hid (by
                obtain ⟨j1, j2, j3, j4, j5⟩ := H2.out
                have hl2 := HQL.out (q + 1 + 1)
                have h9 : L - (q + 1 + 1) = 0 := by omega
                rw [h9] at hl2 ⊢
                refine ⟨q3.cell j1, q3.below.keepf (World.block_lt_of_cell? w2 _ j1) j2, q3.cell j3, ?_, j5.trans (q3.below.chg _ _)⟩
                exact ⟨by omega, fun x hx => (by rw [List.eq_nil_of_length_eq_zero hl2] at hx; cases hx), .inl ⟨_, _, List.eq_nil_of_length_eq_zero hl2, rfl⟩⟩)
              clear q3 HNX
              go_wp2
              go_roundw
              case rel => exact ⟨q + 1, 0, _, _, _, _, by omega, by rw [decide_eq_false hq1], rfl, fun h => absurd h hq1, by rw [HT.out], by rw [HT.out], HF.out⟩
              case measure => rw [strM_at (b := false) HF.out.1, HM.out, if_neg (by decide)]; omega
          · have heb : (sg == -B0) = false := by simpa using he
            have HT := Lib.hid (HSN.out hz he)
            clear hz he hbd hs0
            by_cases hq1 : q + 1 < L
            · have HNX := Lib.hid (HSTEP.out (q + 1) _ _ a' cap' w2 hq1 k1 k3 k2 k4)
              have H2 := Lib.hid k5
              clear k1 k2 k3 k4 k5
              go_wp2_with fail
              refine HNX.out.mono ?_
              rintro e w3 ⟨rfl, b3, off3, cap3, j1, j2, j3, j4, j5⟩
              have HF := Lib.hid (⟨j1, j2, j3, j4, H2.out.trans j5⟩ : _ ∧ _ ∧ _ ∧ _ ∧ _)
              clear j1 j2 j3 j4 j5 HNX
              go_wp2
              go_roundw
              case rel => exact ⟨q + 1, f (q + 1), _, _, _, _, by omega, by rw [decide_eq_true hq1], rfl, fun _ => rfl, by rw [HT.out], by rw [HT.out], HF.out⟩
              case measure => rw [strM_at (b := true) HF.out.1, HM.out, if_pos rfl]; omega
            · have hq2 : L - (q + 1) = 0 := by omega
              rw [hq2] at k1
              have HNX := Lib.hid (HEND.out a' cap' w2 k1)
              have H2 := Lib.hid (⟨k1, k2, k3, k4, k5⟩ : _ ∧ _ ∧ _ ∧ _ ∧ _)
              clear k1 k2 k3 k4 k5
              go_wp2_with fail
              refine HNX.out.mono ?_
              rintro e w3 ⟨rfl, q3⟩
              have HF : Hid (w3.cell? ⟨F, 0, none⟩ = some (.slice a' (L - (q + 1 + 1)) cap') ∧ w3.frozen? ⟨F, 0, none⟩ = false ∧ w3.cell? ⟨C, 0, none⟩ = some (.int .i64 c) ∧ RdI 0 w3.heap.size w3 (.slice a' (L - (q + 1 + 1)) cap') (qk xs c L (q + 1 + 1)) ∧ Chg F (F + 1) w w3) := Lib.hid (by
                obtain ⟨j1, j2, j3, j4, j5⟩ := H2.out
                have hl2 := HQL.out (q + 1 + 1)
                have h9 : L - (q + 1 + 1) = 0 := by omega
                rw [h9] at hl2 ⊢
                refine ⟨q3.cell j1, q3.below.keepf (World.block_lt_of_cell? w2 _ j1) j2, q3.cell j3, ?_, j5.trans (q3.below.chg _ _)⟩
                exact ⟨by omega, fun x hx => (by rw [List.eq_nil_of_length_eq_zero hl2] at hx; cases hx), .inl ⟨_, _, List.eq_nil_of_length_eq_zero hl2, rfl⟩⟩)
              clear q3 HNX
              go_wp2
              go_roundw
              case rel => exact ⟨q + 1, 0, _, _, _, _, by omega, by rw [decide_eq_false hq1], rfl, fun h => absurd h hq1, by rw [HT.out], by rw [HT.out], HF.out⟩
              case measure => rw [strM_at (b := false) HF.out.1, HM.out, if_neg (by decide)]; omega
      · obtain rfl : q = L := by omega
        rw [decide_eq_false hlt]
        have HF := Lib.hid k5
        clear k1 k2 k3 k4 k5 hy
        go_wp2
        go_ret
        exact ⟨rfl, HF.out⟩

end Go.Proofs.Ytkhfhdmhhkfehaa
