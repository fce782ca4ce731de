/- FireVertex of the model. -/
import Derived.Test.YtnblhkhdilkbeaaFvI
import Derived.Test.YtnblhkhdilkbeaaAdjMat
import Derived.Deep.RegionHeld3
import Derived.StillTailTactics
set_option linter.unusedSimpArgs false
set_option linter.unusedVariables false
set_option maxRecDepth 100000
namespace Go.Proofs.Ytnblhkhdilkbeaa
open Go.RowKit

theorem cell_oth {w : World} {b o b' o' : Nat} {v u : Value} (h : w.cell? ⟨b, o, none⟩ = some v) (hne : b ≠ b' ∨ o ≠ o') : (w.setCell ⟨b', o', none⟩ u).cell? ⟨b, o, none⟩ = some v := by
  rw [World.cell?_setCell_other _ _ _ _ (by simp; omega)]; exact h
def neK (A Lp : Nat → Nat → Int) (i j : Nat) : Nat → Nat → Int := fun a b => if a < i then Lp a b else if a = i ∧ b < j then -(A a b) else A a b
theorem neK_0 (A Lp : Nat → Nat → Int) : neK A Lp 0 0 = A := by
  funext a b; unfold neK; rw [if_neg (by omega), if_neg (by omega)]
theorem neK_at (A Lp : Nat → Nat → Int) (i j : Nat) : neK A Lp i j i j = A i j := by unfold neK; rw [if_neg (by omega), if_neg (by omega)]
theorem neK_put (A Lp : Nat → Nat → Int) (i j : Nat) : put (neK A Lp i j) i j (-(A i j)) = neK A Lp i (j + 1) := by
  funext a b
  unfold put neK
  by_cases h : a = i ∧ b = j
  · obtain ⟨rfl, rfl⟩ := h
    rw [if_pos ⟨rfl, rfl⟩, if_neg (by omega), if_pos ⟨rfl, by omega⟩]
  · rw [if_neg h]
    have : (a = i ∧ b < j) ↔ (a = i ∧ b < j + 1) := by omega
    simp only [this]
theorem neK_diag (A Lp : Nat → Nat → Int) {S i : Nat} (hi : i < S) : neK A Lp i S i i = -(A i i) := by unfold neK; rw [if_neg (by omega), if_pos ⟨rfl, hi⟩]
theorem neK_next {A Lp : Nat → Nat → Int} {d : Nat → Int} (h : ∀ i j, Lp i j = (if i = j then d i else 0) - A i j) {S i : Nat} (hi : i < S) : tab S (put (neK A Lp i S) i i (-(A i i) + d i)) = tab S (neK A Lp (i + 1) 0) := tab_congr fun a b ha hb => by
  unfold put neK
  by_cases e : a = i ∧ b = i
  · obtain ⟨rfl, rfl⟩ := e
    rw [if_pos ⟨rfl, rfl⟩, if_pos (by omega), h, if_pos rfl]; omega
  · rw [if_neg e]
    by_cases e1 : a < i
    · rw [if_pos e1, if_pos (by omega)]
    · rw [if_neg e1]
      by_cases e2 : a = i
      · subst e2
        rw [if_pos ⟨rfl, hb⟩, if_pos (by omega), h, if_neg (by omega)]; omega
      · rw [if_neg (by omega), if_neg (by omega), if_neg (by omega)]
theorem neK_end (A Lp : Nat → Nat → Int) (S : Nat) : tab S (neK A Lp S 0) = tab S Lp := tab_congr fun a b ha hb => by unfold neK; rw [if_pos ha]

set_option maxHeartbeats 3200000 in
theorem l10Laplacian {lo hi : Nat} (S : Nat) (a : Option Addr) (n c : Nat) (xss : List (List Int)) (w : World) (h : RdR lo hi w (.slice a n c) xss) (hn : xss.length = n) (hg : grB (S : Int) xss = true) :
    Calls Try.prog 56 #[.agg #[.int .i64 (S : Int), .slice a n c]] w fun e w' => ∃ a' c', e = .returned (.slice a' S c') ∧ OwR w.heap.size w'.heap.size w' (.slice a' S c') (tab S (lapS (pairs xss) n)) ∧ Below w.heap.size w w' := by
  have hb0 : ∀ o, Below w.heap.size w (w.alloc o) := fun o => (Below.refl _ _).alloc (Nat.le_refl _) o
  have hg4 := grB_iff hg
  have hS8 : S ≤ 8 := by omega
  have HAD := Lib.hid (fun W (hB : Below w.heap.size w W) => l01Adjacency S a n c xss W (h.below hB) hn hg)
  have hz := adZ_tab hg S
  rw [hn] at hz
  rw [hz] at HAD
  have HDG := Lib.hid (fun W (hB : Below w.heap.size w W) (v : Int) => l01Degree (S : Int) v a n c xss W (h.below hB) hg)
  have HLA := Lib.hid (show ∀ i j : Nat, lapS (pairs xss) n i j = (if i = j then deg xss (i : Int) else 0) - adS (pairs xss) n (i : Int) (j : Int) from fun i j => by
    have := lap_ad hg n (by omega) i j
    rw [List.take_of_length_le (by omega)] at this
    exact this)
  have HDB := Lib.hid (fun v : Int => degL_bd xss v)
  have HAB := Lib.hid (fun x y : Int => adS_bd (pairs xss) n (by omega) x y)
  have HN := Lib.hid (show xss.length ≤ 10 by omega)
  have hn10 : n ≤ 10 := by omega
  generalize lapS (pairs xss) n = Lp at HLA ⊢
  obtain ⟨A, hA⟩ : ∃ A : Nat → Nat → Int, A = fun (i j : Nat) => adS (pairs xss) n (i : Int) (j : Int) := ⟨_, rfl⟩
  rw [← hA] at HAD
  replace HAB := Lib.hid (show ∀ i j, 0 ≤ A i j ∧ A i j ≤ 20 from fun i j => by have := HAB.out (i : Int) (j : Int); rw [hA]; simp only; omega)
  replace HLA := Lib.hid (show ∀ i j : Nat, Lp i j = (if i = j then deg xss (i : Int) else 0) - A i j from fun i j => by rw [HLA.out i j, hA])
  replace HDB := Lib.hid (show ∀ v : Int, 0 ≤ deg xss v ∧ deg xss v ≤ 20 from fun v => by have := HDB.out v; have := HN.out; omega)
  clear h hn hg hg4 hz hA HN
  go_enter Try.func56, Try.ntmps56
  go_wp2_with fail
  refine calls_gen (fun W => Below w.heap.size w W ∧ w.heap.size < W.heap.size ∧ W.cell? ⟨w.heap.size, 0, none⟩ = some (.int .i64 (S : Int)) ∧ W.cell? ⟨w.heap.size, 1, none⟩ = some (.slice a n c)) ⟨hb0 _, by simp, by go_simp, by go_simp⟩ ?_
  rintro W ⟨hB, hz, k0, k1⟩
  refine (HAD.out W hB).mono ?_
  rintro e w1 ⟨a4, c4, rfl, o4, b4⟩
  have HK := Lib.hid (⟨o4, hB.next b4, b4.keep k0, b4.keep k1, hz, b4.size⟩ : _ ∧ _ ∧ _ ∧ _ ∧ _ ∧ _)
  have hz4 := b4.size
  clear o4 b4 hB k0 k1 HAD
  go_wp2
  go_loopw [4] (fun i wr => ∃ k : Nat, k ≤ S ∧ i = .int .i64 k ∧ OwR W.heap.size w1.heap.size wr (.slice a4 S c4) (tab S (neK A Lp k 0)) ∧ Below w.heap.size w wr ∧ wr.cell? ⟨w.heap.size, 0, none⟩ = some (.int .i64 (S : Int)) ∧ wr.cell? ⟨w.heap.size, 1, none⟩ = some (.slice a n c) ∧ w1.heap.size ≤ wr.heap.size) (fun i _ => S - (intOf i).toNat)
  case atStart =>
    obtain ⟨o, b, k0, k1, _⟩ := HK.out
    exact ⟨0, Nat.zero_le _, rfl, by rw [neK_0]; exact o, b, k0, k1, Nat.le_refl _⟩
  case round =>
    obtain ⟨k, hk, rfl, hO, hB, k0, k1, hs⟩ := hrel
    obtain ⟨U, rfl⟩ : ∃ U, U = wr := ⟨_, rfl⟩
    by_cases hlt : k < S
    · have hkI : (k : Int) < (S : Int) := by omega
      have hk0 : (0 : Int) ≤ (k : Int) := by omega
      obtain ⟨g, b, cb, rfl, e2, e3, e4, e5, e6, e7, e8, e9⟩ := hO.ent2 (i := k) (j := k) hlt hlt
      have HOU := Lib.hid (⟨hO, hB, k0, k1, hs, e2⟩ : _ ∧ _ ∧ _ ∧ _ ∧ _ ∧ _)
      have HBB := Lib.hid (⟨Nat.lt_of_lt_of_le hz e5, e5, e6, e8⟩ : w.heap.size < b ∧ W.heap.size ≤ b ∧ b < w1.heap.size ∧ g ≠ b)
      clear e3 e4 e5 e6 e7 e8 e9 hO hB
      go_wp2
      clear e2
      go_loopw [6] (fun i wr => ∃ j : Nat, j ≤ S ∧ i = .int .i64 j ∧ OwR W.heap.size w1.heap.size wr (.slice (some ⟨g, 0, none⟩) S c4) (tab S (neK A Lp k j)) ∧ Below w.heap.size w wr ∧ wr.cell? ⟨w.heap.size, 0, none⟩ = some (.int .i64 (S : Int)) ∧ wr.cell? ⟨w.heap.size, 1, none⟩ = some (.slice a n c) ∧ w1.heap.size ≤ wr.heap.size ∧ wr.cell? ⟨g, k, none⟩ = some (.slice (some ⟨b, 0, none⟩) S cb)) (fun i _ => S - (intOf i).toNat)
      case atStart => exact ⟨0, Nat.zero_le _, rfl, HOU.out⟩
      case round =>
        rename_i hrel
        clear HOU k0 k1
        obtain ⟨j, hj, rfl, hO, hB, k0, k1, hs, e2⟩ := hrel
        by_cases hjt : j < S
        · have hjI : (j : Int) < (S : Int) := by omega
          have hj0 : (0 : Int) ≤ (j : Int) := by omega
          obtain ⟨e3, e4, e5, e6, e7, e8, e9⟩ := hO.row2 hlt hjt e2
          rw [neK_at] at e3
          have hab := HAB.out k j
          have hst := e9 (-(A k j)) (by unfold I64; omega)
          rw [neK_put] at hst
          have hbw := HBB.out.1
          have hcB : b ≠ w.heap.size := by omega
          have HF := Lib.hid (⟨hst, hB.setCell (p := ⟨b, j, none⟩) (Nat.le_of_lt hbw) _, cell_oth k0 (.inl (fun x => hcB x.symm)), cell_oth k1 (.inl (fun x => hcB x.symm)), Nat.le_trans hs (Nat.le_of_eq (World.size_setCell _ _ _).symm), cell_oth e2 (.inl HBB.out.2.2.2)⟩ : OwR W.heap.size w1.heap.size (wr.setCell ⟨b, j, none⟩ (.int .i64 (-(A k j)))) (.slice (some ⟨g, 0, none⟩) S c4) (tab S (neK A Lp k (j + 1))) ∧ Below w.heap.size w (wr.setCell ⟨b, j, none⟩ (.int .i64 (-(A k j)))) ∧ (wr.setCell ⟨b, j, none⟩ (.int .i64 (-(A k j)))).cell? ⟨w.heap.size, 0, none⟩ = some (.int .i64 (S : Int)) ∧ (wr.setCell ⟨b, j, none⟩ (.int .i64 (-(A k j)))).cell? ⟨w.heap.size, 1, none⟩ = some (.slice a n c) ∧ w1.heap.size ≤ (wr.setCell ⟨b, j, none⟩ (.int .i64 (-(A k j)))).heap.size ∧ (wr.setCell ⟨b, j, none⟩ (.int .i64 (-(A k j)))).cell? ⟨g, k, none⟩ = some (.slice (some ⟨b, 0, none⟩) S cb))
          generalize A k j = x at e3 HF hab
          have m1 : IntKind.i64.wrap (-x) = -x := IntWalk.i64_in _ (by clear hst; omega)
          have m2 : wrap64 (-x) = -x := IntWalk.wrap64_in _ (by clear hst m1; omega)
          clear hst hO hB e2 e5 e6 e7 e8 e9 hab k1
          go_wp2
          clear m1 m2
          go_roundw
          case rel => exact ⟨j+1, by omega, by go_num, HF.out⟩
          case measure => simp [intOf]; omega
        · obtain rfl : j = S := by omega
          have hjI : ¬ (j : Int) < (j : Int) := by omega
          obtain ⟨e3, e4, e5, e6, e7, e8, e9⟩ := (hO.qt (Qt.refl wr).drew).row2 hlt hlt e2
          rw [neK_diag A Lp hlt] at e3
          have hab := HAB.out k k
          have hdb := HDB.out (k : Int)
          have hbw := HBB.out.1
          have HD := Lib.hid (HDG.out wr.drew hB.drew (k : Int))
          have HNX := Lib.hid (neK_next (S := j) (d := fun i => deg xss (i : Int)) HLA.out hlt)
          have HOQ := Lib.hid (fun w5 (b5 : Below wr.drew.heap.size wr.drew w5) => (⟨(hO.qt (Qt.refl wr).drew).below b5, hB.drew.next b5, b5.keep k0, b5.keep k1, Nat.le_trans hs b5.size, b5.keep e2⟩ : OwR W.heap.size w1.heap.size w5 (.slice (some ⟨g, 0, none⟩) j c4) (tab j (neK A Lp k j)) ∧ Below w.heap.size w w5 ∧ w5.cell? ⟨w.heap.size, 0, none⟩ = some (.int .i64 (j : Int)) ∧ w5.cell? ⟨w.heap.size, 1, none⟩ = some (.slice a n c) ∧ w1.heap.size ≤ w5.heap.size ∧ w5.cell? ⟨g, k, none⟩ = some (.slice (some ⟨b, 0, none⟩) j cb)))
          have hbs : b < wr.drew.heap.size := e7
          have q0 : wr.drew.cell? ⟨w.heap.size, 0, none⟩ = some (.int .i64 (j : Int)) := k0
          have q1 : wr.drew.cell? ⟨w.heap.size, 1, none⟩ = some (.slice a n c) := k1
          have r3 : wr.cell? ⟨b, k, none⟩ = some (.int .i64 (-(A k k))) := e3
          have r4 : wr.frozen? ⟨b, k, none⟩ = false := e4
          have HXY := Lib.hid (⟨hab, hdb⟩ : _ ∧ _)
          obtain ⟨D, hD⟩ : ∃ D : Int, D = deg xss (k : Int) := ⟨_, rfl⟩
          rw [← hD] at HD hdb
          obtain ⟨x, hx⟩ : ∃ x : Int, x = -(A k k) := ⟨_, rfl⟩
          rw [← hx] at e3 r3
          have HDX := Lib.hid (⟨hD, hx⟩ : _ ∧ _)
          have m1 : IntKind.i64.wrap (x + D) = x + D := IntWalk.i64_in _ (by omega)
          have m2 : wrap64 (x + D) = x + D := IntWalk.wrap64_in _ (by clear m1; omega)
          clear hO hB e2 e5 e6 e7 e8 e9 hab hdb hD hx hs
          go_wp2
          go_region_with (go_at_call 94; refine HD.out.mono ?_; rintro e w5 ⟨rfl, b5⟩; have y0 := b5.keep e3; have y1 := b5.keepf hbs e4)
          all_goals
            have HF := Lib.hid (HOQ.out w5 b5)
            clear y0 y1 m1 m2 e3 e4 r3 r4 q0 q1 k0 k1 HOQ HD b5
            obtain ⟨hO, hB, k0, k1, hs, e2⟩ := HF.out
            obtain ⟨_, _, _, _, _, _, e9⟩ := hO.row2 hlt hlt e2
            have hxy := HXY.out
            have hdx := HDX.out
            have hst := e9 (-(A k k) + deg xss (k : Int)) (by unfold I64; omega)
            rw [HNX.out] at hst
            have hbw := HBB.out.1
            have hcB : b ≠ w.heap.size := by omega
            have HG := Lib.hid (⟨hst, hB.setCell (p := ⟨b, k, none⟩) (Nat.le_of_lt hbw) _, cell_oth k0 (.inl (fun x => hcB x.symm)), cell_oth k1 (.inl (fun x => hcB x.symm)), Nat.le_trans hs (Nat.le_of_eq (World.size_setCell _ _ _).symm)⟩ : OwR W.heap.size w1.heap.size (w5.setCell ⟨b, k, none⟩ (.int .i64 (-(A k k) + deg xss (k : Int)))) (.slice (some ⟨g, 0, none⟩) j c4) (tab j (neK A Lp (k + 1) 0)) ∧ Below w.heap.size w (w5.setCell ⟨b, k, none⟩ (.int .i64 (-(A k k) + deg xss (k : Int)))) ∧ (w5.setCell ⟨b, k, none⟩ (.int .i64 (-(A k k) + deg xss (k : Int)))).cell? ⟨w.heap.size, 0, none⟩ = some (.int .i64 (j : Int)) ∧ (w5.setCell ⟨b, k, none⟩ (.int .i64 (-(A k k) + deg xss (k : Int)))).cell? ⟨w.heap.size, 1, none⟩ = some (.slice a n c) ∧ w1.heap.size ≤ (w5.setCell ⟨b, k, none⟩ (.int .i64 (-(A k k) + deg xss (k : Int)))).heap.size)
            rw [← hdx.1, ← hdx.2] at HG
            clear hst e9 hO hB k0 k1 hs e2 HF hxy hdx HXY HDX HNX
            go_wp2
            go_roundw
            case rel => exact ⟨k+1, by omega, by go_num, HG.out⟩
            case measure => simp [intOf]; omega
    · obtain rfl : k = S := by omega
      rw [neK_end] at hO
      have HF := Lib.hid (⟨hO.mono (Nat.le_of_lt hz) hs, hB⟩ : OwR w.heap.size U.heap.size U (.slice a4 k c4) (tab k Lp) ∧ _)
      have hkI : ¬ (k : Int) < (k : Int) := by omega
      clear hO hB k1
      go_wp2
      go_ret
      exact ⟨a4, c4, rfl, HF.out⟩
end Go.Proofs.Ytnblhkhdilkbeaa
