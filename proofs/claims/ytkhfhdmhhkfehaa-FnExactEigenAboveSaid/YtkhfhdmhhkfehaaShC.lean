/- Changes of sign and roots, by the model. -/
import Derived.Test.YtkhfhdmhhkfehaaShT
set_option linter.unusedSimpArgs false
set_option linter.unusedVariables false
set_option maxRecDepth 100000
namespace Go.Proofs.Ytkhfhdmhhkfehaa
open Go.RowKit

theorem cmK_bd (f : Nat → Int) : ∀ n, 0 ≤ (cmK f n).1 ∧ (cmK f n).1 ≤ n
  | 0 => ⟨Int.le_refl 0, Int.le_refl 0⟩
  | n + 1 => by
    have := cmK_bd f n
    unfold cmK
    split
    · omega
    · simp only []; split <;> omega

set_option maxHeartbeats 3200000 in
theorem l07Changes {lo hi : Nat} (n cap : Nat) (a : Option Addr) (ys : List Int) (w : World) (h : RdI lo hi w (.slice a n cap) ys) (hl : ys.length = n) (hn : n ≤ 100) :
    Calls Try.prog 94 #[.slice a n cap] w fun e w' => e = .returned (.int .i64 (cmK (fun j => ys.getD j 0) n).1) ∧ Qt w w' := by
  have HY := Lib.hid (fun W (hq : Qt w W) => (h.qt hq).at hl)
  have HST := Lib.hid (fun i => show cmK (fun j => ys.getD j 0) (i + 1) = if ys.getD i 0 = 0 then cmK (fun j => ys.getD j 0) i else (if (cmK (fun j => ys.getD j 0) i).2 ≠ 0 ∧ ((0 < ys.getD i 0) ≠ (0 < (cmK (fun j => ys.getD j 0) i).2)) then (cmK (fun j => ys.getD j 0) i).1 + 1 else (cmK (fun j => ys.getD j 0) i).1, ys.getD i 0) from rfl)
  have HBD := Lib.hid (cmK_bd (fun j => ys.getD j 0))
  have HK0 := Lib.hid (show cmK (fun j => ys.getD j 0) 0 = (0, 0) from rfl)
  generalize cmK (fun j => ys.getD j 0) = K at HST HBD HK0 ⊢
  clear h hl
  go_enter Try.func94, Try.ntmps94
  go_wp2
  go_loopw [3, 4, 5] (fun ct ls v wr => ∃ i : Nat, i ≤ n ∧ v = .int .i64 i ∧ ct = .int .i64 (K i).1 ∧ ls = .int .i64 (K i).2 ∧ Qt w wr) (fun _ _ v _ => n - (intOf v).toNat)
  case atStart => exact ⟨0, Nat.zero_le _, rfl, by rw [HK0.out], by rw [HK0.out], Qt.refl _⟩
  case round =>
    obtain ⟨i, hi, rfl, rfl, rfl, hq⟩ := hrel
    by_cases hlt : i < n
    · obtain ⟨b, off, rfl, c0⟩ := HY.out wr hq i hlt
      have hst := HST.out i
      have hbd := HBD.out i
      generalize ys.getD i 0 = y at c0 hst
      obtain ⟨A0, B0, hAB⟩ : ∃ A0 B0, K i = (A0, B0) := ⟨(K i).1, (K i).2, rfl⟩
      rw [hAB] at hst hbd ⊢
      simp only [] at hst hbd ⊢
      have hin : (i : Int) < (n : Int) := by omega
      have n3 : IntKind.i64.wrap (A0 + 1) = A0 + 1 := IntWalk.i64_in _ (by omega)
      have n4 : wrap64 (A0 + 1) = A0 + 1 := IntWalk.wrap64_in _ (by clear n3; omega)
      have HN34 := Lib.hid (⟨n3, n4⟩ : _ ∧ _)
      clear hAB hbd n3 n4
      by_cases hz : y = 0
      · rw [if_pos hz] at hst
        have HS := Lib.hid hst
        subst hz
        clear hst
        go_wp2
        go_roundw
        case rel => exact ⟨i + 1, by omega, by go_num, by rw [HS.out], by rw [HS.out], hq⟩
        case measure => simp [intOf]; omega
      · rw [if_neg hz] at hst
        have hyb : (y == 0) = false := by simpa using hz
        by_cases hB : B0 = 0
        · have hBb : (B0 != 0) = false := by simpa using hB
          rw [if_neg (fun x => x.1 hB)] at hst
          have HS := Lib.hid hst
          clear hst hz hB
          go_wp2
          go_roundw
          case rel => exact ⟨i + 1, by omega, by go_num, by rw [HS.out], by rw [HS.out], hq⟩
          case measure => simp [intOf]; omega
        · have hBb : (B0 != 0) = true := by simpa using hB
          by_cases hy : 0 < y
          · by_cases hb : 0 < B0
            · have d1 : decide (0 < y) = true := decide_eq_true hy
              have d2 : decide (0 < B0) = true := decide_eq_true hb
              rw [if_neg (fun x => x.2 (by simp [hy, hb]))] at hst
              have HS := Lib.hid hst
              clear hst hz hB hy hb
              go_wp2
              go_roundw
              case rel => exact ⟨i + 1, by omega, by go_num, by rw [HS.out], by rw [HS.out], hq⟩
              case measure => simp [intOf]; omega
            · have d1 : decide (0 < y) = true := decide_eq_true hy
              have d2 : decide (0 < B0) = false := decide_eq_false hb
              rw [if_pos ⟨hB, by simp [hy, hb]⟩] at hst
              have HS := Lib.hid hst
              obtain ⟨n3, n4⟩ := HN34.out
              clear hst hz hB hy hb
              go_wp2
              go_roundw
              case rel => exact ⟨i + 1, by clear n3 n4; omega, by go_num, by rw [HS.out], by rw [HS.out], hq⟩
              case measure => clear n3 n4; simp [intOf]; omega
          · by_cases hb : 0 < B0
            · have d1 : decide (0 < y) = false := decide_eq_false hy
              have d2 : decide (0 < B0) = true := decide_eq_true hb
              rw [if_pos ⟨hB, by simp [hy, hb]⟩] at hst
              have HS := Lib.hid hst
              obtain ⟨n3, n4⟩ := HN34.out
              clear hst hz hB hy hb
              go_wp2
              go_roundw
              case rel => exact ⟨i + 1, by clear n3 n4; omega, by go_num, by rw [HS.out], by rw [HS.out], hq⟩
              case measure => clear n3 n4; simp [intOf]; omega
            · have d1 : decide (0 < y) = false := decide_eq_false hy
              have d2 : decide (0 < B0) = false := decide_eq_false hb
              rw [if_neg (fun x => x.2 (by simp [hy, hb]))] at hst
              have HS := Lib.hid hst
              clear hst hz hB hy hb
              go_wp2
              go_roundw
              case rel => exact ⟨i + 1, by omega, by go_num, by rw [HS.out], by rw [HS.out], hq⟩
              case measure => simp [intOf]; omega
    · obtain rfl : i = n := by omega
      go_wp2
      go_ret
      exact ⟨rfl, hq⟩

set_option maxHeartbeats 1600000 in
theorem l07Above {lo hi : Nat} (L cap : Nat) (a : Option Addr) (xs : List Int) (c : Int) (w : World) (h : RdI lo hi w (.slice a L cap) xs) (hl : xs.length = L) (hL : L ≤ 30) (hc : I64 c) :
    Calls Try.prog 70 #[.slice a L cap, .int .i64 c] w fun e w' => e = .returned (.int .i64 (chK (rk xs c L) L).1) ∧ Below w.heap.size w w' := by
  have HS := Lib.hid (l07Shift L cap a xs c w h hl hL hc)
  have hsl := shL_len xs c L L
  have HE := Lib.hid (show (cmK (fun j => (shL xs c L L).getD j 0) (shL xs c L L).length).1 = (chK (rk xs c L) L).1 by
    rw [← (cmK_chK _ _).1]
    obtain ⟨d, hd⟩ : ∃ d, L = (shL xs c L L).length + d := ⟨L - (shL xs c L L).length, by omega⟩
    have e1 := chK_skip (f := fun j => (shL xs c L L).getD j 0) (n := (shL xs c L L).length) d (fun k hk => getD_out hk)
    rw [← hd] at e1
    rw [← e1]
    rw [chK_congr L (f := fun j => (shL xs c L L).getD j 0) (g := rk xs c L) (fun k hk => by rw [shL_get, rk_hQ h.2.1 hk])])
  have HL := Lib.hid (show (shL xs c L L).length ≤ 100 by omega)
  clear h hl hc hsl
  go_enter Try.func70, Try.ntmps70
  go_wp2_with fail
  refine HS.out.mono ?_
  rintro e w1 ⟨a1, c1, rfl, ⟨l1, h1, o1⟩, b1⟩
  have HC := Lib.hid (l07Changes _ c1 a1 _ w1 o1 rfl HL.out)
  have HB := Lib.hid b1
  clear o1 b1 HS
  go_wp2_with fail
  refine HC.out.mono ?_
  rintro e w2 ⟨rfl, q2⟩
  have HF := Lib.hid (HB.out.qt q2)
  clear q2 HC
  go_wp2
  go_ret
  exact ⟨by rw [← HE.out]; rfl, HF.out⟩

set_option maxHeartbeats 1600000 in
theorem l07At {lo hi : Nat} (L cap m : Nat) (a : Option Addr) (xs : List Int) (c : Int) (w : World) (h : RdI lo hi w (.slice a L cap) xs) (hl : xs.length = L) (hL : L ≤ 30) (hc : I64 c) (hm : m < L) (hz : ∀ k, k < m → rk xs c L k = 0) (hn : ¬ rk xs c L m = 0) :
    Calls Try.prog 71 #[.slice a L cap, .int .i64 c] w fun e w' => e = .returned (.int .i64 (m : Int)) ∧ Below w.heap.size w w' := by
  have HS := Lib.hid (l07Shift L cap a xs c w h hl hL hc)
  have HG := Lib.hid (fun k (hk : k < L) => show (shL xs c L L).getD k 0 = rk xs c L k by rw [shL_get, rk_hQ h.2.1 hk])
  have hml : m < (shL xs c L L).length := by
    rcases Nat.lt_or_ge m (shL xs c L L).length with h1 | h1
    · exact h1
    · exfalso
      have h2 := HG.out m hm
      rw [getD_out h1] at h2
      exact hn h2.symm
  have hsl := shL_len xs c L L
  have HZ := Lib.hid (fun k (hk : k < m) => show (shL xs c L L).getD k 0 = 0 by rw [HG.out k (by omega), hz k hk])
  have HNZ := Lib.hid (show ¬ (shL xs c L L).getD m 0 = 0 by rw [HG.out m hm]; exact hn)
  generalize shL xs c L L = ys at HS HZ HNZ hml hsl
  obtain ⟨N, hN⟩ : ∃ N, N = ys.length := ⟨_, rfl⟩
  rw [← hN] at HS hml hsl
  have HYN := Lib.hid hN.symm
  clear h hl hc hz hn HG hN
  go_enter Try.func71, Try.ntmps71
  go_wp2_with fail
  refine HS.out.mono ?_
  rintro e w1 ⟨a1, c1, rfl, ⟨l1, h1, o1⟩, b1⟩
  have HY := Lib.hid (fun W (hq : Qt w1 W) => (o1.qt hq).at HYN.out)
  have HB := Lib.hid b1
  clear o1 b1 HS
  go_wp2
  go_loopw [6] (fun v wr => ∃ k : Nat, k ≤ m ∧ v = .int .i64 k ∧ Qt w1 wr) (fun v _ => m - (intOf v).toNat)
  case atStart => exact ⟨0, Nat.zero_le _, rfl, Qt.refl _⟩
  case round =>
    obtain ⟨k, hk, rfl, hq⟩ := hrel
    obtain ⟨b, off, rfl, c0⟩ := HY.out wr hq k (by omega)
    have hkN : (k : Int) < (N : Int) := by omega
    have d0 : decide ((k : Int) < (N : Int)) = true := decide_eq_true hkN
    by_cases hkm : k < m
    · rw [HZ.out k hkm] at c0
      go_wp2
      go_roundw
      case rel => exact ⟨k + 1, by omega, by go_num, hq⟩
      case measure => simp [intOf]; omega
    · obtain rfl : k = m := by omega
      have hnz := HNZ.out
      generalize ys.getD k 0 = y at c0 hnz
      have hyb : (y == 0) = false := by simpa using hnz
      have HF := Lib.hid (HB.out.qt hq)
      clear hnz hq
      go_wp2
      go_ret
      exact ⟨rfl, HF.out⟩

end Go.Proofs.Ytkhfhdmhhkfehaa
