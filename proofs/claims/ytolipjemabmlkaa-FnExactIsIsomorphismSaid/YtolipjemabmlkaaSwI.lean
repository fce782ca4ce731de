/- Sets that switch, by the program. -/
import Derived.Test.YtolipjemabmlkaaSwP
import Derived.Test.YtolipjemabmlkaaSimI
set_option linter.unusedSimpArgs false
set_option linter.unusedVariables false
set_option maxRecDepth 100000
namespace Go.Proofs.Ytolipjemabmlkaa
open Go.RowKit

set_option maxHeartbeats 1600000 in
theorem isVertexSet {lo hi : Nat} (s : Int) (a : Option Addr) (n c : Nat) (a1 : Option Addr) (n1 c1 : Nat) (xs : List Int) (w : World) (h1 : RdI lo hi w (.slice a1 n1 c1) xs) (hl : xs.length = n1) :
    Calls Try.prog 128 #[.agg #[.int .i64 s, .slice a n c], .slice a1 n1 c1] w fun e w' => e = .returned (.bool (setB s xs)) ∧ Below w.heap.size w w' := by
  have hb0 : ∀ o, Below w.heap.size w (w.alloc o) := fun o => (Below.refl _ _).alloc (Nat.le_refl _) o
  have HC := Lib.hid (fun W (hB : Below w.heap.size w W) => (h1.below hB).at hl)
  have hn17 := h1.1
  rw [hl] at hn17
  have HNO := Lib.hid (fun k (hk : k < n1) (e : stOk s xs k = false) => setB_no (by rw [hl]; exact hk) e)
  have HYES := Lib.hid (fun (h : ∀ k, k < n1 → stOk s xs k = true) => setB_yes (s := s) (xs := xs) (fun k hk => h k (by rw [← hl]; exact hk)))
  have HST := Lib.hid (fun k => show stOk s xs k = (decide (bfS xs k < xs.getD k 0) && inR (xs.getD k 0) s) from rfl)
  have HBF := Lib.hid (fun k => show bfS xs (k + 1) = xs.getD k 0 from rfl)
  have HB0 := Lib.hid (show bfS xs 0 = -1 from rfl)
  generalize setB s xs = R at HNO HYES ⊢
  generalize stOk s xs = ok at HNO HYES HST
  generalize bfS xs = bf at HST HBF HB0
  clear h1 hl
  go_enter Try.func128, Try.ntmps128
  go_wp2
  have HP0 := Lib.hid (⟨hb0 (.cells #[.int .i64 s, .slice a n c] 29), by go_simp⟩ : _ ∧ (w.alloc (.cells #[.int .i64 s, .slice a n c] 29)).cell? ⟨w.heap.size, 0, none⟩ = some (.int .i64 s))
  generalize w.alloc (.cells #[.int .i64 s, .slice a n c] 29) = V at HP0 ⊢
  obtain ⟨X, hX⟩ : ∃ X, X = w.heap.size := ⟨_, rfl⟩
  rw [← hX] at HP0 ⊢
  have HX := Lib.hid hX
  clear hX hb0
  go_loopw [5, 10] (fun b v wr => ∃ (k : Nat) (y : Int), k ≤ n1 ∧ v = .int .i64 k ∧ b = .int .i64 y ∧ Hid (y = bf k ∧ ∀ j, j < k → ok j = true) ∧ Below X w wr ∧ wr.cell? ⟨X, 0, none⟩ = some (.int .i64 s)) (fun _ v _ => n1 - (intOf v).toNat)
  case atStart => exact ⟨0, -1, Nat.zero_le _, rfl, rfl, Lib.hid ⟨HB0.out.symm, fun j hj => by omega⟩, HP0.out⟩
  case round =>
    clear HP0
    obtain ⟨k, y, hk, rfl, rfl, HY, hB, k0⟩ := hrel
    by_cases hlt : k < n1
    · have hB' := hB
      rw [HX.out] at hB'
      obtain ⟨b, off, rfl, g1⟩ := HC.out wr hB' k hlt
      have hst := HST.out k
      have hbf := HBF.out k
      have hno := HNO.out k hlt
      rw [← HY.out.1] at hst
      obtain ⟨x, hx⟩ : ∃ x, x = xs.getD k 0 := ⟨_, rfl⟩
      rw [← hx] at g1 hst hbf
      have hkn : (k : Int) < (n1 : Int) := by omega
      have HBB := Lib.hid hB
      clear hx hB hB'
      by_cases hyx : y < x
      · have hle : ¬ x ≤ y := by omega
        have hbb : decide (x ≤ y) = false := decide_eq_false hle
        have hcc : decide (y < x) = true := decide_eq_true hyx
        cases hr : inR x s with
        | true =>
          have hok : ok k = true := by rw [hst, hr, hcc]; rfl
          have HN := Lib.hid (⟨hbf.symm, fun j (hj : j < k + 1) => show ok j = true by
            by_cases e : j = k
            · subst e; exact hok
            · exact HY.out.2 j (by omega)⟩ : x = bf (k + 1) ∧ ∀ j, j < k + 1 → ok j = true)
          clear hst hbf hno hok HY hcc hyx
          go_wp2_with fail
          refine (isIndexV x s true hr _).mono ?_
          rintro e w5 ⟨rfl, q5⟩
          have HF := Lib.hid (⟨HBB.out.trans (q5.below.mono (by have := HBB.out.size; have := HX.out; omega)), q5.cell k0⟩ : _ ∧ _)
          clear q5 k0 g1
          go_wp2
          go_roundw
          case rel => exact ⟨k+1, x, by omega, by go_num, rfl, HN, HF.out⟩
          case measure => simp [intOf]; omega
        | false =>
          have hok : ok k = false := by rw [hst, hr, hcc]; rfl
          have HF0 := Lib.hid (hno hok)
          clear hst hbf hno hok HY hcc hyx
          go_wp2_with fail
          refine (isIndexV x s false hr _).mono ?_
          rintro e w5 ⟨rfl, q5⟩
          have HF := Lib.hid (HBB.out.trans (q5.below.mono (by have := HBB.out.size; have := HX.out; omega)))
          clear q5 k0 g1
          go_wp2
          go_ret
          exact ⟨by rw [HF0.out]; rfl, by rw [← HX.out]; exact HF.out⟩
      · have hbb : decide (x ≤ y) = true := decide_eq_true (by omega)
        have hcc : decide (y < x) = false := decide_eq_false hyx
        have hok : ok k = false := by rw [hst, hcc]; rfl
        have HF0 := Lib.hid (hno hok)
        have hle : x ≤ y := by omega
        clear hst hbf hno hok HY hcc hyx
        go_wp2
        go_ret
        exact ⟨by rw [HF0.out]; rfl, by rw [← HX.out]; exact HBB.out⟩
    · obtain rfl : k = n1 := by omega
      have HF0 := Lib.hid (HYES.out HY.out.2)
      have HBB := Lib.hid hB
      clear HY k0 hB
      go_wp2
      go_ret
      exact ⟨by rw [HF0.out]; rfl, by rw [← HX.out]; exact HBB.out⟩

set_option maxHeartbeats 1600000 in
theorem slIndexM {lo hi : Nat} (a : Option Addr) (n c : Nat) (xs : List Int) (v : Nat) (w : World) (h : RdI lo hi w (.slice a n c) xs) (hl : xs.length = n) :
    Calls Try.prog 129 #[.slice a n c, .int .i64 v] w fun e w' => (∃ r : Int, e = .returned (.int .i64 r) ∧ (decide (0 ≤ r)) = memB xs v) ∧ Qt w w' := by
  have HC := Lib.hid (fun W (hq : Qt w W) => (h.qt hq).at hl)
  have hn17 := h.1
  rw [hl] at hn17
  have HYES := Lib.hid (fun k (hk : k < n) (e : xs.getD k 0 = (v : Int)) => memB_yes (by rw [hl]; exact hk) e)
  have HNO := Lib.hid (fun (h : ∀ k, k < n → xs.getD k 0 ≠ (v : Int)) => memB_no (xs := xs) (v := v) (fun k hk => h k (by rw [← hl]; exact hk)))
  generalize memB xs v = R at HNO HYES ⊢
  clear h hl
  go_enter Try.func129, Try.ntmps129
  go_wp2
  go_loopw [8] (fun i wr => ∃ k : Nat, k ≤ n ∧ i = .int .i64 k ∧ Qt w wr ∧ Hid (∀ j, j < k → xs.getD j 0 ≠ (v : Int))) (fun i _ => n - (intOf i).toNat)
  case atStart => exact ⟨0, Nat.zero_le _, rfl, Qt.refl _, Lib.hid (fun j hj => by omega)⟩
  case round =>
    obtain ⟨k, hk, rfl, hq, HA⟩ := hrel
    by_cases hlt : k < n
    · obtain ⟨b, off, rfl, g1⟩ := HC.out wr hq k hlt
      have hkn : (k : Int) < (n : Int) := by omega
      obtain ⟨x, hx⟩ : ∃ x, x = xs.getD k 0 := ⟨_, rfl⟩
      rw [← hx] at g1
      have HXX := Lib.hid hx
      clear hx
      by_cases he : (v : Int) = x
      · have HF := Lib.hid (HYES.out k hlt (by rw [← HXX.out]; exact he.symm))
        subst he
        clear HA
        go_wp2
        go_ret
        exact ⟨⟨(k : Int), rfl, by rw [HF.out]; exact decide_eq_true (by omega)⟩, hq⟩
      · have hb : ((v : Int) == x) = false := by simpa using he
        have HN := Lib.hid (fun j (hj : j < k + 1) => show xs.getD j 0 ≠ (v : Int) by
          by_cases e : j = k
          · subst e; rw [← HXX.out]; exact fun e2 => he e2.symm
          · exact HA.out j (by omega))
        clear he HA
        go_wp2
        go_roundw
        case rel => exact ⟨k+1, by omega, by go_num, hq, HN⟩
        case measure => simp [intOf]; omega
    · obtain rfl : k = n := by omega
      have HF := Lib.hid (HNO.out HA.out)
      clear HA
      go_wp2
      go_ret
      exact ⟨⟨-1, rfl, by rw [HF.out]; rfl⟩, hq⟩

set_option maxHeartbeats 800000 in
theorem slContains {lo hi : Nat} (a : Option Addr) (n c : Nat) (xs : List Int) (v : Nat) (w : World) (h : RdI lo hi w (.slice a n c) xs) (hl : xs.length = n) :
    Calls Try.prog 96 #[.slice a n c, .int .i64 v] w fun e w' => e = .returned (.bool (memB xs v)) ∧ Qt w w' := by
  have HI := Lib.hid (slIndexM a n c xs v w h hl)
  generalize memB xs v = R at HI ⊢
  clear h hl
  go_enter Try.func96, Try.ntmps96
  go_wp2_with fail
  refine HI.out.mono ?_
  rintro e w5 ⟨⟨r, rfl, hr⟩, q5⟩
  subst hr
  go_wp2
  go_ret
  exact ⟨rfl, q5⟩

set_option maxHeartbeats 1600000 in
theorem neighboursIn {lo hi lo1 hi1 : Nat} (S : Nat) (r : Nat → Int) (a : Option Addr) (c : Nat) (a1 : Option Addr) (n1 c1 : Nat) (xs : List Int) (w : World) (h : RdI lo hi w (.slice a S c) ((List.range S).map r)) (h1 : RdI lo1 hi1 w (.slice a1 n1 c1) xs) (hl : xs.length = n1) (hS8 : S ≤ 8) (hn8 : n1 ≤ 8) (hx : ∀ k, k < n1 → ∃ m : Nat, xs.getD k 0 = (m : Int) ∧ m < S) :
    Calls Try.prog 97 #[.slice a1 n1 c1, .slice a S c] w fun e w' => e = .returned (.int .i64 (nbR r xs n1 : Int)) ∧ Qt w w' := by
  have HC := Lib.hid (fun W (hq : Qt w W) => (h1.qt hq).at hl)
  have HR := Lib.hid (fun W (hq : Qt w W) j (hj : j < S) => show ∃ b off, a = some ⟨b, off, none⟩ ∧ W.cell? ⟨b, off + j, none⟩ = some (.int .i64 (r j)) by
    obtain ⟨b, off, e1, e2⟩ := (h.qt hq).at (by simp) j hj
    rw [map_get r hj] at e2
    exact ⟨b, off, e1, e2⟩)
  have HXN := Lib.hid hx
  have HNB := Lib.hid (fun k => show nbR r xs (k + 1) = if r (xs.getD k 0).toNat = 0 then nbR r xs k else nbR r xs k + 1 from rfl)
  have HN0 := Lib.hid (show nbR r xs 0 = 0 from rfl)
  have HNL := Lib.hid (nbR_le r xs)
  generalize nbR r xs = F at HNB HN0 HNL ⊢
  clear h h1 hl hx
  go_enter Try.func97, Try.ntmps97
  go_wp2
  go_loopw [5, 10] (fun d v wr => ∃ k q : Nat, k ≤ n1 ∧ v = .int .i64 k ∧ d = .int .i64 (q : Int) ∧ Hid (q = F k) ∧ Qt w wr) (fun _ v _ => n1 - (intOf v).toNat)
  case atStart => exact ⟨0, 0, Nat.zero_le _, rfl, rfl, Lib.hid HN0.out.symm, Qt.refl _⟩
  case round =>
    obtain ⟨k, q, hk, rfl, rfl, HQ, hq⟩ := hrel
    by_cases hlt : k < n1
    · obtain ⟨b, off, rfl, g1⟩ := HC.out wr hq k hlt
      obtain ⟨m, hm, hmS⟩ := HXN.out k hlt
      have hnb := HNB.out k
      rw [hm] at g1 hnb
      rw [Int.toNat_natCast] at hnb
      obtain ⟨b2, off2, rfl, g2⟩ := HR.out wr hq m hmS
      have hq8 : q ≤ 8 := by have := HNL.out k; have := HQ.out; omega
      have hmSi : (m : Int) < (S : Int) := by omega
      have hkn : (k : Int) < (n1 : Int) := by omega
      rw [← HQ.out] at hnb
      generalize r m = x at g2 hnb
      clear hm HQ
      by_cases h0 : x = 0
      · rw [if_pos h0] at hnb
        subst h0
        have HN := Lib.hid hnb.symm
        clear hnb
        go_wp2
        go_roundw
        case rel => exact ⟨k+1, q, by omega, by go_num, rfl, HN, hq⟩
        case measure => simp [intOf]; omega
      · rw [if_neg h0] at hnb
        have hb : (x != 0) = true := by simpa using h0
        have HN := Lib.hid hnb.symm
        clear hnb h0
        go_wp2
        go_roundw
        case rel => exact ⟨k+1, q+1, by omega, by go_num, by go_num, HN, hq⟩
        case measure => simp [intOf]; omega
    · obtain rfl : k = n1 := by omega
      go_wp2
      go_ret
      exact ⟨by rw [← HQ.out]; rfl, hq⟩

end Go.Proofs.Ytolipjemabmlkaa
