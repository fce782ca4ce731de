/- Sets that switch, by the model. -/
import Derived.Test.YtolipjemabmlkaaSwJ
set_option linter.unusedSimpArgs false
set_option linter.unusedVariables false
set_option maxRecDepth 100000
namespace Go.Proofs.Ytolipjemabmlkaa
open Go.RowKit

set_option maxHeartbeats 1600000 in
theorem l08Outside {lo hi : Nat} (a : Option Addr) (n c : Nat) (xs : List Int) (v : Nat) (w : World) (h : RdI lo hi w (.slice a n c) xs) (hl : xs.length = n) :
    Calls Try.prog 94 #[.slice a n c, .int .i64 v] w fun e w' => e = .returned (.bool (!memB xs v)) ∧ Qt w w' := by
  have HC := Lib.hid (fun W (hq : Qt w W) => (h.qt hq).at hl)
  have hn17 := h.1
  rw [hl] at hn17
  have HYES := Lib.hid (fun k (hk : k < n) (e : xs.getD k 0 = (v : Int)) => memB_yes (by rw [hl]; exact hk) e)
  have HNO := Lib.hid (fun (h : ∀ k, k < n → xs.getD k 0 ≠ (v : Int)) => memB_no (xs := xs) (v := v) (fun k hk => h k (by rw [← hl]; exact hk)))
  generalize memB xs v = R at HNO HYES ⊢
  clear h hl
  go_enter Try.func94, Try.ntmps94
  go_wp2
  go_loopw [5] (fun i wr => ∃ k : Nat, k ≤ n ∧ i = .int .i64 k ∧ Qt w wr ∧ Hid (∀ j, j < k → xs.getD j 0 ≠ (v : Int))) (fun i _ => n - (intOf i).toNat)
  case atStart => exact ⟨0, Nat.zero_le _, rfl, Qt.refl _, Lib.hid (fun j hj => by omega)⟩
  case round =>
    obtain ⟨k, hk, rfl, hq, HA⟩ := hrel
    by_cases hlt : k < n
    · obtain ⟨b, off, rfl, g1⟩ := HC.out wr hq k hlt
      have hkn : (k : Int) < (n : Int) := by omega
      obtain ⟨x, hx⟩ : ∃ x, x = xs.getD k 0 := ⟨_, rfl⟩
      rw [← hx] at g1
      have HXX := Lib.hid hx
      clear hx
      by_cases he : x = (v : Int)
      · have HF := Lib.hid (HYES.out k hlt (by rw [← HXX.out]; exact he))
        subst he
        clear HA
        go_wp2
        go_ret
        exact ⟨by rw [HF.out]; rfl, hq⟩
      · have hb : (x == (v : Int)) = false := by simpa using he
        have HN := Lib.hid (fun j (hj : j < k + 1) => show xs.getD j 0 ≠ (v : Int) by
          by_cases e : j = k
          · subst e; rw [← HXX.out]; exact he
          · exact HA.out j (by omega))
        clear he HA
        go_wp2
        go_roundw
        case rel => exact ⟨k+1, by omega, by go_num, hq, HN⟩
        case measure => simp [intOf]; omega
    · obtain rfl : k = n := by omega
      have HF := Lib.hid (HNO.out HA.out)
      clear HA
      go_wp2
      go_ret
      exact ⟨by rw [HF.out]; rfl, hq⟩

set_option maxHeartbeats 1600000 in
theorem l08Among {lo hi lo1 hi1 : Nat} (S : Nat) (f : Nat → Nat → Int) (a : Option Addr) (c : Nat) (a1 : Option Addr) (n1 c1 : Nat) (xs : List Int) (v : Nat) (w : World) (h : RdR lo hi w (.slice a S c) (tab S f)) (h1 : RdI lo1 hi1 w (.slice a1 n1 c1) xs) (hl : xs.length = n1) (hS8 : S ≤ 8) (hn8 : n1 ≤ 8) (hx : ∀ k, k < n1 → ∃ m : Nat, xs.getD k 0 = (m : Int) ∧ m < S) (hv : v < S) (h01 : bitF S f) :
    Calls Try.prog 95 #[.slice a S c, .slice a1 n1 c1, .int .i64 v] w fun e w' => e = .returned (.int .i64 (nbR (f v) xs n1 : Int)) ∧ Qt w w' := by
  have HC := Lib.hid (fun W (hq : Qt w W) => (h1.qt hq).at hl)
  have HR := Lib.hid (fun W (hq : Qt w W) j (hj : j < S) => (h.qt hq).ent hv hj)
  have HXN := Lib.hid hx
  have H01 := Lib.hid (h01 v hv)
  have HNB := Lib.hid (fun k => show nbR (f v) xs (k + 1) = if (f v) (xs.getD k 0).toNat = 0 then nbR (f v) xs k else nbR (f v) xs k + 1 from rfl)
  have HN0 := Lib.hid (show nbR (f v) xs 0 = 0 from rfl)
  have HNL := Lib.hid (nbR_le (f v) xs)
  generalize nbR (f v) xs = F at HNB HN0 HNL ⊢
  clear h h1 hl hx h01
  go_enter Try.func95, Try.ntmps95
  go_wp2
  go_loopw [7, 8] (fun d i wr => ∃ k q : Nat, k ≤ n1 ∧ i = .int .i64 k ∧ d = .int .i64 (q : Int) ∧ Hid (q = F k) ∧ Qt w wr) (fun _ i _ => n1 - (intOf i).toNat)
  case atStart => exact ⟨0, 0, Nat.zero_le _, rfl, rfl, Lib.hid HN0.out.symm, Qt.refl _⟩
  case round =>
    obtain ⟨k, q, hk, rfl, rfl, HQ, hq⟩ := hrel
    by_cases hlt : k < n1
    · obtain ⟨b, off, rfl, g1⟩ := HC.out wr hq k hlt
      obtain ⟨m, hm, hmS⟩ := HXN.out k hlt
      have hnb := HNB.out k
      have h01 := H01.out m hmS
      rw [hm] at g1 hnb
      rw [Int.toNat_natCast] at hnb
      obtain ⟨b2, off2, b3, off3, c3, rfl, g2, g3⟩ := HR.out wr hq m hmS
      have hq8 : q ≤ 8 := by have := HNL.out k; have := HQ.out; omega
      have hmSi : (m : Int) < (S : Int) := by omega
      have hvSi : (v : Int) < (S : Int) := by omega
      have hkn : (k : Int) < (n1 : Int) := by omega
      rw [← HQ.out] at hnb
      generalize f v m = x at g3 hnb h01
      obtain ⟨y, hy, hyx⟩ : ∃ y : Nat, y = F (k + 1) ∧ (q : Int) + x = (y : Int) := ⟨F (k + 1), rfl, by
        rw [hnb]
        rcases h01 with e | e
        · rw [if_pos e, e]; omega
        · rw [if_neg (by omega), e]; omega⟩
      have HN := Lib.hid hy
      have hy9 : y ≤ 9 := by rcases h01 with e | e <;> omega
      have w1' : IntKind.i64.wrap ((q : Int) + x) = (y : Int) := by rw [hyx]; exact IntWalk.i64_in _ (by omega)
      have w2' : wrap64 ((q : Int) + x) = (y : Int) := by rw [hyx]; exact IntWalk.wrap64_in _ (by clear w1'; omega)
      clear hm HQ hnb h01 hy hyx hq8 hy9
      go_wp2
      go_quiet (fail)
      go_wp2
      clear w1' w2'
      go_roundw
      case rel => exact ⟨k+1, y, by omega, by go_num, rfl, HN, hq.drewN _⟩
      case measure => simp [intOf]; omega
    · obtain rfl : k = n1 := by omega
      go_wp2
      go_ret
      exact ⟨by rw [← HQ.out]; rfl, hq⟩

set_option maxHeartbeats 3200000 in
theorem l08Switches {lo hi lo1 hi1 : Nat} (S : Nat) (f : Nat → Nat → Int) (a : Option Addr) (c : Nat) (a1 : Option Addr) (n1 c1 : Nat) (xs : List Int) (w : World) (h : RdR lo hi w (.slice a S c) (tab S f)) (h1 : RdI lo1 hi1 w (.slice a1 n1 c1) xs) (hl : xs.length = n1) (hS8 : S ≤ 8) (hn8 : n1 ≤ 8) (hx : ∀ k, k < n1 → ∃ m : Nat, xs.getD k 0 = (m : Int) ∧ m < S) (h01 : bitF S f) :
    Calls Try.prog 91 #[.slice a S c, .slice a1 n1 c1] w fun e w' => e = .returned (.bool (swB f S xs)) ∧ Qt w w' := by
  have HNB := Lib.hid (fun v (hv : v < S) W (hq : Qt w W) => l08Among S f a c a1 n1 c1 xs v W (h.qt hq) (h1.qt hq) hl hS8 hn8 hx hv h01)
  have HCN := Lib.hid (fun (v : Nat) W (hq : Qt w W) => l08Outside a1 n1 c1 xs v W (h1.qt hq) hl)
  have HC := Lib.hid (fun W (hq : Qt w W) => (h1.qt hq).at hl)
  have HXN := Lib.hid hx
  have HNO := Lib.hid (fun v (hv : v < S) (e : swV f xs v = false) => swB_no hv e)
  have HYES := Lib.hid (fun (h : ∀ v, v < S → swV f xs v = true) => swB_yes h)
  have HV1 := Lib.hid (fun v (h : memB xs v = true) => by have := swV_mem (f := f) h; rw [hl] at this; exact this)
  have HV2 := Lib.hid (fun v (h : memB xs v = false) => by have := swV_out (f := f) h; rw [hl] at this; exact this)
  have HM0 := Lib.hid (fun v (h : memB xs v = true) => by have := memB_at h; rw [hl] at this; exact this)
  have HLE := Lib.hid (fun (r : Nat → Int) => nbR_le r xs n1)
  generalize swB f S xs = R at HNO HYES ⊢
  clear h h1 hl hx h01
  go_enter Try.func91, Try.ntmps91
  go_wp2
  go_loopw [6] (fun v wr => ∃ k : Nat, k ≤ S ∧ v = .int .i64 k ∧ Qt w wr ∧ Hid (∀ j, j < k → swV f xs j = true)) (fun v _ => S - (intOf v).toNat)
  case atStart => exact ⟨0, Nat.zero_le _, rfl, Qt.refl _, Lib.hid (fun i hi => by omega)⟩
  case round =>
    obtain ⟨k, hk, rfl, hq, HA⟩ := hrel
    by_cases hlt : k < S
    · have HN1 := Lib.hid (HNB.out k hlt wr hq)
      have hcl := HLE.out (f k)
      obtain ⟨cn, hcn⟩ : ∃ cn, cn = nbR (f k) xs n1 := ⟨_, rfl⟩
      rw [← hcn] at HN1 hcl
      have HCC := Lib.hid hcn
      have HQ := Lib.hid hq
      have hkS : (k : Int) < (S : Int) := by omega
      clear hcn hq
      go_wp2_with fail
      refine HN1.out.mono ?_
      rintro e w2 ⟨rfl, q2⟩
      have HQ2 := Lib.hid (HQ.out.trans q2)
      have HC2 := Lib.hid (HCN.out k w2 HQ2.out)
      clear q2 HN1
      go_wp2_with fail
      refine HC2.out.mono ?_
      rintro e w3 ⟨rfl, q3⟩
      have HQ3 := Lib.hid (HQ2.out.trans q3)
      clear q3 HC2
      cases hmm : memB xs k with
      | true =>
        have hn0 := HM0.out k hmm
        have hv := HV1.out k hmm
        rw [← HCC.out] at hv
        obtain ⟨ob, oo, rfl, g0⟩ := HC.out w3 HQ3.out 0 hn0
        obtain ⟨m, hm, hmS⟩ := HXN.out 0 hn0
        rw [hm] at g0 hv
        rw [Int.toNat_natCast] at hv
        have HN2 := Lib.hid (HNB.out m hmS w3 HQ3.out)
        obtain ⟨cm, hcm⟩ : ∃ cm, cm = nbR (f m) xs n1 := ⟨_, rfl⟩
        rw [← hcm] at HN2 hv
        have hmSi : (m : Int) < (S : Int) := by omega
        have hn0i : (0 : Int) < (n1 : Int) := by omega
        rw [Nat.add_zero] at g0
        clear hcm hm hmm
        go_wp2_with fail
        refine HN2.out.mono ?_
        rintro e w4 ⟨rfl, q4⟩
        have HQ4 := Lib.hid (HQ3.out.trans q4)
        clear q4 HN2 g0
        by_cases hce : cn = cm
        · have hb : ((cn : Int) != (cm : Int)) = false := by simp; omega
          have hvt : swV f xs k = true := by rw [hv]; exact decide_eq_true hce
          have HN := Lib.hid (fun j (hj : j < k + 1) => show swV f xs j = true by
            by_cases e : j = k
            · subst e; exact hvt
            · exact HA.out j (by omega))
          clear hv hvt hce HA
          go_wp2
          go_roundw
          case rel => exact ⟨k + 1, by omega, by go_num, HQ4.out, HN⟩
          case measure => simp [intOf]; omega
        · have hb : ((cn : Int) != (cm : Int)) = true := by simp; omega
          have HF := Lib.hid (HNO.out k hlt (by rw [hv]; exact decide_eq_false hce))
          clear hv hce HA
          go_wp2
          go_ret
          exact ⟨by rw [HF.out]; rfl, HQ4.out⟩
      | false =>
        have hv := HV2.out k hmm
        rw [← HCC.out] at hv
        have w1' : IntKind.i64.wrap (2 * (cn : Int)) = 2 * (cn : Int) := IntWalk.i64_in _ (by omega)
        have w2' : wrap64 (2 * (cn : Int)) = 2 * (cn : Int) := IntWalk.wrap64_in _ (by clear w1'; omega)
        have HN1 := Lib.hid (fun (hp : cn = 0 ∨ cn = n1 ∨ 2 * cn = n1) j (hj : j < k + 1) => show swV f xs j = true by
          by_cases e : j = k
          · subst e; rw [hv]; exact decide_eq_true hp
          · exact HA.out j (by omega))
        have HN2 := Lib.hid (fun (hp : ¬ (cn = 0 ∨ cn = n1 ∨ 2 * cn = n1)) => HNO.out k hlt (by rw [hv]; exact decide_eq_false hp))
        clear hmm hv HA
        by_cases h0 : cn = 0
        · have hb : ((cn : Int) != 0) = false := by simpa using h0
          have HN := Lib.hid (HN1.out (.inl h0))
          clear h0 HN1 HN2 w1' w2'
          go_wp2
          go_roundw
          case rel => exact ⟨k + 1, by omega, by go_num, HQ3.out, HN⟩
          case measure => simp [intOf]; omega
        · have hb : ((cn : Int) != 0) = true := by simp; clear w1' w2'; omega
          by_cases h2 : cn = n1
          · have hb2 : ((cn : Int) != (n1 : Int)) = false := by simp; clear w1' w2'; omega
            have HN := Lib.hid (HN1.out (.inr (.inl h2)))
            clear h0 h2 HN1 HN2 w1' w2'
            go_wp2
            go_roundw
            case rel => exact ⟨k + 1, by omega, by go_num, HQ3.out, HN⟩
            case measure => simp [intOf]; omega
          · have hb2 : ((cn : Int) != (n1 : Int)) = true := by simp; clear w1' w2'; omega
            by_cases h3 : 2 * cn = n1
            · have hb3 : (2 * (cn : Int) != (n1 : Int)) = false := by simp; clear w1' w2'; omega
              have HN := Lib.hid (HN1.out (.inr (.inr h3)))
              clear h0 h2 h3 HN1 HN2
              go_wp2
              clear w1' w2'
              go_roundw
              case rel => exact ⟨k + 1, by omega, by go_num, HQ3.out, HN⟩
              case measure => simp [intOf]; omega
            · have hb3 : (2 * (cn : Int) != (n1 : Int)) = true := by simp; clear w1' w2'; omega
              have HF := Lib.hid (HN2.out (by clear w1' w2'; omega))
              clear h0 h2 h3 HN1 HN2
              go_wp2
              go_ret
              exact ⟨by rw [HF.out]; rfl, HQ3.out⟩
    · obtain rfl : k = S := by omega
      have HF := Lib.hid (HYES.out HA.out)
      clear HA
      go_wp2
      go_ret
      exact ⟨by rw [HF.out]; rfl, hq⟩

set_option maxHeartbeats 3200000 in
theorem l08Set {lo hi lo1 hi1 : Nat} (s : Int) (a : Option Addr) (n c : Nat) (xss : List (List Int)) (a1 : Option Addr) (n1 c1 : Nat) (xs : List Int) (w : World) (h : RdR lo hi w (.slice a n c) xss) (hn : xss.length = n) (h1 : RdI lo1 hi1 w (.slice a1 n1 c1) xs) (hl : xs.length = n1) :
    Calls Try.prog 90 #[.agg #[.int .i64 s, .slice a n c], .slice a1 n1 c1] w fun e w' => e = .returned (.int .i64 (swCode s xss xs)) ∧ Below w.heap.size w w' := by
  have hb0 : ∀ o, Below w.heap.size w (w.alloc o) := fun o => (Below.refl _ _).alloc (Nat.le_refl _) o
  have HI := Lib.hid (fun W (hB : Below w.heap.size w W) => l01Is s a n c xss W (h.below hB) hn)
  cases hg : grB s xss with
  | false =>
    rw [hg] at HI
    rw [swCode_no hg]
    clear h hn hg h1 hl
    go_enter Try.func90, Try.ntmps90
    go_wp2_with fail
    refine calls_gen (fun W => Below w.heap.size w W) (hb0 _) ?_
    rintro W hB
    refine (HI.out W hB).mono ?_
    rintro e w1 ⟨rfl, b1⟩
    replace hB := hB.next b1
    clear b1 HI
    go_wp2
    go_ret
    exact ⟨rfl, hB⟩
  | true =>
    rw [hg] at HI
    have hg4 := grB_iff hg
    obtain ⟨S, hS⟩ : ∃ S : Nat, s = (S : Int) := ⟨s.toNat, by omega⟩
    subst hS
    have hS8 : S ≤ 8 := by omega
    have hS1 : 1 ≤ S := by omega
    have HSI := Lib.hid (fun W (hB : Below w.heap.size w W) => l08Simple S a n c xss W (h.below hB) hn hg)
    have HC := Lib.hid (fun W (hB : Below w.heap.size w W) => (h1.below hB).at hl)
    have hn17 := h1.1
    rw [hl] at hn17
    have HNO := Lib.hid (fun k (hk : k < n1) (e : stOk (S : Int) xs k = false) => swCode_rng (s := (S : Int)) (xss := xss) hg (setB_no (by rw [hl]; exact hk) e))
    have HYES := Lib.hid (fun (h : ∀ k, k < n1 → stOk (S : Int) xs k = true) => setB_yes (s := (S : Int)) (xs := xs) (fun k hk => h k (by rw [← hl]; exact hk)))
    have HC3 := Lib.hid (fun h2 h3 => swCode_st (xs := xs) hg h2 h3)
    have HC4 := Lib.hid (fun h2 h3 => swCode_ok (xs := xs) hg h2 h3)
    have HST := Lib.hid (fun k => show stOk (S : Int) xs k = (decide (bfS xs k < xs.getD k 0) && inR (xs.getD k 0) (S : Int)) from rfl)
    have HBF := Lib.hid (fun k => show bfS xs (k + 1) = xs.getD k 0 from rfl)
    have HB0 := Lib.hid (show bfS xs 0 = -1 from rfl)
    generalize swCode (S : Int) xss xs = cd at HNO HC3 HC4 ⊢
    generalize simB (adF xss) S = sb at HSI HC3 HC4
    generalize setB (S : Int) xs = tb at HYES HC3 HC4
    generalize stOk (S : Int) xs = ok at HNO HYES HST
    generalize bfS xs = bf at HST HBF HB0
    clear h hn h1 hl hg hg4
    go_enter Try.func90, Try.ntmps90
    go_wp2_with fail
    refine calls_gen (fun W => Below w.heap.size w W ∧ w.heap.size < W.heap.size ∧ W.cell? ⟨w.heap.size, 0, none⟩ = some (.int .i64 (S : Int)) ∧ W.cell? ⟨w.heap.size, 1, none⟩ = some (.slice a n c)) ⟨hb0 _, by simp, by go_simp, by go_simp⟩ ?_
    rintro W ⟨hB, hz, k0, k1⟩
    refine (HI.out W hB).mono ?_
    rintro e w2 ⟨rfl, b2⟩
    have HP0 := Lib.hid (⟨hB.next b2, b2.keep k0, b2.keep k1⟩ : _ ∧ _ ∧ _)
    clear b2 hB k0 k1 HI hz
    go_wp2
    obtain ⟨X, hX⟩ : ∃ X, X = w.heap.size := ⟨_, rfl⟩
    rw [← hX] at HP0 ⊢
    have HX := Lib.hid hX
    clear hX
    go_loopw [5] (fun v wr => ∃ k : Nat, k ≤ n1 ∧ v = .int .i64 k ∧ Hid (∀ j, j < k → ok j = true) ∧ Below X w wr ∧ wr.cell? ⟨X, 0, none⟩ = some (.int .i64 (S : Int)) ∧ wr.cell? ⟨X, 1, none⟩ = some (.slice a n c)) (fun v _ => n1 - (intOf v).toNat)
    case atStart => exact ⟨0, Nat.zero_le _, rfl, Lib.hid (fun j hj => by omega), HP0.out⟩
    case round =>
      clear HP0
      obtain ⟨k, hk, rfl, HA, hB, k0, k1⟩ := hrel
      by_cases hlt : k < n1
      · have hB' := hB
        rw [HX.out] at hB'
        obtain ⟨b, off, rfl, g1⟩ := HC.out wr hB' k hlt
        have hst := HST.out k
        have hno := HNO.out k hlt
        obtain ⟨x, hx⟩ : ∃ x, x = xs.getD k 0 := ⟨_, rfl⟩
        rw [← hx] at g1 hst
        have hkn : (k : Int) < (n1 : Int) := by omega
        have HBB := Lib.hid (⟨hB, k0, k1⟩ : _ ∧ _ ∧ _)
        have s1 : IntKind.i64.wrap ((S : Int) - 1) = (S : Int) - 1 := IntWalk.i64_in _ (by omega)
        have s2 : wrap64 ((S : Int) - 1) = (S : Int) - 1 := IntWalk.wrap64_in _ (by clear s1; omega)
        have HIN := Lib.hid (fun W => l01InR x (S : Int) (by clear s1 s2; omega) (by clear s1 s2; omega) W)
        cases hr : inR x (S : Int) with
        | false =>
          rw [hr] at HIN
          have HF0 := Lib.hid (hno (by rw [hst, hr, Bool.and_false]))
          clear hst hno hB hB' HA k1 hx
          go_wp2
          go_quiet ((go_at_call 108; exact Calls.quiet_of (HIN.out _)))
          go_wp2
          go_ret
          exact ⟨by rw [HF0.out]; rfl, by rw [← HX.out]; exact HBB.out.1.drewN _⟩
        | true =>
          rw [hr] at HIN
          rw [hr, Bool.and_true] at hst
          cases k with
          | zero =>
            have hb := HB0.out
            rw [hb] at hst
            have hxr : 0 ≤ x ∧ x < (S : Int) := by
              unfold inR at hr
              simp only [Bool.and_eq_true, decide_eq_true_eq] at hr
              exact hr
            have hok : ok 0 = true := by rw [hst]; exact decide_eq_true (by clear s1 s2; omega)
            have HN := Lib.hid (fun j (hj : j < 0 + 1) => show ok j = true by
              obtain rfl : j = 0 := by omega
              exact hok)
            rw [Nat.add_zero] at g1
            clear hst hno hB hB' HA k1 hx hb hok hxr
            go_wp2
            go_quiet ((go_at_call 108; exact Calls.quiet_of (HIN.out _)))
            go_wp2
            clear s1 s2
            go_roundw
            case rel => exact ⟨0+1, by omega, by go_num, HN, HBB.out.1.drewN _, HBB.out.2.1, HBB.out.2.2⟩
            case measure => simp [intOf]; omega
          | succ k =>
            have hbf := HBF.out k
            obtain ⟨b2, off2, hee, g2⟩ := HC.out wr hB' k (by omega)
            simp only [Option.some.injEq, Addr.mk.injEq, and_true] at hee
            obtain ⟨rfl, rfl⟩ := hee
            rw [hbf] at hst
            obtain ⟨y, hy⟩ : ∃ y, y = xs.getD k 0 := ⟨_, rfl⟩
            rw [← hy] at g2 hst
            obtain ⟨K, hK⟩ : ∃ K, K = k + 1 := ⟨_, rfl⟩
            rw [← hK] at g1 hst hno hkn hlt hk HA
            have hKi : (K : Int) = (k : Int) + 1 := by clear s1 s2; omega
            have hK0 : (0 : Int) < (K : Int) := by clear s1 s2; omega
            have hKb : decide ((0 : Int) < (K : Int)) = true := decide_eq_true hK0
            have hKn : 0 < K := by clear s1 s2; omega
            have t1 : IntKind.i64.wrap ((K : Int) - 1) = (k : Int) := by rw [show (K : Int) - 1 = (k : Int) by clear s1 s2; omega]; exact IntWalk.i64_in _ (by clear s1 s2; omega)
            have t2 : wrap64 ((K : Int) - 1) = (k : Int) := by rw [show (K : Int) - 1 = (k : Int) by clear s1 s2 t1; omega]; exact IntWalk.wrap64_in _ (by clear s1 s2 t1; omega)
            have hk0 : (0 : Int) ≤ (k : Int) := by clear s1 s2 t1 t2; omega
            have hkn2 : (k : Int) < (n1 : Int) := by clear s1 s2 t1 t2; omega
            have hSb : (1 : Int) ≤ (S : Int) ∧ (S : Int) ≤ 8 := by clear s1 s2 t1 t2; omega
            have hfin : k + 1 ≤ n1 ∧ K ≤ n1 ∧ K < n1 := by clear s1 s2 t1 t2; omega
            rw [← hK]
            by_cases hyx : y < x
            · have hbb : decide (x ≤ y) = false := decide_eq_false (by clear s1 s2 t1 t2; omega)
              have hok : ok K = true := by rw [hst]; exact decide_eq_true hyx
              have HN := Lib.hid (fun j (hj : j < K + 1) => show ok j = true by
                by_cases e : j = K
                · subst e; exact hok
                · exact HA.out j (by clear s1 s2 t1 t2; omega))
              clear hst hno hB hB' HA k1 hx hbf hok hy hyx hKi hlt hk hK
              go_wp2
              go_quiet ((go_at_call 108; exact Calls.quiet_of (HIN.out _)))
              go_wp2
              clear s1 s2 t1 t2
              go_roundw
              case rel => exact ⟨K+1, by omega, by go_num, HN, HBB.out.1.drewN _, HBB.out.2.1, HBB.out.2.2⟩
              case measure => simp [intOf]; omega
            · have hbb : decide (x ≤ y) = true := decide_eq_true (by clear s1 s2 t1 t2; omega)
              have HF0 := Lib.hid (hno (by rw [hst]; exact decide_eq_false hyx))
              clear hst hno hB hB' HA k1 hx hbf hy hyx hKi hlt hk hK
              go_wp2
              go_quiet ((go_at_call 108; exact Calls.quiet_of (HIN.out _)))
              go_wp2
              go_ret
              exact ⟨by rw [HF0.out]; rfl, by rw [← HX.out]; exact HBB.out.1.drewN _⟩
      · obtain rfl : k = n1 := by omega
        have ht := HYES.out HA.out
        subst ht
        have HS := Lib.hid (HSI.out wr (by rw [← HX.out]; exact hB))
        have HBB := Lib.hid hB
        have HD3 := Lib.hid (fun e => HC3.out rfl e)
        have HD4 := Lib.hid (fun e => HC4.out rfl e)
        clear HA hB HSI HC3 HC4
        go_wp2_with fail
        refine HS.out.mono ?_
        rintro e w3 ⟨rfl, b3⟩
        have hsz := HBB.out.size
        have HF := Lib.hid (HBB.out.trans (b3.mono (show X ≤ wr.heap.size by have := HX.out; omega)))
        clear b3 HS k0 k1 hsz
        cases sb with
        | true =>
          have hcd := HD4.out rfl
          subst hcd
          go_wp2
          go_ret
          exact ⟨rfl, by rw [← HX.out]; exact HF.out⟩
        | false =>
          have hcd := HD3.out rfl
          subst hcd
          go_wp2
          go_ret
          exact ⟨rfl, by rw [← HX.out]; exact HF.out⟩

set_option maxHeartbeats 1600000 in
theorem specDs {lo hi lo1 hi1 : Nat} (s : Int) (a : Option Addr) (n c : Nat) (xss : List (List Int)) (a1 : Option Addr) (n1 c1 : Nat) (xs : List Int) (w : World) (h : RdR lo hi w (.slice a n c) xss) (hn : xss.length = n) (h1 : RdI lo1 hi1 w (.slice a1 n1 c1) xs) (hl : xs.length = n1) :
    Calls Try.prog 44 #[.agg #[.int .i64 s, .slice a n c], .slice a1 n1 c1] w fun e w' => e = .returned (.tuple #[.bool (dsOf s xss xs).1, .int .i64 (dsOf s xss xs).2]) ∧ Below w.heap.size w w' := by
  have hb0 : ∀ o, Below w.heap.size w (w.alloc o) := fun o => (Below.refl _ _).alloc (Nat.le_refl _) o
  have HR := Lib.hid (fun W (hB : Below w.heap.size w W) => l08Set s a n c xss a1 n1 c1 xs W (h.below hB) hn (h1.below hB) hl)
  rcases swCode_cases s xss xs with hc | ⟨S, rfl, hS8, hg, h2, h3, hc⟩
  · have hd : dsOf s xss xs = (false, swCode s xss xs) := by unfold dsOf; rw [if_neg hc]
    rw [hd]
    have hcb : (swCode s xss xs != 0) = true := by simpa using hc
    generalize swCode s xss xs = cd at HR hcb ⊢
    clear h hn h1 hl hc hd
    go_enter Try.func44, Try.ntmps44
    go_wp2_with fail
    refine calls_gen (fun W => Below w.heap.size w W) (hb0 _) ?_
    rintro W hB
    refine (HR.out W hB).mono ?_
    rintro e w1 ⟨rfl, b1⟩
    replace hB := hB.next b1
    clear b1 HR
    go_wp2
    go_ret2
    exact ⟨rfl, hB⟩
  · have hd : dsOf (S : Int) xss xs = (swB (adF xss) S xs, 0) := by unfold dsOf; rw [if_pos hc, Int.toNat_natCast]
    rw [hd]
    rw [hc] at HR
    have hsl := setB_len h2
    rw [hl] at hsl
    have hsn := setB_nat h2
    rw [hl] at hsn
    have hbit : bitF S (adF xss) := fun i hi j hj => simB_bit hg h3 hi hj
    have HA := Lib.hid (fun W (hB : Below w.heap.size w W) => l01Adjacency S a n c xss W (h.below hB) hn hg)
    have HN := Lib.hid hn
    have HT := Lib.hid (adZ_tab hg S)
    have HAT := Lib.hid (show tab S (fun i j => adS (pairs xss) xss.length i j) = tab S (adF xss) from rfl)
    have HDS := Lib.hid (fun (a2 : Option Addr) (c2 lo2 hi2 : Nat) (W : World) (hB : Below w.heap.size w W) (hW : RdR lo2 hi2 W (.slice a2 S c2) (tab S (adF xss))) => l08Switches S (adF xss) a2 c2 a1 n1 c1 xs W hW (h1.below hB) hl hS8 (by omega) (fun k hk => by
      obtain ⟨m, e1, e2, _⟩ := hsn k hk
      exact ⟨m, e1, e2⟩) hbit)
    generalize adF xss = f at HAT HDS ⊢
    generalize swB f S xs = R at HDS ⊢
    clear h hn h1 hl hc hd hg h2 h3 hsl hsn hbit
    go_enter Try.func44, Try.ntmps44
    go_wp2_with fail
    refine calls_gen (fun W => Below w.heap.size w W ∧ W.cell? ⟨w.heap.size, 0, none⟩ = some (.int .i64 (S : Int)) ∧ W.cell? ⟨w.heap.size, 1, none⟩ = some (.slice a n c)) ⟨hb0 _, by go_simp, by go_simp⟩ ?_
    rintro W ⟨hB, k0, k1⟩
    refine (HR.out W hB).mono ?_
    rintro e w1 ⟨rfl, b1⟩
    replace k0 := b1.keep k0
    replace k1 := b1.keep k1
    have HB := Lib.hid (hB.next b1)
    have HA1 := Lib.hid (HA.out w1 HB.out)
    clear b1 hB HR HA
    go_wp2_with fail
    refine HA1.out.mono ?_
    rintro e w2 ⟨a2, c2, rfl, o2, b2⟩
    have hot : RdR w1.heap.size w2.heap.size w2 (.slice a2 S c2) (tab S f) := by
      have := o2.rd
      rw [← HN.out, HT.out, HAT.out] at this
      exact this
    have HB2 := Lib.hid (HB.out.next b2)
    have HD2 := Lib.hid (HDS.out a2 c2 _ _ w2 HB2.out hot)
    clear o2 b2 hot HA1 HDS k0 k1
    go_wp2_with fail
    refine HD2.out.mono ?_
    rintro e w3 ⟨rfl, q3⟩
    have HF := Lib.hid (HB2.out.qt q3)
    clear q3 HD2
    go_wp2
    go_ret2
    exact ⟨rfl, HF.out⟩

end Go.Proofs.Ytolipjemabmlkaa
