/- Sums of values of Moebius times sums, within limits, by the program. -/
import Derived.Test.YtebgbplhcaocoaaQs1
set_option linter.unusedSimpArgs false
set_option linter.unusedVariables false
set_option maxRecDepth 100000
namespace Go.Proofs.Ytebgbplhcaocoaa
open Go.RowKit

theorem mobR_bd : ∀ (f n p : Nat) (v : Int), -1 ≤ v → v ≤ 1 → -1 ≤ mobR f n p v ∧ mobR f n p v ≤ 1
  | 0, n, p, v, h1, h2 => by unfold mobR; exact ⟨h1, h2⟩
  | f + 1, n, p, v, h1, h2 => by
    unfold mobR
    split
    · split
      · exact mobR_bd f _ _ _ h1 h2
      · split
        · omega
        · exact mobR_bd f _ _ _ (by omega) (by omega)
    · exact ⟨h1, h2⟩
theorem moebW_lim (n : Nat) : Lim (moebW n) := by
  have := mobR_bd 32 n 2 1 (by omega) (by omega)
  unfold Lim moebW; omega

set_option maxHeartbeats 8000000 in
theorem moebiusSum (g2 n2 c2 : Nat) (X : Nat → Int) (k : Nat) (w : World) (hk : k < n2) (hk1 : n2 ≤ 25) (hX : ∀ j, j < n2 → Lim (X j)) (hc : ∀ j, j < n2 → w.cell? ⟨g2, j * 2, none⟩ = some (.int .i64 (X j)) ∧ w.cell? ⟨g2, j * 2 + 1, none⟩ = some (.bool false)) :
    Calls Try.prog 76 #[.slice (some ⟨g2, 0, none⟩) n2 c2, .int .i64 k] w fun e w' => e = .returned (.agg #[.int .i64 (numO (mbO X k k)), .bool (mbO X k k).isNone]) ∧ Below w.heap.size w w' := by
  have hb0 : ∀ o, Below w.heap.size w (w.alloc o) := fun o => (Below.refl _ _).alloc (Nat.le_refl _) o
  have HC := Lib.hid hc
  have HX := Lib.hid hX
  have HS0 := Lib.hid (show mbO X k 0 = some 0 from rfl)
  have HSY := Lib.hid (fun d (h : k % (d + 1) = 0) => mbO_yes (X := X) h)
  have HSN := Lib.hid (fun d (h : ¬ k % (d + 1) = 0) => mbO_no (X := X) h)
  have HSL := Lib.hid (fun i => mbO_lim X k i)
  generalize mbO X k = M at HS0 HSY HSN HSL ⊢
  clear hc hX
  go_enter Try.func76, Try.ntmps76
  go_wp2
  go_loopw [6] (fun i wr => ∃ j : Nat, j ≤ k ∧ i = .int .i64 ((j + 1 : Nat) : Int) ∧ SumI (M j) w wr) (fun i _ => k + 1 - (intOf i).toNat)
  case atStart =>
    refine ⟨0, Nat.zero_le _, rfl, ?_⟩
    rw [HS0.out]
    exact ⟨(hb0 _).alloc (by simp) _, by go_simp, by go_simp, by go_simp, by go_simp, by go_simp; rfl, by go_simp, by go_simp, by go_simp, by simp⟩
  case round =>
    obtain ⟨j, hj, rfl, hI⟩ := hrel
    obtain ⟨d, hd⟩ : ∃ d, d = j + 1 := ⟨_, rfl⟩
    rw [← hd]
    by_cases hlt : j < k
    · have hjk : (d : Int) ≤ (k : Int) := by omega
      have hdz : ¬ (d : Int) = 0 := by omega
      obtain ⟨r, hr⟩ : ∃ r, r = k % d := ⟨_, rfl⟩
      have hrd : r < d := by rw [hr]; exact Nat.mod_lt _ (by omega)
      have m1 : (k : Int).tmod (d : Int) = (r : Int) := by rw [Int.tmod_eq_emod_of_nonneg (by omega), hr, Int.natCast_emod]
      have HD := Lib.hid hd
      by_cases hr0 : r = 0
      · have hdn : d < n2 := by omega
        obtain ⟨h1, h2⟩ := HC.out d hdn
        replace h1 := hI.below.keep h1
        replace h2 := hI.below.keep h2
        have hlx := OLim.some (HX.out d hdn)
        have hst := HSY.out j (by rw [← hd, ← hr]; exact hr0)
        rw [← hd] at hst
        have hml := HSL.out j
        obtain ⟨q, hq⟩ : ∃ q, q = k / d := ⟨_, rfl⟩
        have hqk : q ≤ 24 := by rw [hq]; exact Nat.le_trans (Nat.div_le_self _ _) (by omega)
        have m3 : (k : Int).tdiv (d : Int) = (q : Int) := by rw [Int.tdiv_eq_ediv_of_nonneg (by omega), hq, Int.natCast_ediv]
        have HMO := Lib.hid (fun W => implMoebW q W hqk)
        have hlm := OLim.some (moebW_lim q)
        rw [← hq] at hst
        generalize moebW q = y at HMO hlm hst
        generalize M j = o at hI hml hst
        generalize X d = x at h1 hlx hst
        have HST := Lib.hid hst
        have s0 := hI.s0
        have s1 := hI.s1
        have f0 := hI.f0
        have f1 := hI.f1
        have HI := Lib.hid hI
        have hmt := m_times
        have hmp := m_plus
        have hdI : (d : Int) < (n2 : Int) := by omega
        have hd0 : (0 : Int) ≤ (d : Int) := by omega
        subst hr0
        clear hst hd hI hr hq hrd
        go_wp2
        go_region_with (first
          | (go_at_call 131; refine (HMO.out _).mono ?_; rintro e w1 ⟨rfl, q1⟩; have b1 := q1.below; have g1 := b1.keep h1; have g2 := b1.keep h2; have t0 := b1.keep s0; have t1 := b1.keep s1)
          | (go_at_call 129; refine (wtimesA (some x) (some y) hlx hlm _).mono ?_; rintro e w2 ⟨rfl, b2⟩; have v0 := b2.keep (b1.keep s0); have v1 := b2.keep (b1.keep s1); clear g1 g2 t0 t1)
          | (go_at_call 130; refine (wplusA o (timesO (some x) (some y)) hml (timesO_lim _ _) _).mono ?_; rintro e w3 ⟨rfl, b3⟩; have bw : Below wr.heap.size wr w3 := ((((Qt.refl wr).drew).below.next b1).next b2).next b3; have hI3 := HI.out.next bw; have y0 := hI3.s0; have y1 := hI3.s1; have z0 := hI3.f0; have z1 := hI3.f1; clear v0 v1))
        all_goals
          clear hmt hmp
          have HF := Lib.hid (hI3.put (p := plusO o (timesO (some x) (some y))))
          rw [← HST.out] at HF ⊢
          clear hI3 bw
          go_wp2
          go_roundw
          case rel => exact ⟨d, by omega, by go_num, HF.out⟩
          case measure => simp [intOf]; omega
      · have hrb : ((r : Int) == 0) = false := by simp; omega
        have hst := HSN.out j (by rw [← hd, ← hr]; exact hr0)
        rw [← hd] at hst
        rw [← hst] at hI
        have HF := Lib.hid hI
        clear hst hd hI hr hr0
        go_wp2
        go_roundw
        case rel => exact ⟨d, by omega, by go_num, HF.out⟩
        case measure => simp [intOf]; omega
    · obtain rfl : j = k := by omega
      have hno : ¬ (d : Int) ≤ (j : Int) := by omega
      obtain ⟨s0, s1, r0, r1, q0, q1, hB⟩ := (⟨hI.s0, hI.s1, hI.r0, hI.r1, hI.q0, hI.q1, hI.below⟩ : _ ∧ _ ∧ _ ∧ _ ∧ _ ∧ _ ∧ _)
      have HB := Lib.hid hB
      clear hI hB hd
      obtain ⟨o, ho⟩ : ∃ o, o = M j := ⟨_, rfl⟩
      rw [← ho] at s0 s1
      have HOE := Lib.hid ho
      clear ho
      go_wp2
      refine bodyPost_ret (v := .agg #[.int .i64 (numO o), .bool o.isNone]) (by simp [results, Try.results76, go_sem, r0, r1]) rfl ⟨by rw [HOE.out], ?_⟩
      repeat (refine Below.setCell ?_ (by simp <;> omega) _)
      exact HB.out

end Go.Proofs.Ytebgbplhcaocoaa
