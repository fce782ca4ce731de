/- Moebius up to 24, both sides. -/
import Derived.Test.YtebgbplhcaocoaaMoeb
set_option linter.unusedSimpArgs false
set_option linter.unusedVariables false
namespace Go.Proofs.Ytebgbplhcaocoaa
open Go.RowKit

def moebW (n : Nat) : Int := mobR 32 n 2 1
set_option maxRecDepth 100000 in
set_option maxHeartbeats 1600000 in
theorem specMoebW (n0 : Nat) (w : World) (h1 : n0 ≤ 24) :
    Calls Try.prog 71 #[.int .i64 n0] w fun e w' => e = .returned (.int .i64 (moebW n0)) ∧ Qt w w' := by
  obtain ⟨R, hR⟩ : ∃ R, R = moebW n0 := ⟨_, rfl⟩
  rw [← hR]
  have HR := Lib.hid (show mobR 32 n0 2 1 = R by rw [hR]; rfl)
  clear hR
  go_enter Try.func71, Try.ntmps71
  go_wp2
  go_loopw [0, 3, 4] (fun x v y wr => ∃ (f n p : Nat) (u : Int), x = .int .i64 n ∧ v = .int .i64 u ∧ y = .int .i64 p ∧ n ≤ 24 ∧ 2 ≤ p ∧ f + p = 34 ∧ -1 ≤ u ∧ u ≤ 1 ∧ Hid (mobR f n p u = R) ∧ Qt w wr) (fun _ _ y _ => 34 - (intOf y).toNat)
  case atStart => exact ⟨32, n0, 2, 1, rfl, rfl, rfl, h1, by omega, by omega, by omega, by omega, HR, Qt.refl _⟩
  case round =>
    obtain ⟨f, n, p, u, rfl, rfl, rfl, hn, hp, hfp, hu0, hu1, HM, hqt⟩ := hrel
    by_cases hle : p ≤ n
    · obtain ⟨f', rfl⟩ : ∃ f', f = f' + 1 := ⟨f - 1, by omega⟩
      obtain ⟨r, hr⟩ : ∃ r, r = n % p := ⟨_, rfl⟩
      have m1 : (n : Int).tmod (p : Int) = (r : Int) := by rw [Int.tmod_eq_emod_of_nonneg (by omega), hr, Int.natCast_emod]
      have hrp : r < p := by rw [hr]; exact Nat.mod_lt _ (by omega)
      have hz : ¬ (p : Int) = 0 := by omega
      by_cases h2 : r = 0
      · obtain ⟨d, hd⟩ : ∃ d, d = n / p := ⟨_, rfl⟩
        have hdn : d ≤ 12 := by rw [hd]; exact Nat.le_trans (Nat.div_le_div_left (show 2 ≤ p from hp) (by omega)) (by omega)
        have m2 : (n : Int).tdiv (p : Int) = (d : Int) := by rw [Int.tdiv_eq_ediv_of_nonneg (by omega), hd, Int.natCast_ediv]
        obtain ⟨r2, hr2⟩ : ∃ r, r = d % p := ⟨_, rfl⟩
        have hr2p : r2 < p := by rw [hr2]; exact Nat.mod_lt _ (by omega)
        have m3 : (d : Int).tmod (p : Int) = (r2 : Int) := by rw [Int.tmod_eq_emod_of_nonneg (by omega), hr2, Int.natCast_emod]
        have HN := Lib.hid (⟨hr, hd, hr2⟩ : _ ∧ _ ∧ _)
        clear hr hd hr2
        by_cases h3 : r2 = 0
        · have hres := mobR_sq (f := f') (v := u) hle (by rw [← HN.out.1]; exact h2) (by rw [← HN.out.2.1, ← HN.out.2.2]; exact h3)
          rw [HM.out] at hres
          have HRes := Lib.hid hres
          subst h2
          subst h3
          clear hres
          have k1 : IntKind.i64.wrap (d : Int) = (d : Int) := IntWalk.i64_in _ (by omega)
          have k2 : wrap64 (d : Int) = (d : Int) := IntWalk.wrap64_in _ (by clear k1; omega)
          go_wp2
          go_ret
          exact ⟨by rw [HRes.out]; rfl, hqt⟩
        · have hres := mobR_yes (f := f') (v := u) hle (by rw [← HN.out.1]; exact h2) (by rw [← HN.out.2.1, ← HN.out.2.2]; exact h3)
          rw [HM.out, ← HN.out.2.1] at hres
          have HRes := Lib.hid hres.symm
          have h3' : ¬ (r2 : Int) = 0 := by omega
          have h3b : ((r2 : Int) == 0) = false := by simpa using h3'
          subst h2
          clear hres h3 h3'
          have k1 : IntKind.i64.wrap (d : Int) = (d : Int) := IntWalk.i64_in _ (by omega)
          have k2 : wrap64 (d : Int) = (d : Int) := IntWalk.wrap64_in _ (by clear k1; omega)
          go_wp2
          clear k1 k2
          go_roundw
          case rel => exact ⟨f', d, p+1, -u, rfl, by go_num, by go_num, by omega, by omega, by omega, by omega, by omega, HRes, hqt⟩
          case measure => first | (simp [intOf]; done) | (simp [intOf]; omega)
      · have hres := mobR_no (f := f') (v := u) hle (by rw [← hr]; exact h2)
        rw [HM.out] at hres
        have HRes := Lib.hid hres.symm
        have h2b : ((r : Int) != 0) = true := by simpa using h2
        clear hres hr
        have k1 : IntKind.i64.wrap (r : Int) = (r : Int) := IntWalk.i64_in _ (by omega)
        have k2 : wrap64 (r : Int) = (r : Int) := IntWalk.wrap64_in _ (by clear k1; omega)
        go_wp2
        clear k1 k2
        go_roundw
        case rel => exact ⟨f', n, p+1, u, rfl, rfl, by go_num, by omega, by omega, by omega, by omega, by omega, HRes, hqt⟩
        case measure => first | (simp [intOf]; done) | (simp [intOf]; omega)
    · have hres := mobR_end (f := f) (v := u) hle
      rw [HM.out] at hres
      have HRes := Lib.hid hres
      clear hres
      go_wp2
      go_ret
      exact ⟨by rw [HRes.out]; rfl, hqt⟩

set_option maxRecDepth 100000 in
set_option maxHeartbeats 1600000 in
theorem implMoebW (n0 : Nat) (w : World) (h1 : n0 ≤ 24) :
    Calls Try.prog 131 #[.int .i64 n0] w fun e w' => e = .returned (.int .i64 (moebW n0)) ∧ Qt w w' := by
  obtain ⟨R, hR⟩ : ∃ R, R = moebW n0 := ⟨_, rfl⟩
  rw [← hR]
  have HR := Lib.hid (show mobR 32 n0 2 1 = R by rw [hR]; rfl)
  clear hR
  go_enter Try.func131, Try.ntmps131
  go_wp2
  go_loopw [0, 3, 4] (fun x v y wr => ∃ (f n p : Nat) (u : Int), x = .int .i64 n ∧ v = .int .i64 u ∧ y = .int .i64 p ∧ n ≤ 24 ∧ 2 ≤ p ∧ f + p = 34 ∧ -1 ≤ u ∧ u ≤ 1 ∧ Hid (mobR f n p u = R) ∧ Qt w wr) (fun _ _ y _ => 34 - (intOf y).toNat)
  case atStart => exact ⟨32, n0, 2, 1, rfl, rfl, rfl, h1, by omega, by omega, by omega, by omega, HR, Qt.refl _⟩
  case round =>
    obtain ⟨f, n, p, u, rfl, rfl, rfl, hn, hp, hfp, hu0, hu1, HM, hqt⟩ := hrel
    by_cases hle : p ≤ n
    · obtain ⟨f', rfl⟩ : ∃ f', f = f' + 1 := ⟨f - 1, by omega⟩
      obtain ⟨r, hr⟩ : ∃ r, r = n % p := ⟨_, rfl⟩
      have m1 : (n : Int).tmod (p : Int) = (r : Int) := by rw [Int.tmod_eq_emod_of_nonneg (by omega), hr, Int.natCast_emod]
      have hrp : r < p := by rw [hr]; exact Nat.mod_lt _ (by omega)
      have hz : ¬ (p : Int) = 0 := by omega
      by_cases h2 : r = 0
      · obtain ⟨d, hd⟩ : ∃ d, d = n / p := ⟨_, rfl⟩
        have hdn : d ≤ 12 := by rw [hd]; exact Nat.le_trans (Nat.div_le_div_left (show 2 ≤ p from hp) (by omega)) (by omega)
        have m2 : (n : Int).tdiv (p : Int) = (d : Int) := by rw [Int.tdiv_eq_ediv_of_nonneg (by omega), hd, Int.natCast_ediv]
        obtain ⟨r2, hr2⟩ : ∃ r, r = d % p := ⟨_, rfl⟩
        have hr2p : r2 < p := by rw [hr2]; exact Nat.mod_lt _ (by omega)
        have m3 : (d : Int).tmod (p : Int) = (r2 : Int) := by rw [Int.tmod_eq_emod_of_nonneg (by omega), hr2, Int.natCast_emod]
        have HN := Lib.hid (⟨hr, hd, hr2⟩ : _ ∧ _ ∧ _)
        clear hr hd hr2
        by_cases h3 : r2 = 0
        · have hres := mobR_sq (f := f') (v := u) hle (by rw [← HN.out.1]; exact h2) (by rw [← HN.out.2.1, ← HN.out.2.2]; exact h3)
          rw [HM.out] at hres
          have HRes := Lib.hid hres
          subst h2
          subst h3
          clear hres
          have k1 : IntKind.i64.wrap (d : Int) = (d : Int) := IntWalk.i64_in _ (by omega)
          have k2 : wrap64 (d : Int) = (d : Int) := IntWalk.wrap64_in _ (by clear k1; omega)
          go_wp2
          go_ret
          exact ⟨by rw [HRes.out]; rfl, hqt⟩
        · have hres := mobR_yes (f := f') (v := u) hle (by rw [← HN.out.1]; exact h2) (by rw [← HN.out.2.1, ← HN.out.2.2]; exact h3)
          rw [HM.out, ← HN.out.2.1] at hres
          have HRes := Lib.hid hres.symm
          have h3' : ¬ (r2 : Int) = 0 := by omega
          have h3b : ((r2 : Int) == 0) = false := by simpa using h3'
          subst h2
          clear hres h3 h3'
          have k1 : IntKind.i64.wrap (d : Int) = (d : Int) := IntWalk.i64_in _ (by omega)
          have k2 : wrap64 (d : Int) = (d : Int) := IntWalk.wrap64_in _ (by clear k1; omega)
          go_wp2
          clear k1 k2
          go_roundw
          case rel => exact ⟨f', d, p+1, -u, rfl, by go_num, by go_num, by omega, by omega, by omega, by omega, by omega, HRes, hqt⟩
          case measure => first | (simp [intOf]; done) | (simp [intOf]; omega)
      · have hres := mobR_no (f := f') (v := u) hle (by rw [← hr]; exact h2)
        rw [HM.out] at hres
        have HRes := Lib.hid hres.symm
        have h2b : ((r : Int) != 0) = true := by simpa using h2
        clear hres hr
        have k1 : IntKind.i64.wrap (r : Int) = (r : Int) := IntWalk.i64_in _ (by omega)
        have k2 : wrap64 (r : Int) = (r : Int) := IntWalk.wrap64_in _ (by clear k1; omega)
        go_wp2
        clear k1 k2
        go_roundw
        case rel => exact ⟨f', n, p+1, u, rfl, rfl, by go_num, by omega, by omega, by omega, by omega, by omega, HRes, hqt⟩
        case measure => first | (simp [intOf]; done) | (simp [intOf]; omega)
    · have hres := mobR_end (f := f) (v := u) hle
      rw [HM.out] at hres
      have HRes := Lib.hid hres
      clear hres
      go_wp2
      go_ret
      exact ⟨by rw [HRes.out]; rfl, hqt⟩

end Go.Proofs.Ytebgbplhcaocoaa
