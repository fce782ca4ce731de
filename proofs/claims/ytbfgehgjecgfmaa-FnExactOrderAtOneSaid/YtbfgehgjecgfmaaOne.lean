/- OrderAtOne of the model, its walk. -/
import Derived.Test.YtbfgehgjecgfmaaOneS
set_option linter.unusedSimpArgs false
set_option linter.unusedVariables false
set_option maxRecDepth 100000
namespace Go.Proofs.Ytbfgehgjecgfmaa
open Go.RowKit

theorem one_neg {W : World} : RdI 0 (W.heap.size + 1) (W.alloc (.cells #[.int .i64 1, .int .i64 (-1)] 2)) (.slice (some ⟨W.heap.size, 0, none⟩) 2 2) [1, -1] :=
  ⟨by simp, fun x hx => by
    simp only [List.mem_cons, List.not_mem_nil, or_false] at hx
    rcases hx with rfl | rfl <;> (unfold I64; omega), .inr ⟨W.heap.size, 0, 2, rfl, by simp, Nat.zero_le _, Nat.lt_succ_self _, fun j hj => by
    have hj2 : j < 2 := hj
    match j, hj2 with
    | 0, _ => go_simp
    | 1, _ => go_simp⟩⟩

set_option maxHeartbeats 6400000 in
theorem specOne {lo hi : Nat} (s : Int) (a : Option Addr) (n c : Nat) (xss : List (List Int)) (w : World) (h : RdR lo hi w (.slice a n c) xss) (hn : xss.length = n) :
    Calls Try.prog 24 #[.agg #[.int .i64 s, .slice a n c]] w fun e w' => e = .returned (.tuple #[.int .i64 (oneOf s xss).1, .int .i64 (oneOf s xss).2]) ∧ Below w.heap.size w w' := by
  have hb0 : ∀ o, Below w.heap.size w (w.alloc o) := fun o => (Below.refl _ _).alloc (Nat.le_refl _) o
  have HI := Lib.hid (fun W (hB : Below w.heap.size w W) => l01Is s a n c xss W (h.below hB) hn)
  cases hg : grB s xss with
  | false =>
    rw [hg] at HI
    rw [oneOf_no hg]
    clear h hn hg
    go_enter Try.func24, Try.ntmps24
    go_wp2_with fail
    refine calls_gen (fun W => Below w.heap.size w W) (hb0 _) ?_
    rintro W hB
    refine (HI.out W hB).mono ?_
    rintro e w1 ⟨rfl, b1⟩
    replace hB := hB.next b1
    clear b1 HI
    go_wp2
    go_ret2
    exact ⟨rfl, hB⟩
  | true =>
    rw [hg] at HI
    have HR := Lib.hid (fun W (hB : Below w.heap.size w W) => l02Recip s a n c xss W (h.below hB) hn hg)
    rw [oneOf_yes hg]
    have hL := recL_20 hg
    have h1 := recL_head xss
    have h2 := recL_pos xss
    have h3 := recL_last xss
    generalize recL xss = R at HR hL h1 h2 h3 ⊢
    obtain ⟨L, hRL⟩ : ∃ L, R.length = L := ⟨_, rfl⟩
    rw [hRL] at hL h2 h3
    simp only [hRL] at HR ⊢
    clear h hn hg
    obtain ⟨O, hO⟩ : ∃ O, O = ordN R L L 0 := ⟨_, rfl⟩
    rw [← hO]
    have HO := Lib.hid hO
    have HFK := Lib.hid (fun hI => Fk_ok hRL h2 h1 h3 hI)
    clear hO hRL h1 h3
    go_enter Try.func24, Try.ntmps24
    go_wp2_with fail
    refine calls_gen (fun W => Below w.heap.size w W ∧ W.cell? ⟨w.heap.size, 0, none⟩ = some (.int .i64 s) ∧ W.cell? ⟨w.heap.size, 1, none⟩ = some (.slice a n c)) ⟨hb0 _, by go_simp, by go_simp⟩ ?_
    rintro W ⟨hB, k0, k1⟩
    refine (HI.out W hB).mono ?_
    rintro e w0 ⟨rfl, b0⟩
    replace hB := hB.next b0
    replace k0 := b0.keep k0
    replace k1 := b0.keep k1
    clear b0 HI
    go_wp2_with fail
    refine (HR.out w0 hB).mono ?_
    rintro e w1 ⟨a1, c1, rfl, o1, b1⟩
    have HFI := Lib.hid (HFK.out o1.rd.2.1)
    have HS := Lib.hid (⟨o1.rd, hB.next b1⟩ : _ ∧ _)
    clear o1 b1 HR hB HFK k0 k1
    go_wp2
    go_loopw [4, 5] (fun v d wr => ∃ (k c' lo' hi' : Nat) (a' : Option Addr), k ≤ L ∧ d = .slice a' (L - k) c' ∧ v = .int .i64 k ∧ RdI lo' hi' wr (.slice a' (L - k) c') (Fk R L k) ∧ (∀ j, j < k → sT (Fk R L j) (L - j) = 0) ∧ ordN R L (L - k) k = O ∧ Below w.heap.size w wr) (fun _ d _ => (match d with | .slice _ n _ => n | _ => 0))
    case atStart => exact ⟨0, c1, _, _, a1, Nat.zero_le _, rfl, rfl, HS.out.1, fun j hj => absurd hj (Nat.not_lt_zero _), HO.out.symm, HS.out.2⟩
    case round =>
      clear HS
      obtain ⟨k, c', lo', hi', a', hk, rfl, rfl, hrd, hz, ho, hB⟩ := hrel
      obtain ⟨g1, g2, g3, g4, g5⟩ := HFI.out k hz
      rw [HO.out] at ho
      have hos := ordN_step g1 ho
      obtain ⟨b', off', rfl, _⟩ := hrd.at g2 0 (by omega)
      obtain ⟨m, hm⟩ : ∃ m, L - k = m + 1 := ⟨L - k - 1, by omega⟩
      have hm2 : L - (k + 1) = m := by omega
      have hFs : Fk R L (k + 1) = qL (Fk R L k) m := by rw [← hm2]; rfl
      have HNX := Lib.hid (fun (hz2 : ∀ j, j < k + 1 → sT (Fk R L j) (L - j) = 0) => HFI.out (k + 1) hz2)
      rw [hm] at hrd g2 hos ⊢
      rw [hm2] at hos
      obtain ⟨z, hzz⟩ : ∃ z, z = sT (Fk R L k) (m + 1) := ⟨_, rfl⟩
      rw [← hzz] at hos
      have HOS := Lib.hid hos
      have HZ := Lib.hid (⟨hz, hzz⟩ : _ ∧ _)
      have HFs := Lib.hid hFs
      have HC := Lib.hid (l01At1 (m + 1) b' off' c' (Fk R L k) wr hrd g2 (Nat.succ_pos _) (by omega))
      rw [← hzz] at HC
      have HM := Lib.hid (⟨hm, hm2⟩ : _ ∧ _)
      have HRD := Lib.hid (⟨hrd, g2, hB⟩ : _ ∧ _ ∧ _)
      have hm40 : m ≤ 30 := by omega
      clear hrd g2 g3 g4 g5 hos hz ho hzz hFs hm hm2 hB
      go_wp2_with fail
      refine HC.out.mono ?_
      rintro e w2 ⟨rfl, q2⟩
      have HQ := Lib.hid (⟨HRD.out.1.qt q2, HRD.out.2.2.qt q2⟩ : _ ∧ _)
      clear q2 HC
      by_cases hz0 : z = 0
      · have hzb : (z == 0) = true := by simpa using hz0
        have HN := Lib.hid (HOS.out.1 hz0)
        have HZZ := Lib.hid (fun j (hj : j < k + 1) => show sT (Fk R L j) (L - j) = 0 by
          rcases Nat.lt_or_ge j k with h5 | h5
          · exact HZ.out.1 j h5
          · obtain rfl : j = k := by omega
            rw [HM.out.1, ← HZ.out.2]; exact hz0)
        obtain ⟨x1, x2, x3, x4, x5⟩ := HNX.out HZZ.out
        have hm0 : 0 < m := by have := HM.out; omega
        have hlz : sT (Fk R L k) m ≠ 0 := by
          rw [HFs.out, HM.out.2, qL_get (by omega), show m - 1 + 1 = m by omega] at x4
          exact x4
        have HBA := Lib.hid (HQ.out.2.alloc HQ.out.2.size (.cells #[.int .i64 1, .int .i64 (-1)] 2))
        have HD := Lib.hid (l01Divide1 (m + 1) m b' off' c' w2.heap.size (Fk R L k) (w2.alloc (.cells #[.int .i64 1, .int .i64 (-1)] 2)) (HQ.out.1.below ((Below.refl w2.heap.size w2).alloc (Nat.le_refl _) _)) one_neg HRD.out.2.1 rfl hm0 (by omega) hlz)
        clear hz0 HOS x1 x2 x3 x4 x5 hlz
        go_wp2_with fail
        refine HD.out.mono ?_
        rintro e w3 ⟨a3, c3, sm, rfl, o3, b3⟩
        have HF := Lib.hid (⟨o3.rd, HBA.out.next b3⟩ : _ ∧ _)
        rw [← HFs.out] at HF
        clear o3 b3 HD
        go_wp2
        go_roundw
        case rel => exact ⟨k + 1, c3, _, _, a3, by omega, by rw [HM.out.2], by go_num, by rw [HM.out.2]; exact HF.out.1, HZZ.out, by rw [HM.out.2, HO.out]; exact HN.out, HF.out.2⟩
        case measure => simp
      · have hzb : (z == 0) = false := by simpa using hz0
        have HN := Lib.hid (HOS.out.2 hz0)
        have HOK := Lib.hid (show O = k by rw [HO.out]; exact HN.out)
        clear HOS
        go_wp2
        go_ret2
        exact ⟨by rw [HOK.out]; rfl, HQ.out.2⟩

end Go.Proofs.Ytbfgehgjecgfmaa
