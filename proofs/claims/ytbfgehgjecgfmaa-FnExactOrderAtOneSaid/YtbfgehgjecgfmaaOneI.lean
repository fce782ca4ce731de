/- OrderAtOne, both sides. -/
import Derived.Test.YtbfgehgjecgfmaaOneP
set_option linter.unusedSimpArgs false
set_option linter.unusedVariables false
set_option maxRecDepth 100000
namespace Go.Proofs.Ytbfgehgjecgfmaa
open Go.RowKit

set_option maxHeartbeats 3200000 in
theorem implSums {lo hi : Nat} (n b off c : Nat) (f : List Int) (w : World) (h : RdI lo hi w (.slice (some ⟨b, off, none⟩) n c) f) (hn : f.length = n) (h0 : 0 < n) (hn1 : n ≤ 40) :
    Calls Try.prog 62 #[.slice (some ⟨b, off, none⟩) n c] w fun e w' => e = .returned (.slice (some ⟨w.heap.size, 0, none⟩) n n) ∧ OwI w.heap.size w'.heap.size w' (.slice (some ⟨w.heap.size, 0, none⟩) n n) (qL f n) ∧ Below w.heap.size w w' := by
  obtain ⟨i0, hi0, z0, z1, z2⟩ := info_parts Try.info2
  have HCF := Lib.hid (fun W (hB : Below w.heap.size w W) j (hj : j < n) => show W.cell? ⟨b, off + j, none⟩ = some (.int .i64 (f.getD j 0)) by
    obtain ⟨b1, o1, e1, g1⟩ := (h.below hB).at hn j hj
    simp only [Option.some.injEq, Addr.mk.injEq, and_true] at e1
    obtain ⟨rfl, rfl⟩ := e1
    exact g1)
  clear h hn
  go_enter Try.func62, Try.ntmps62
  go_wp2_with (at_make; refine wpList_make_full _ rfl _ _ 26 rfl w.heap.size 2 i0 (.int .i64 0) 1 Try.underlying26 hi0 z0 z1 _ _ _ _ n rfl rfl rfl rfl ?c1 ?c2 ?c3 ?_)
  case c1 => rw [z2]; omega
  case c2 => unfold maxLen; omega
  case c3 => exact Nat.le_refl _
  intro w1 hown hgr
  rw [qS_zero f n] at hown
  have hbl : Below w.heap.size w w1 := (Below.refl _ _).grown hgr (Nat.le_refl _) (by simp)
  obtain ⟨G, hG⟩ : ∃ G, G = w.heap.size := ⟨_, rfl⟩
  rw [← hG] at hown ⊢
  have HG := Lib.hid hG
  have HS := Lib.hid (⟨hown, hbl⟩ : _ ∧ _)
  clear hG hown hbl hgr
  go_wp2
  go_loopw [4, 12] (fun sm v wr => ∃ i : Nat, i ≤ n ∧ v = .int .i64 i ∧ sm = .int .i64 (sT f i) ∧ wr.ownsRow G 2 1 (.slice (some ⟨G, 0, none⟩) n n) n ((qS f n i).map (Value.int .i64)) ∧ Below w.heap.size w wr) (fun _ v _ => n - (intOf v).toNat)
  case atStart => exact ⟨0, Nat.zero_le _, rfl, rfl, HS.out⟩
  case round =>
    clear HS
    obtain ⟨i, hi, rfl, rfl, hown, hB⟩ := hrel
    by_cases hli : i < n
    · have c0 := (hown.cellAt i (by omega)).trans (map_getE (by rw [qS_len]; exact hli))
      have f0 := hown.frozenAt i
      have c1 := HCF.out wr hB i hli
      have hset := qS_set f n i
      have hst : sT f (i + 1) = wrap64 (sT f i + f.getD i 0) := rfl
      generalize (qS f n i).getD i 0 = t0 at c0
      generalize f.getD i 0 = xx at c1 hst
      generalize sT f i = s0 at hst ⊢
      obtain ⟨s1, hs1⟩ : ∃ s1, s1 = sT f (i + 1) := ⟨_, rfl⟩
      rw [← hs1] at hst hset
      have HS1 := Lib.hid hs1
      have e3 : IntKind.i64.wrap (s0 + xx) = s1 := by rw [IntWalk.i64_left, hst]
      have e4 : wrap64 (s0 + xx) = s1 := hst.symm
      have hin : (i : Int) < (n : Int) := by clear e3 e4 hst hs1; omega
      have hownd : wr.drew.ownsRow G 2 1 (.slice (some ⟨G, 0, none⟩) n n) n ((qS f n i).map (Value.int .i64)) := ownsRow_chg hown ((Qt.refl wr).drew.chg 0 0) (fun _ _ => .inr (Nat.zero_le _))
      have hsd := (hown.stored i (.int .i64 s1)).1
      have hsd2 := (hownd.stored i (.int .i64 s1)).1
      rw [hset] at hsd hsd2
      have HFS := Lib.hid (⟨hsd, hB.setCell (p := ⟨G, i, none⟩) (Nat.le_of_eq HG.out.symm) (.int .i64 s1)⟩ : (wr.setCell ⟨G, i, none⟩ (.int .i64 s1)).ownsRow G 2 1 (.slice (some ⟨G, 0, none⟩) n n) n ((qS f n (i + 1)).map (Value.int .i64)) ∧ Below w.heap.size w (wr.setCell ⟨G, i, none⟩ (.int .i64 s1)))
      clear hst hs1 hset hsd hsd2 hownd hown hB
      go_wp2
      go_roundw
      case rel => exact ⟨i+1, by omega, by go_num, by rw [HS1.out], HFS.out⟩
      case measure => simp [intOf]; omega
    · obtain rfl : i = n := by omega
      rw [qS_all] at hown
      have hO := OwI.mk hown (by omega) (qL_I64 f i)
      have HF := Lib.hid (⟨hO, hB⟩ : _ ∧ _)
      clear hown hB hO
      go_wp2
      go_ret
      exact ⟨by rw [← HG.out]; rfl, by rw [← HG.out]; exact HF.out.1, HF.out.2⟩

theorem recL_20 {s : Int} {xss : List (List Int)} (h : grB s xss = true) : (recL xss).length ≤ 21 := by
  have h1 := recL_len xss
  have h2 := grB_iff h
  omega

set_option maxHeartbeats 3200000 in
theorem implOne {lo hi : Nat} (s : Int) (a : Option Addr) (n c : Nat) (xss : List (List Int)) (w : World) (h : RdR lo hi w (.slice a n c) xss) (hn : xss.length = n) :
    Calls Try.prog 25 #[.agg #[.int .i64 s, .slice a n c]] w fun e w' => e = .returned (.tuple #[.int .i64 (oneOf s xss).1, .int .i64 (oneOf s xss).2]) ∧ Below w.heap.size w w' := by
  have hb0 : ∀ o, Below w.heap.size w (w.alloc o) := fun o => (Below.refl _ _).alloc (Nat.le_refl _) o
  have HR := Lib.hid (fun W (hB : Below w.heap.size w W) => implRec s a n c xss W (h.below hB) hn)
  cases hg : grB s xss with
  | false =>
    rw [recOf_no hg] at HR
    rw [oneOf_no hg]
    clear h hn hg
    go_enter Try.func25, Try.ntmps25
    go_wp2_with fail
    refine calls_gen (fun W => Below w.heap.size w W) (hb0 _) ?_
    rintro W hB
    refine (HR.out W hB).mono ?_
    rintro e w1 ⟨a1, c1, rfl, o1, b1⟩
    replace hB := hB.next b1
    clear o1 b1 HR
    go_wp2
    go_ret2
    exact ⟨rfl, hB⟩
  | true =>
    rw [recOf_yes hg] at HR
    rw [oneOf_yes hg]
    have hL := recL_20 hg
    have h1 := recL_head xss
    have h2 := recL_pos xss
    have h3 := recL_last xss
    generalize recL xss = R at HR hL h1 h2 h3 ⊢
    obtain ⟨L, hRL⟩ : ∃ L, R.length = L := ⟨_, rfl⟩
    rw [hRL] at hL h2 h3
    simp only [hRL] at HR ⊢
    clear h hn hg
    obtain ⟨O, hO⟩ : ∃ O, O = ordN R L L 0 := ⟨_, rfl⟩
    rw [← hO]
    have HO := Lib.hid hO
    have HFK := Lib.hid (fun hI => Fk_ok hRL h2 h1 h3 hI)
    clear hO hRL h1 h3
    go_enter Try.func25, Try.ntmps25
    go_wp2_with fail
    refine calls_gen (fun W => Below w.heap.size w W) (hb0 _) ?_
    rintro W hB
    refine (HR.out W hB).mono ?_
    rintro e w1 ⟨a1, c1, rfl, o1, b1⟩
    have HFI := Lib.hid (HFK.out o1.rd.2.1)
    have HS := Lib.hid (⟨o1.rd, hB.next b1⟩ : _ ∧ _)
    clear o1 b1 HR hB HFK
    go_wp2
    go_loopw [4, 6] (fun d v wr => ∃ (k c' lo' hi' : Nat) (a' : Option Addr), k ≤ L ∧ d = .slice a' (L - k) c' ∧ v = .int .i64 k ∧ RdI lo' hi' wr (.slice a' (L - k) c') (Fk R L k) ∧ (∀ j, j < k → sT (Fk R L j) (L - j) = 0) ∧ ordN R L (L - k) k = O ∧ Below w.heap.size w wr) (fun d _ _ => (match d with | .slice _ n _ => n | _ => 0))
    case atStart => exact ⟨0, c1, _, _, a1, Nat.zero_le _, rfl, rfl, HS.out.1, fun j hj => absurd hj (Nat.not_lt_zero _), HO.out.symm, HS.out.2⟩
    case round =>
      clear HS
      obtain ⟨k, c', lo', hi', a', hk, rfl, rfl, hrd, hz, ho, hB⟩ := hrel
      obtain ⟨g1, g2, g3, g4, g5⟩ := HFI.out k hz
      rw [HO.out] at ho
      have hos := ordN_step g1 ho
      obtain ⟨b', off', rfl, _⟩ := hrd.at g2 0 (by omega)
      obtain ⟨m, hm⟩ : ∃ m, L - k = m + 1 := ⟨L - k - 1, by omega⟩
      have hm2 : L - (k + 1) = m := by omega
      have hFs : Fk R L (k + 1) = qL (Fk R L k) m := by rw [← hm2]; rfl
      rw [hm] at hrd g2 hos ⊢
      rw [hm2] at hos
      obtain ⟨z, hzz⟩ : ∃ z, z = sT (Fk R L k) (m + 1) := ⟨_, rfl⟩
      rw [← hzz] at hos
      have HOS := Lib.hid hos
      have HZ := Lib.hid (⟨hz, hzz⟩ : _ ∧ _)
      have HFs := Lib.hid hFs
      have HC := Lib.hid (implSums (m + 1) b' off' c' (Fk R L k) wr hrd g2 (Nat.succ_pos _) (by omega))
      have HM := Lib.hid (⟨hm, hm2⟩ : _ ∧ _)
      clear hrd g2 g3 g4 g5 hos hz ho hzz hFs hm hm2
      go_wp2_with fail
      refine HC.out.mono ?_
      rintro e w2 ⟨rfl, o2, b2⟩
      have hR2 := o2.rd
      obtain ⟨b9, o9, e9, g9⟩ := hR2.at (qL_len _ _) m (Nat.lt_succ_self m)
      simp only [Option.some.injEq, Addr.mk.injEq, and_true] at e9
      obtain ⟨rfl, rfl⟩ := e9
      rw [qL_get (Nat.lt_succ_self m), ← HZ.out.2, Nat.zero_add] at g9
      have hR3 := hR2.take (qL_len _ _) (Nat.le_succ m)
      rw [qL_take, ← HFs.out] at hR3
      have HF := Lib.hid (⟨hR3, hB.next b2⟩ : _ ∧ _)
      have hm40 : m ≤ 40 := by have := HM.out; omega
      clear o2 b2 hB hR2 hR3 HC
      by_cases hz0 : z = 0
      · have hzb : (z != 0) = false := by simpa using hz0
        have hzn : ¬ z ≠ 0 := fun h => h hz0
        have HN := Lib.hid (HOS.out.1 hz0)
        have HZZ := Lib.hid (fun j (hj : j < k + 1) => show sT (Fk R L j) (L - j) = 0 by
          rcases Nat.lt_or_ge j k with h5 | h5
          · exact HZ.out.1 j h5
          · obtain rfl : j = k := by omega
            rw [HM.out.1, ← HZ.out.2]; exact hz0)
        obtain ⟨U, rfl⟩ : ∃ U, U = wr := ⟨_, rfl⟩
        have HF2 := Lib.hid (⟨HF.out.1.qt (Qt.refl w2).drew, HF.out.2.qt (Qt.refl w2).drew⟩ : _ ∧ _)
        clear hz0 hzn HOS
        go_wp2
        go_roundw
        case rel => exact ⟨k + 1, m + 1, _, _, some ⟨U.heap.size, 0, none⟩, by omega, by rw [HM.out.2], by go_num, by rw [HM.out.2]; exact HF.out.1, HZZ.out, by rw [HM.out.2, HO.out]; exact HN.out, HF.out.2⟩
        case measure => simp
      · have hzb : (z != 0) = true := by simpa using hz0
        have HN := Lib.hid (HOS.out.2 hz0)
        have HOK := Lib.hid (show O = k by rw [HO.out]; exact HN.out)
        clear HOS
        go_wp2
        go_ret2
        exact ⟨by rw [HOK.out]; rfl, HF.out.2⟩
end Go.Proofs.Ytbfgehgjecgfmaa
