/- PrimesOfSums of the model. -/
import Derived.Test.YtebgbplhcaocoaaQs7
set_option linter.unusedSimpArgs false
set_option linter.unusedVariables false
set_option maxRecDepth 100000
namespace Go.Proofs.Ytebgbplhcaocoaa
open Go.RowKit

set_option maxHeartbeats 6400000 in
theorem specPrs {lo hi : Nat} (a : Option Addr) (n c : Nat) (xs : List Int) (w : World) (h : RdI lo hi w (.slice a n c) xs) (hn : xs.length = n) :
    Calls Try.prog 33 #[.slice a n c] w fun e w' => ∃ a' c', e = .returned (.tuple #[.slice a' (prsOf xs).1.length c', .int .i64 (prsOf xs).2]) ∧ OwI w.heap.size w'.heap.size w' (.slice a' (prsOf xs).1.length c') (prsOf xs).1 ∧ Below w.heap.size w w' := by
  obtain ⟨i0, hi', z0, z1, z2⟩ := info_parts Try.info2
  have HA := Lib.hid (l09Sums a n c xs w h hn)
  cases hs : smsB xs with
  | false =>
    rw [hs] at HA
    rw [prsOf_no hs]
    clear h hn hs
    go_enter Try.func33, Try.ntmps33
    go_wp2_with fail
    refine HA.out.mono ?_
    rintro e w1 ⟨rfl, q1⟩
    have HB := Lib.hid q1.below
    clear q1 HA
    go_wp2
    go_ret2
    exact ⟨none, 0, rfl, OwI.nil' _ _ _, HB.out⟩
  | true =>
    rw [hs] at HA
    have h24 : n ≤ 24 := by
      unfold smsB at hs
      simp only [Bool.and_eq_true, decide_eq_true_eq] at hs
      omega
    have HC := Lib.hid (fun W (hB : Below w.heap.size w W) j (hj : j < n) => show ∃ b off, a = some ⟨b, off, none⟩ ∧ W.cell? ⟨b, off + j, none⟩ = some (.int .i64 (xsX xs (j + 1))) from (h.below hB).cells hn j hj)
    have HX := Lib.hid (fun j => xsX_lim hs j)
    obtain ⟨Q, hQ⟩ : ∃ Q, Q = quS 0 (nxM xs) (fun k => (k : Int)) := ⟨_, rfl⟩
    have hR : Q n = prsR xs := by unfold prsR; rw [hn, hQ]
    have HLEN := Lib.hid (fun k (h : (Q k).2 = 0) => show (Q k).1.length = k + 1 by rw [hQ] at h ⊢; exact quS_len k h)
    have HALL := Lib.hid (fun k => show ∀ x ∈ (Q k).1, Lim x by rw [hQ]; exact quS_all (by unfold Lim; omega) (nxM_lim xs) k)
    have HLI := Lib.hid (fun k (h1 : (Q k).2 = 0) (h2 : nxM xs (k + 1) (Q k).1 = none) => show Q (k + 1) = ([], 3) by rw [hQ] at h1 h2 ⊢; exact quS_lim h1 h2)
    have HNO := Lib.hid (fun k s (h1 : (Q k).2 = 0) (h2 : nxM xs (k + 1) (Q k).1 = some s) (h3 : ¬ s.tmod ((k + 1 : Nat) : Int) = 0) => show Q (k + 1) = ([], 4) by
      rw [hQ] at h1 h2 ⊢; exact quS_not h1 h2 (h3))
    have HYE := Lib.hid (fun k s (h1 : (Q k).2 = 0) (h2 : nxM xs (k + 1) (Q k).1 = some s) (h3 : s.tmod ((k + 1 : Nat) : Int) = 0) => show Q (k + 1) = ((Q k).1 ++ [s.tdiv ((k + 1 : Nat) : Int)], 0) by
      rw [hQ] at h1 h2 ⊢; exact quS_yes h1 h2 h3)
    have HSTAY := Lib.hid (fun k (h : ¬ (Q k).2 = 0) => show ∀ j, k ≤ j → Q j = Q k by rw [hQ] at h ⊢; exact quS_stay h)
    have HQ0 := Lib.hid (show Q 0 = ([0], 0) by rw [hQ]; rfl)
    have HY := Lib.hid (fun e => prsOf_yes hs e)
    have HE := Lib.hid (fun e => prsOf_err hs e)
    rw [← hR] at HY HE
    generalize prsOf xs = P at HY HE ⊢
    clear h hn hs hR hQ
    go_enter Try.func33, Try.ntmps33
    go_wp2_with fail
    refine HA.out.mono ?_
    rintro e w1 ⟨rfl, q1⟩
    have HB1 := Lib.hid q1.below
    clear q1 HA
    go_wp2
    go_loopw [5, 4] (fun i v wr => ∃ (k : Nat) (u : Value), k ≤ n ∧ i = .int .i64 ((k + 1 : Nat) : Int) ∧ u = v ∧ Hid ((Q k).2 = 0) ∧ wr.ownsRow w.heap.size 2 1 u k (((Q k).1.drop 1).map (Value.int .i64)) ∧ Below w.heap.size w wr) (fun i _ _ => n + 1 - (intOf i).toNat)
    case atStart =>
      refine ⟨0, _, Nat.zero_le _, rfl, rfl, Lib.hid (by rw [HQ0.out]), ?_, HB1.out.alloc HB1.out.size _⟩
      rw [HQ0.out]
      exact ownsRow_mono (World.ownsRow_lit w1 #[] 0 (Nat.le_refl _) (by unfold maxLen; omega) rfl) HB1.out.size
    case round =>
      clear HB1
      obtain ⟨k, v, hk, rfl, rfl, HQ, hO, hB⟩ := hrel
      obtain ⟨K, hK⟩ : ∃ K, K = k + 1 := ⟨_, rfl⟩
      have HKK := Lib.hid hK
      rw [← hK]
      by_cases hlt : k < n
      · have hKn : (K : Int) ≤ (n : Int) := by omega
        have hK24 : 1 ≤ K ∧ K ≤ 24 := by omega
        have hlen := HLEN.out k HQ.out
        obtain ⟨ls, hls0⟩ : ∃ ls, ls = ((Q k).1.drop 1).map (Value.int .i64) := ⟨_, rfl⟩
        rw [← hls0] at hO
        have HLS := Lib.hid hls0
        clear hls0
        obtain ⟨M, hM⟩ : ∃ M, M = mbO (xsX xs) K := ⟨_, rfl⟩
        have HNX := Lib.hid (show nxM xs (k + 1) (Q k).1 = M K by rw [← hK, hM]; rfl)
        have HM0 := Lib.hid (show M 0 = some 0 by rw [hM]; rfl)
        have HMY := Lib.hid (fun d (h : K % (d + 1) = 0) => show M (d + 1) = plusO (M d) (timesO (some (xsX xs (d + 1))) (some (moebW (K / (d + 1))))) by rw [hM]; exact mbO_yes h)
        have HMZ := Lib.hid (fun d (h : ¬ K % (d + 1) = 0) => show M (d + 1) = M d by rw [hM]; exact mbO_no h)
        have HML := Lib.hid (fun i => show OLim (M i) by rw [hM]; exact mbO_lim _ _ _)
        have HMN := Lib.hid (fun i (h : M i = none) => show ∀ j, i ≤ j → M j = none from fun j hj => by
          induction j with
          | zero => obtain rfl : i = 0 := by omega
                    exact h
          | succ j ih =>
            by_cases e : i = j + 1
            · subst e; exact h
            · by_cases e2 : K % (j + 1) = 0
              · rw [HMY.out j e2, ih (by omega)]; exact plus_none _
              · rw [HMZ.out j e2]; exact ih (by omega))
        have HO := Lib.hid (⟨hO, hB⟩ : _ ∧ _)
        obtain ⟨U, rfl⟩ : ∃ U, U = wr := ⟨_, rfl⟩
        clear hO hB hM hK
        go_wp2
        go_loopw [7, 6] (fun i s wr' => ∃ (q : Nat) (x : Int), q ≤ K ∧ i = .int .i64 ((q + 1 : Nat) : Int) ∧ s = .int .i64 x ∧ Hid (M q = some x) ∧ Qt U wr') (fun i _ _ => K + 1 - (intOf i).toNat)
        case atStart => exact ⟨0, 0, Nat.zero_le _, rfl, rfl, HM0, Qt.refl _⟩
        case round =>
          rename_i hrel
          obtain ⟨q, x, hq1, rfl, rfl, HX1, hqt⟩ := hrel
          obtain ⟨D, hD⟩ : ∃ D, D = q + 1 := ⟨_, rfl⟩
          rw [← hD]
          by_cases hlq : q < K
          · have hqK : (D : Int) ≤ (K : Int) := by omega
            have hdz : ¬ (D : Int) = 0 := by omega
            obtain ⟨r, hr⟩ : ∃ r, r = K % D := ⟨_, rfl⟩
            have hrd : r < D := by rw [hr]; exact Nat.mod_lt _ (by omega)
            have m1 : (K : Int).tmod (D : Int) = (r : Int) := by rw [Int.tmod_eq_emod_of_nonneg (by omega), hr, Int.natCast_emod]
            have HDD := Lib.hid hD
            by_cases hr0 : r = 0
            · have hdn : q < n := by omega
              obtain ⟨b, off, rfl, h2⟩ := HC.out wr (HO.out.2.qt hqt) q hdn
              have hlb := HX.out (q + 1)
              have hls : Lim x := HML.out q x HX1.out
              have hst := HMY.out q (by rw [← hD, ← hr]; exact hr0)
              obtain ⟨e, he⟩ : ∃ e, e = K / D := ⟨_, rfl⟩
              have hek : e ≤ 24 := by rw [he]; exact Nat.le_trans (Nat.div_le_self _ _) (by omega)
              have m3 : (K : Int).tdiv (D : Int) = (e : Int) := by rw [Int.tdiv_eq_ediv_of_nonneg (by omega), he, Int.natCast_ediv]
              have HMO := Lib.hid (fun W => specMoebW e W hek)
              have hlm := moebW_lim e
              rw [HX1.out, ← hD, ← he, plus_prod] at hst
              rw [← hD] at h2 hlb
              generalize moebW e = y at HMO hlm hst
              generalize xsX xs D = z at h2 hlb hst
              rw [show moreB x z y = moreB x y z by unfold moreB fits; rw [Int.mul_comm], Int.mul_comm z y] at hst
              have hqI : (q : Int) < (n : Int) := by omega
              have n1 : IntKind.i64.wrap ((D : Int) - 1) = (q : Int) := by rw [show (D : Int) - 1 = (q : Int) by omega]; exact IntWalk.i64_in _ (by omega)
              have n2 : wrap64 ((D : Int) - 1) = (q : Int) := by rw [show (D : Int) - 1 = (q : Int) by clear n1; omega]; exact IntWalk.wrap64_in _ (by clear n1; omega)
              have HST := Lib.hid hst
              have HQT := Lib.hid hqt
              subst hr0
              clear hst hqt hD hr he hrd
              cases hmo : moreB x y z with
              | true =>
                have hv : moreV x y z = x + y * z := by unfold moreV; rw [if_pos (by have h := hmo; simp only [moreB, Bool.and_eq_true] at h; exact h.1)]
                have HV := Lib.hid hv
                have HMOO := Lib.hid hmo
                clear hv
                go_wp2
                go_quiet (first | (go_at_call 71; exact Calls.quiet_of (HMO.out _)) | (go_at_call 70; refine Calls.quiet_of (l01MoreV _ _ _ ?_ ?_ ?_ _) <;> assumption))
                rw [HV.out]
                go_wp2
                go_roundw
                case rel => exact ⟨D, x + y * z, by omega, by go_num, rfl, Lib.hid (by rw [HST.out, HMOO.out]; rfl), HQT.out.drewN _⟩
                case measure => simp [intOf]; omega
              | false =>
                have HMOO := Lib.hid hmo
                have hno : M K = none := HMN.out D (by rw [HST.out, HMOO.out]; rfl) K (by omega)
                have hz := HLI.out k HQ.out (by rw [HNX.out, hno])
                have hzn : Q n = ([], 3) := by rw [HSTAY.out (k + 1) (by rw [hz]; decide) n (by omega), hz]
                have hP := HE.out (by rw [hzn]; decide)
                rw [hzn] at hP
                subst hP
                have HBQ := Lib.hid (HO.out.2.qt HQT.out)
                clear hno hz hzn
                go_wp2
                go_quiet (first | (go_at_call 71; exact Calls.quiet_of (HMO.out _)) | (go_at_call 70; refine Calls.quiet_of (l01MoreV _ _ _ ?_ ?_ ?_ _) <;> assumption))
                go_wp2
                go_ret2
                exact ⟨none, 0, rfl, OwI.nil' _ _ _, HBQ.out.drewN _⟩
            · have hrb : ((r : Int) != 0) = true := by simp; omega
              have hst := HMZ.out q (by rw [← hD, ← hr]; exact hr0)
              rw [← hD, HX1.out] at hst
              have HST := Lib.hid hst
              have HQT := Lib.hid hqt
              clear hst hqt hD hr hr0
              go_wp2
              go_roundw
              case rel => exact ⟨D, x, by omega, by go_num, rfl, HST, HQT.out⟩
              case measure => simp [intOf]; omega
          · obtain rfl : q = K := by omega
            have hqno : ¬ (D : Int) ≤ (q : Int) := by omega
            have hls : Lim x := HML.out q x HX1.out
            have hnx : nxM xs (k + 1) (Q k).1 = some x := by rw [HNX.out]; exact HX1.out
            have hkk := HKK.out
            have HHO := Lib.hid (⟨ownsRow_chg HO.out.1 (hqt.below.chg 0 0) (fun _ _ => .inr (Nat.zero_le _)), HO.out.2.qt hqt⟩ : _ ∧ _)
            obtain ⟨r, hr⟩ : ∃ r, r = x.tmod (q : Int) := ⟨_, rfl⟩
            have hdz : ¬ (q : Int) = 0 := by omega
            have hrb : -24 ≤ r ∧ r ≤ 24 := by
              have h1 : r.natAbs < q := by rw [hr, Int.natAbs_tmod]; simp; exact Nat.mod_lt _ (by omega)
              omega
            have hq1 : IntKind.i64.wrap r = r := IntWalk.i64_in _ (by omega)
            have hq2 : wrap64 r = r := IntWalk.wrap64_in _ (by clear hq1; omega)
            have m1 : x.tmod (q : Int) = r := hr.symm
            by_cases hr0 : r = 0
            · have hb : (r != 0) = false := by simp [hr0]
              have hz := HYE.out k x HQ.out hnx (by rw [← hkk, ← hr]; exact hr0)
              rw [← hkk] at hz
              obtain ⟨y, hy⟩ : ∃ y, y = x.tdiv (q : Int) := ⟨_, rfl⟩
              have hyl : Lim y := by rw [hy]; exact tdiv_lim (by unfold Lim at *; omega)
              rw [← hy] at hz
              have n3 : x.tdiv (q : Int) = y := hy.symm
              have n4 : IntKind.i64.wrap y = y := IntWalk.i64_in _ (by unfold Lim at hyl; omega)
              have n5 : wrap64 y = y := IntWalk.wrap64_in _ (by clear n4; unfold Lim at hyl; omega)
              have HZ := Lib.hid hz
              have HK2 := Lib.hid hkk
              obtain ⟨hO4, hB4⟩ := HHO.out
              clear hz hkk hr hy hyl hqt hnx hrb HO
              go_wp2_with (at_builtin; refine wpList_append_own _ rfl _ _ 37 rfl w.heap.size 2 i0 (.int .i64 0) 1 8 Try.underlying37 hi' z0 z1 z2 rfl (by decide) _ _ _ rfl (hO4.alloc _) ⟨wr.heap.size, 0, none⟩ 1 1 [.int .i64 y] rfl rfl ?x1 ?c2 ?c3 ?c4 ?c5 ?_)
              (try (case x1 => exact news_one _ _ _))
              case c2 => first | (intro u hu; simp at hu; subst hu; rfl) | rfl | simp
              case c3 => unfold maxLen; omega
              case c4 => omega
              case c5 => have := hB4.size; simp; omega
              intro v3 w3 hown3 hgr _
              have hB5 : Below w.heap.size w w3 := (hB4.alloc hB4.size _).grown hgr (by have := hB4.size; simp; omega) (fun j hj => (hO4.lt j hj).1)
              have HF := Lib.hid (show (Q q).2 = 0 ∧ w3.ownsRow w.heap.size 2 1 v3 q (((Q q).1.drop 1).map (Value.int .i64)) ∧ Below w.heap.size w w3 by
                rw [HK2.out] at HZ ⊢
                refine ⟨by rw [HZ.out], ?_, hB5⟩
                rw [HZ.out]
                show w3.ownsRow _ _ _ v3 (k + 1) ((((Q k).1 ++ [y]).drop 1).map (Value.int .i64))
                rw [List.drop_append_of_le_length (by rw [HLEN.out k HQ.out]; omega), List.map_append, ← HLS.out]
                exact hown3)
              clear hown3 hgr hB5 hO4 hB4 n3 n4 n5 m1 hq1 hq2
              go_wp2
              go_roundw
              case rel => exact ⟨q, v3, by omega, by go_num, rfl, Lib.hid HF.out.1, HF.out.2⟩
              case measure => simp [intOf]; omega
            · have hb : (r != 0) = true := by simpa using hr0
              have hz := HNO.out k x HQ.out hnx (by rw [← hkk, ← hr]; exact hr0)
              have hzn : Q n = ([], 4) := by rw [HSTAY.out (k + 1) (by rw [hz]; decide) n (by omega), hz]
              have hP := HE.out (by rw [hzn]; decide)
              rw [hzn] at hP
              subst hP
              clear hz hzn hkk hr hqt hnx hrb HO
              go_wp2
              go_ret2
              exact ⟨none, 0, rfl, OwI.nil' _ _ _, HHO.out.2⟩
      · obtain rfl : k = n := by omega
        have hno : ¬ (K : Int) ≤ (k : Int) := by rw [HKK.out]; omega
        have hP := HY.out HQ.out
        obtain ⟨m, hm⟩ : ∃ m, m = (Q k).1.drop 1 := ⟨_, rfl⟩
        rw [← hm] at hP
        subst hP
        have hql := HLEN.out k HQ.out
        obtain ⟨va, vc, rfl⟩ := ownW_shape hO
        have hml : m.length = k := by rw [hm]; simp [hql]
        have hO1 : OwI w.heap.size wr.heap.size wr (.slice va k vc) m := by rw [hm]; exact OwI.mk hO (by omega) (fun x hx => I64_lim (HALL.out k x (List.mem_of_mem_drop hx)))
        have HF := Lib.hid (⟨hO1, hB⟩ : _ ∧ _)
        have HMM := Lib.hid (⟨hm, hml⟩ : _ ∧ _)
        clear hO hB hO1 hql hm hml
        go_wp2
        go_ret2
        refine ⟨va, vc, ?_, ?_, HF.out.2⟩
        · show _ = Ending.returned (.tuple #[.slice va m.length vc, .int .i64 0])
          rw [HMM.out.2]; rfl
        · show OwI _ _ _ (.slice va m.length vc) m
          rw [HMM.out.2]; exact HF.out.1

end Go.Proofs.Ytebgbplhcaocoaa
