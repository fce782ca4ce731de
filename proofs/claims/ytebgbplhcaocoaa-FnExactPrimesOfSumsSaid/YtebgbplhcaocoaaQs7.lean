/- PolynomialOfSums of the model. -/
import Derived.Test.YtebgbplhcaocoaaQs6
import Derived.Test.YtebgbplhcaocoaaSpecMul
set_option linter.unusedSimpArgs false
set_option linter.unusedVariables false
set_option maxRecDepth 100000
namespace Go.Proofs.Ytebgbplhcaocoaa
open Go.RowKit

set_option maxHeartbeats 1600000 in
theorem l09Sums {lo hi : Nat} (a : Option Addr) (n c : Nat) (xs : List Int) (w : World) (h : RdI lo hi w (.slice a n c) xs) (hn : xs.length = n) :
    Calls Try.prog 69 #[.slice a n c] w fun e w' => e = .returned (.bool (smsB xs)) ∧ Qt w w' := by
  have hn9 : n ≤ 17592186044416 := by rw [← hn]; exact h.1
  have HC := Lib.hid (fun W (hq : Qt w W) => (h.qt hq).cells hn)
  have HYES := Lib.hid (fun k (hk : k < n) (e : inW (xs.getD k 0) = false) => show smsB xs = false by unfold smsB; rw [inW_not (xs := xs) (by omega) e, Bool.and_false])
  have HTK := Lib.hid (fun k (hk : k < n) (h : (xs.take k).all inW = true) (e : inW (xs.getD k 0) = true) => inW_take (xs := xs) (by omega) h e)
  have HFULL := Lib.hid (fun (h : (xs.take n).all inW = true) => show smsB xs = decide (n ≤ 24) by
    rw [show xs.take n = xs by rw [← hn]; exact List.take_length] at h
    unfold smsB; rw [h, Bool.and_true, hn])
  clear h hn
  go_enter Try.func69, Try.ntmps69
  go_wp2
  go_loopw [3] (fun v wr => ∃ k : Nat, k ≤ n ∧ v = .int .i64 k ∧ Qt w wr ∧ Hid ((xs.take k).all inW = true)) (fun v _ => n - (intOf v).toNat)
  case atStart => exact ⟨0, Nat.zero_le _, rfl, Qt.refl _, Lib.hid (by simp)⟩
  case round =>
    obtain ⟨k, hk, rfl, hq, HA⟩ := hrel
    by_cases hlt : k < n
    · obtain ⟨b, off, rfl, e0⟩ := HC.out wr hq k hlt
      have hy := HYES.out k hlt
      have ht := HTK.out k hlt HA.out
      generalize xs.getD k 0 = x at e0 hy ht
      have hkn : (k : Int) < (n : Int) := by omega
      have HQ := Lib.hid hq
      have HL := Lib.hid (l01In x (-1000000000000000) 1000000000000000 wr)
      have HY := Lib.hid hy
      have HT := Lib.hid ht
      clear hq hy ht
      go_wp2_with fail
      refine HL.out.mono ?_
      rintro e w2 ⟨rfl, q2⟩
      have HQ2 := Lib.hid (HQ.out.trans q2)
      clear q2 HL
      rw [show (decide (-1000000000000000 ≤ x) && decide (x ≤ 1000000000000000)) = inW x from rfl]
      cases hx : inW x with
      | false =>
        have HF := Lib.hid (HY.out hx)
        clear hx
        go_wp2
        go_ret
        exact ⟨by rw [HF.out]; rfl, HQ2.out⟩
      | true =>
        have HN2 := Lib.hid (HT.out hx)
        clear hx
        go_wp2
        go_roundw
        case rel => exact ⟨k+1, by omega, by go_num, HQ2.out, HN2⟩
        case measure => simp [intOf]; omega
    · obtain rfl : k = n := by omega
      have HF := Lib.hid (HFULL.out HA.out)
      have HQ := Lib.hid hq
      clear hq
      by_cases h24 : k ≤ 24
      · have hb : decide ((k : Int) ≤ 24) = true := decide_eq_true (by omega)
        have hd : decide (k ≤ 24) = true := decide_eq_true h24
        rw [hd] at HF
        clear hd
        go_wp2
        go_ret
        exact ⟨by rw [HF.out]; rfl, HQ.out⟩
      · have hb : decide ((k : Int) ≤ 24) = false := decide_eq_false (by omega)
        have hd : decide (k ≤ 24) = false := decide_eq_false h24
        rw [hd] at HF
        clear hd
        go_wp2
        go_ret
        exact ⟨by rw [HF.out]; rfl, HQ.out⟩

theorem tmod_negK (x : Int) (K : Nat) : x.tmod (-(K : Int)) = x.tmod (K : Int) := Int.tmod_neg x K
theorem tdiv_negK (x : Int) (K : Nat) : x.tdiv (-(K : Int)) = (-x).tdiv (K : Int) := by rw [Int.tdiv_neg, Int.neg_tdiv]

set_option maxHeartbeats 6400000 in
theorem specPos {lo hi : Nat} (a : Option Addr) (n c : Nat) (xs : List Int) (w : World) (h : RdI lo hi w (.slice a n c) xs) (hn : xs.length = n) :
    Calls Try.prog 36 #[.slice a n c] w fun e w' => ∃ a' c', e = .returned (.tuple #[.slice a' (posOf xs).1.length c', .int .i64 (posOf xs).2]) ∧ OwI w.heap.size w'.heap.size w' (.slice a' (posOf xs).1.length c') (posOf xs).1 ∧ Below w.heap.size w w' := by
  obtain ⟨i0, hi', z0, z1, z2⟩ := info_parts Try.info2
  have HA := Lib.hid (l09Sums a n c xs w h hn)
  cases hs : smsB xs with
  | false =>
    rw [hs] at HA
    rw [posOf_no hs]
    clear h hn hs
    go_enter Try.func36, Try.ntmps36
    go_wp2_with fail
    refine HA.out.mono ?_
    rintro e w1 ⟨rfl, q1⟩
    have HB := Lib.hid q1.below
    clear q1 HA
    go_wp2
    go_ret2
    exact ⟨none, 0, rfl, OwI.nil' _ _ _, HB.out⟩
  | true =>
    rw [hs] at HA
    have h24 : n ≤ 24 := by
      unfold smsB at hs
      simp only [Bool.and_eq_true, decide_eq_true_eq] at hs
      omega
    have HC := Lib.hid (fun W (hB : Below w.heap.size w W) j (hj : j < n) => show ∃ b off, a = some ⟨b, off, none⟩ ∧ W.cell? ⟨b, off + j, none⟩ = some (.int .i64 (xsX xs (j + 1))) from (h.below hB).cells hn j hj)
    have HX := Lib.hid (fun j => xsX_lim hs j)
    obtain ⟨Q, hQ⟩ : ∃ Q, Q = quS 1 (nxP xs) (fun k => -(k : Int)) := ⟨_, rfl⟩
    have hR : Q n = posR xs := by unfold posR; rw [hn, hQ]
    have HLEN := Lib.hid (fun k (h : (Q k).2 = 0) => show (Q k).1.length = k + 1 by rw [hQ] at h ⊢; exact quS_len k h)
    have HALL := Lib.hid (fun k => show ∀ x ∈ (Q k).1, Lim x by rw [hQ]; exact quS_all (by unfold Lim; omega) (nxP_lim xs) k)
    have HLI := Lib.hid (fun k (h1 : (Q k).2 = 0) (h2 : nxP xs (k + 1) (Q k).1 = none) => show Q (k + 1) = ([], 3) by rw [hQ] at h1 h2 ⊢; exact quS_lim h1 h2)
    have HNO := Lib.hid (fun k s (h1 : (Q k).2 = 0) (h2 : nxP xs (k + 1) (Q k).1 = some s) (h3 : ¬ s.tmod ((k + 1 : Nat) : Int) = 0) => show Q (k + 1) = ([], 4) by
      rw [hQ] at h1 h2 ⊢; exact quS_not h1 h2 (by rw [tmod_negK]; exact h3))
    have HYE := Lib.hid (fun k s (h1 : (Q k).2 = 0) (h2 : nxP xs (k + 1) (Q k).1 = some s) (h3 : s.tmod ((k + 1 : Nat) : Int) = 0) => show Q (k + 1) = ((Q k).1 ++ [(-s).tdiv ((k + 1 : Nat) : Int)], 0) by
      rw [hQ] at h1 h2 ⊢; rw [quS_yes h1 h2 (by rw [tmod_negK]; exact h3), tdiv_negK])
    have HSTAY := Lib.hid (fun k (h : ¬ (Q k).2 = 0) => show ∀ j, k ≤ j → Q j = Q k by rw [hQ] at h ⊢; exact quS_stay h)
    have HQ0 := Lib.hid (show Q 0 = ([1], 0) by rw [hQ]; rfl)
    have HY := Lib.hid (fun e => posOf_yes hs e)
    have HE := Lib.hid (fun e => posOf_err hs e)
    rw [← hR] at HY HE
    generalize posOf xs = P at HY HE ⊢
    clear h hn hs hR hQ
    go_enter Try.func36, Try.ntmps36
    go_wp2_with fail
    refine HA.out.mono ?_
    rintro e w1 ⟨rfl, q1⟩
    have HB1 := Lib.hid q1.below
    clear q1 HA
    go_wp2
    go_loopw [5, 4] (fun i v wr => ∃ (k : Nat) (u : Value), k ≤ n ∧ i = .int .i64 ((k + 1 : Nat) : Int) ∧ u = v ∧ Hid ((Q k).2 = 0) ∧ wr.ownsRow w.heap.size 2 1 u (k + 1) ((Q k).1.map (Value.int .i64)) ∧ Below w.heap.size w wr) (fun i _ _ => n + 1 - (intOf i).toNat)
    case atStart =>
      refine ⟨0, _, Nat.zero_le _, rfl, rfl, Lib.hid (by rw [HQ0.out]), ?_, HB1.out.alloc HB1.out.size _⟩
      rw [HQ0.out]
      exact ownsRow_mono (World.ownsRow_lit w1 #[.int .i64 1] 1 (Nat.le_refl _) (by unfold maxLen; omega) rfl) HB1.out.size
    case round =>
      clear HB1
      obtain ⟨k, v, hk, rfl, rfl, HQ, hO, hB⟩ := hrel
      obtain ⟨K, hK⟩ : ∃ K, K = k + 1 := ⟨_, rfl⟩
      have HKK := Lib.hid hK
      rw [← hK] at hO ⊢
      by_cases hlt : k < n
      · have hKn : (K : Int) ≤ (n : Int) := by omega
        have hK24 : 1 ≤ K ∧ K ≤ 24 := by omega
        obtain ⟨L, hL⟩ : ∃ L, L = (Q k).1 := ⟨_, rfl⟩
        have hLl : L.length = K := by rw [hL, hK]; exact HLEN.out k HQ.out
        have HLA := Lib.hid (show ∀ i, i < K → Lim (L.getD i 0) from fun i hi => by
          have hm : L.getD i 0 ∈ L := by
            have : L.getD i 0 = L[i] := by simp [List.getD, List.getElem?_eq_getElem (show i < L.length by omega)]
            rw [this]; exact List.getElem_mem (by omega)
          rw [hL] at hm ⊢; exact HALL.out k _ hm)
        rw [← hL] at hO
        have HLQ := Lib.hid hL
        obtain ⟨va, vc, rfl⟩ := ownW_shape hO
        obtain ⟨g, rfl⟩ : ∃ g, va = some ⟨g, 0, none⟩ := by
          rcases hO.2 with ⟨h, h9⟩ | ⟨g', cap', cur, h', _⟩
          · omega
          · simp only [Value.slice.injEq] at h'
            exact ⟨g', h'.1⟩
        obtain ⟨M, hM⟩ : ∃ M, M = mxO (fun i => L.getD i 0) (xsX xs) K := ⟨_, rfl⟩
        have HNX := Lib.hid (show nxP xs (k + 1) (Q k).1 = M K by rw [← hL, ← hK, hM]; rfl)
        have HM0 := Lib.hid (show M 0 = some 0 by rw [hM]; rfl)
        have HMS := Lib.hid (fun i => show M (i + 1) = plusO (M i) (timesO (some (L.getD i 0)) (some (xsX xs (K - i)))) by rw [hM]; rfl)
        have HML := Lib.hid (fun i => show OLim (M i) by rw [hM]; exact mxO_lim _ _ _ _)
        have HMN := Lib.hid (fun i (h : M i = none) => show ∀ j, i ≤ j → M j = none from fun j hj => by
          induction j with
          | zero => obtain rfl : i = 0 := by omega
                    exact h
          | succ j ih =>
            by_cases e : i = j + 1
            · subst e; exact h
            · rw [HMS.out, ih (by omega)]; exact plus_none _)
        have HCL := Lib.hid (fun W (hq : Qt wr W) i (hi : i < K) => show W.cell? ⟨g, i, none⟩ = some (.int .i64 (L.getD i 0)) from hq.cell ((hO.cellAt i (by omega)).trans (by simp [List.getD, List.getElem?_eq_getElem (show i < L.length by omega)])))
        have HO := Lib.hid (⟨hO, hB⟩ : _ ∧ _)
        obtain ⟨U, rfl⟩ : ∃ U, U = wr := ⟨_, rfl⟩
        clear hO hB hL hLl hM hK
        go_wp2
        go_loopw [7, 6] (fun i s wr' => ∃ (q : Nat) (x : Int), q ≤ K ∧ i = .int .i64 q ∧ s = .int .i64 x ∧ Hid (M q = some x) ∧ Qt U wr') (fun i _ _ => K - (intOf i).toNat)
        case atStart => exact ⟨0, 0, Nat.zero_le _, rfl, rfl, HM0, Qt.refl _⟩
        case round =>
          rename_i hrel
          obtain ⟨q, x, hq1, rfl, rfl, HX1, hqt⟩ := hrel
          by_cases hlq : q < K
          · have hqK : (q : Int) < (K : Int) := by omega
            obtain ⟨d, hd⟩ : ∃ d, K = q + d + 1 := ⟨K - q - 1, by omega⟩
            have hdn : d < n := by omega
            have h1 := HCL.out wr hqt q hlq
            obtain ⟨b, off, rfl, h2⟩ := HC.out wr (HO.out.2.qt hqt) d hdn
            have hla := HLA.out q hlq
            have hlb := HX.out (d + 1)
            have hls : Lim x := HML.out q x HX1.out
            have hst := HMS.out q
            rw [show K - q = d + 1 by omega, HX1.out, plus_prod] at hst
            generalize L.getD q 0 = y at h1 hla hst
            generalize xsX xs (d + 1) = z at h2 hlb hst
            have m1 : IntKind.i64.wrap ((K : Int) - (q : Int)) = (d : Int) + 1 := by rw [show (K : Int) - (q : Int) = (d : Int) + 1 by omega]; exact IntWalk.i64_in _ (by omega)
            have m2 : wrap64 ((K : Int) - (q : Int)) = (d : Int) + 1 := by rw [show (K : Int) - (q : Int) = (d : Int) + 1 by clear m1; omega]; exact IntWalk.wrap64_in _ (by clear m1; omega)
            have hdI : (d : Int) < (n : Int) := by clear m1 m2; omega
            have HST := Lib.hid hst
            have HQT := Lib.hid hqt
            clear hst hqt hd
            cases hmo : moreB x y z with
            | true =>
              have hv : moreV x y z = x + y * z := by unfold moreV; rw [if_pos (by have h := hmo; simp only [moreB, Bool.and_eq_true] at h; exact h.1)]
              have HV := Lib.hid hv
              have HMO := Lib.hid hmo
              clear hv
              go_wp2
              go_quiet ((go_at_call 70; refine Calls.quiet_of (l01MoreV _ _ _ ?_ ?_ ?_ _) <;> assumption))
              rw [HV.out]
              go_wp2
              go_roundw
              case rel => exact ⟨q+1, x + y * z, by omega, by go_num, rfl, Lib.hid (by rw [HST.out, HMO.out]; rfl), HQT.out.drewN _⟩
              case measure => simp [intOf]; omega
            | false =>
              have HMO := Lib.hid hmo
              have hno : M K = none := HMN.out (q + 1) (by rw [HST.out, HMO.out]; rfl) K (by omega)
              have hz := HLI.out k HQ.out (by rw [HNX.out, hno])
              have hzn : Q n = ([], 3) := by rw [HSTAY.out (k + 1) (by rw [hz]; decide) n (by omega), hz]
              have hP := HE.out (by rw [hzn]; decide)
              rw [hzn] at hP
              subst hP
              have HBQ := Lib.hid (HO.out.2.qt HQT.out)
              clear hno hz hzn
              go_wp2
              go_quiet ((go_at_call 70; refine Calls.quiet_of (l01MoreV _ _ _ ?_ ?_ ?_ _) <;> assumption))
              go_wp2
              go_ret2
              exact ⟨none, 0, rfl, OwI.nil' _ _ _, HBQ.out.drewN _⟩
          · obtain rfl : q = K := by omega
            have hls : Lim x := HML.out q x HX1.out
            have hnx : nxP xs (k + 1) (Q k).1 = some x := by rw [HNX.out]; exact HX1.out
            have hkk := HKK.out
            have HHO := Lib.hid (⟨ownsRow_chg HO.out.1 (hqt.below.chg 0 0) (fun _ _ => .inr (Nat.zero_le _)), HO.out.2.qt hqt⟩ : _ ∧ _)
            obtain ⟨r, hr⟩ : ∃ r, r = x.tmod (q : Int) := ⟨_, rfl⟩
            have hdz : ¬ (q : Int) = 0 := by omega
            have hrb : -24 ≤ r ∧ r ≤ 24 := by
              have h1 : r.natAbs < q := by rw [hr, Int.natAbs_tmod]; simp; exact Nat.mod_lt _ (by omega)
              omega
            have hq1 : IntKind.i64.wrap r = r := IntWalk.i64_in _ (by omega)
            have hq2 : wrap64 r = r := IntWalk.wrap64_in _ (by clear hq1; omega)
            have m1 : x.tmod (q : Int) = r := hr.symm
            by_cases hr0 : r = 0
            · have hb : (r != 0) = false := by simp [hr0]
              have hz := HYE.out k x HQ.out hnx (by rw [← hkk, ← hr]; exact hr0)
              rw [← hkk] at hz
              obtain ⟨y, hy⟩ : ∃ y, y = (-x).tdiv (q : Int) := ⟨_, rfl⟩
              have hyl : Lim y := by rw [hy]; exact tdiv_lim (by unfold Lim at *; omega)
              rw [← hy] at hz
              have n1 : IntKind.i64.wrap (-x) = -x := IntWalk.i64_in _ (by unfold Lim at hls; omega)
              have n2 : wrap64 (-x) = -x := IntWalk.wrap64_in _ (by clear n1; unfold Lim at hls; omega)
              have n3 : (-x).tdiv (q : Int) = y := hy.symm
              have n4 : IntKind.i64.wrap y = y := IntWalk.i64_in _ (by unfold Lim at hyl; omega)
              have n5 : wrap64 y = y := IntWalk.wrap64_in _ (by clear n4; unfold Lim at hyl; omega)
              have HZ := Lib.hid hz
              have HK2 := Lib.hid hkk
              obtain ⟨hO4, hB4⟩ := HHO.out
              clear hz hkk hr hy hyl hqt hnx hrb HO
              go_wp2_with (at_builtin; refine wpList_append_own _ rfl _ _ 37 rfl w.heap.size 2 i0 (.int .i64 0) 1 8 Try.underlying37 hi' z0 z1 z2 rfl (by decide) _ _ _ rfl (hO4.alloc _) ⟨wr.heap.size, 0, none⟩ 1 1 [.int .i64 y] rfl rfl ?c1 ?c2 ?c3 ?c4 ?c5 ?_)
              case c1 => exact news_one _ _ _
              case c2 => intro u hu; simp at hu; subst hu; rfl
              case c3 => unfold maxLen; omega
              case c4 => omega
              case c5 => have := hB4.size; simp; omega
              intro v3 w3 hown3 hgr _
              have hB5 : Below w.heap.size w w3 := (hB4.alloc hB4.size _).grown hgr (by have := hB4.size; simp; omega) (fun j hj => (hO4.lt j hj).1)
              have HF := Lib.hid (show (Q q).2 = 0 ∧ w3.ownsRow w.heap.size 2 1 v3 (q + 1) ((Q q).1.map (Value.int .i64)) ∧ Below w.heap.size w w3 by
                rw [HK2.out] at HZ hown3 ⊢
                refine ⟨by rw [HZ.out], ?_, hB5⟩
                rw [HZ.out]
                show w3.ownsRow _ _ _ v3 (k + 1 + 1) (((Q k).1 ++ [y]).map (Value.int .i64))
                rw [← HLQ.out, List.map_append]
                exact hown3)
              clear hown3 hgr hB5 hO4 hB4 n1 n2 n3 n4 n5 m1 hq1 hq2
              go_wp2
              go_roundw
              case rel => exact ⟨q, v3, by omega, by go_num, rfl, Lib.hid HF.out.1, HF.out.2⟩
              case measure => simp [intOf]; omega
            · have hb : (r != 0) = true := by simpa using hr0
              have hz := HNO.out k x HQ.out hnx (by rw [← hkk, ← hr]; exact hr0)
              have hzn : Q n = ([], 4) := by rw [HSTAY.out (k + 1) (by rw [hz]; decide) n (by omega), hz]
              have hP := HE.out (by rw [hzn]; decide)
              rw [hzn] at hP
              subst hP
              clear hz hzn hkk hr hqt hnx hrb HO
              go_wp2
              go_ret2
              exact ⟨none, 0, rfl, OwI.nil' _ _ _, HHO.out.2⟩
      · obtain rfl : k = n := by omega
        have hno : ¬ (K : Int) ≤ (k : Int) := by rw [HKK.out]; omega
        have hP := HY.out HQ.out
        subst hP
        have hql := HLEN.out k HQ.out
        have hO1 : OwI w.heap.size wr.heap.size wr v (Q k).1 := OwI.mk hO (by omega) (fun x hx => I64_lim (HALL.out k x hx))
        have HTR := Lib.hid (l01Trim v (Q k).1 wr (fun a' n' c' e => by
          subst e
          rcases hO.2 with ⟨h, h9⟩ | ⟨g', cap', cur, h', _, hg, hnc, _⟩
          · simp only [Value.slice.injEq] at h; omega
          · simp only [Value.slice.injEq] at h'
            omega) hO1.rd)
        have HBB := Lib.hid hB
        clear hO hB hO1 hql
        go_wp2_with fail
        refine HTR.out.mono ?_
        rintro e w4 ⟨a4, c4, rfl, o4, b4⟩
        have HF := Lib.hid (⟨o4.mono HBB.out.size (Nat.le_refl _), HBB.out.next b4⟩ : OwI w.heap.size _ _ _ _ ∧ _)
        clear o4 b4 HTR
        go_wp2
        go_ret2
        exact ⟨a4, c4, rfl, HF.out⟩

end Go.Proofs.Ytebgbplhcaocoaa
