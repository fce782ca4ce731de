/- Numbers of walks of the model: l03Rows. -/
import Derived.Test.YtgcidkcedfliiaaMatZ
import Derived.Test.YtgcidkcedfliiaaSpecMat
import Derived.Test.YtgcidkcedfliiaaNext
import Derived.StillTailTactics
set_option linter.unusedSimpArgs false
set_option linter.unusedVariables false
namespace Go.Proofs.Ytgcidkcedfliiaa
open Go.RowKit

theorem edgeM_01 (ds : List (Int × Int)) (i j : Nat) : edgeM ds i j = 0 ∨ edgeM ds i j = 1 := by
  unfold edgeM
  split
  · exact .inr rfl
  · exact .inl rfl
/-- the next row on the way: the first b terms, and for the numbers below c one more -/
def nxt (u : Nat → Int) (M : Nat → Nat → Int) (b c : Nat) (j : Nat) : Int := dotZ u (fun r => M r j) b + (if j < c then u b * M b j else 0)
def nrow (u : Nat → Int) (M : Nat → Nat → Int) (N b c : Nat) : List Value := (List.range N).map (fun j => Value.int .i64 (nxt u M b c j))
def urow (u : Nat → Int) (N : Nat) : List Value := (List.range N).map (fun j => Value.int .i64 (u j))
theorem urow_get (u : Nat → Int) {N j : Nat} (h : j < N) : (urow u N)[j]? = some (.int .i64 (u j)) := by simp [urow, h]
theorem nrow_zero (u : Nat → Int) (M : Nat → Nat → Int) (N : Nat) : (madeCells #[Value.int .i64 0] N).toList = nrow u M N 0 0 := by
  rw [toList_madeCells_one]
  apply List.ext_getElem
  · simp [nrow]
  · intro j h1 h2
    simp [nrow, nxt, dotZ]
theorem nrow_next (u : Nat → Int) (M : Nat → Nat → Int) (N b : Nat) : nrow u M N b N = nrow u M N (b + 1) 0 := by
  unfold nrow
  refine List.map_congr_left fun j hj => ?_
  have : j < N := by simpa using hj
  simp [nxt, this, dotZ]
theorem nrow_skip (u : Nat → Int) (M : Nat → Nat → Int) (N b c : Nat) (h : u b = 0) : nrow u M N b c = nrow u M N (b + 1) 0 := by
  unfold nrow
  refine List.map_congr_left fun j hj => ?_
  simp [nxt, dotZ, h]
theorem nrow_no (u : Nat → Int) (M : Nat → Nat → Int) (N b c : Nat) (h : M b c = 0) : nrow u M N b c = nrow u M N b (c + 1) := by
  unfold nrow
  refine List.map_congr_left fun j hj => ?_
  by_cases e : j = c
  · subst e; simp [nxt, h]
  · have : (j < c) ↔ (j < c + 1) := by omega
    simp [nxt, this]
theorem nrow_get (u : Nat → Int) (M : Nat → Nat → Int) {N b c : Nat} (h : c < N) : (nrow u M N b c)[c]? = some (.int .i64 (dotZ u (fun r => M r c) b)) := by
  simp [nrow, nxt, h]
theorem nrow_yes (u : Nat → Int) (M : Nat → Nat → Int) {N b c : Nat} (hc : c < N) (h : M b c = 1) : (nrow u M N b c).set c (.int .i64 (dotZ u (fun r => M r c) b + u b)) = nrow u M N b (c + 1) := by
  apply List.ext_getElem
  · simp [nrow]
  · intro j h1 h2
    rw [List.getElem_set]
    by_cases e : c = j
    · subst e; simp [nrow, nxt, h]
    · rw [if_neg e]
      have : (j < c) ↔ (j < c + 1) := by omega
      simp [nrow, nxt, this]
theorem nrow_all (N : Nat) (M : Nat → Nat → Int) (i a : Nat) : nrow (pwZ N M i a) M N N 0 = urow (pwZ N M (i + 1) a) N := by
  unfold nrow urow
  refine List.map_congr_left fun j hj => ?_
  simp [nxt, pwZ]
theorem urow_unit {N a : Nat} (M : Nat → Nat → Int) (ha : a < N) : ((madeCells #[Value.int .i64 0] N).toList).set a (.int .i64 1) = urow (pwZ N M 0 a) N := by
  rw [toList_madeCells_one]
  apply List.ext_getElem
  · simp [urow]
  · intro j h1 h2
    rw [List.getElem_set]
    by_cases e : a = j
    · subst e; simp [urow, pwZ, unitM]
    · simp [urow, pwZ, unitM, e]
theorem zero_get {N a : Nat} (ha : a < N) : ((madeCells #[Value.int .i64 0] N).toList)[a]? = some (.int .i64 0) := by
  rw [toList_madeCells_one]; simp [ha]

set_option maxRecDepth 100000 in
set_option maxHeartbeats 6400000 in
theorem l03Rows {lo hi : Nat} (s : Int) (a : Option Addr) (n c : Nat) (xss : List (List Int)) (kk : Nat) (w : World) (h : RdR lo hi w (.slice a n c) xss) (hn : xss.length = n) (hg : grB s xss = true) (hk1 : 1 ≤ kk) (hk12 : kk ≤ 12) :
    Calls Try.prog 91 #[.agg #[.int .i64 s, .slice a n c], .int .i64 kk] w fun e w' => ∃ a' c', e = .returned (.slice a' (2 * n) c') ∧ OwR w.heap.size w'.heap.size w' (.slice a' (2 * n) c') (tab (2 * n) (pwZ (2 * n) (edgeM (dirE (pairs xss))) (kk - 1))) ∧ Below w.heap.size w w' := by
  obtain ⟨i0, hi', z0, z1, z2⟩ := info_parts Try.info2
  obtain ⟨j0, hj', y0, y1, y2⟩ := info_parts Try.info25
  have hn10 : n ≤ 10 := by have := grB_iff hg; omega
  have HR := Lib.hid h
  have HNX := Lib.hid (fun W' (h' : RdR lo hi W' (.slice a n c) xss) x y i0 i1 j0 j1 => l03Next s a n c xss W' h' hn hg x y i0 i1 j0 j1)
  obtain ⟨ds, hds⟩ : ∃ ds, ds = dirE (pairs xss) := ⟨_, rfl⟩
  obtain ⟨N, hN⟩ : ∃ N, N = 2 * n := ⟨_, rfl⟩
  rw [← hds] at HNX ⊢
  have hN20 : N ≤ 20 := by omega
  have HM3 := Lib.hid (show 2 * (n : Int) = (N : Int) by omega)
  obtain ⟨K, hK⟩ : ∃ K, K = kk - 1 := ⟨_, rfl⟩
  have HK := Lib.hid (show kk = K + 1 by omega)
  have hK11 : K ≤ 11 := by omega
  rw [← hK]
  clear hK
  have HBD := Lib.hid (pwZ_bd (N := N) (M := edgeM ds) hN20 (edgeM_01 ds))
  have HTL := Lib.hid (show (tab N (pwZ N (edgeM ds) K)).length = N from tab_len _ _)
  rw [← hN]
  obtain ⟨MM, hMM⟩ : ∃ MM, MM = edgeM ds := ⟨_, rfl⟩
  have HMM := Lib.hid hMM
  rw [← hMM] at HBD HTL ⊢
  clear h hn hg hds hMM
  have hm2 : IntKind.i64.wrap (2 * (n : Int)) = (N : Int) := by rw [hN]; rw [IntWalk.i64_in _ (by omega)]; omega
  have hm2' : wrap64 (2 * (n : Int)) = (N : Int) := by rw [hN]; rw [IntWalk.wrap64_in _ (by clear hm2; omega)]; clear hm2; omega
  clear hN
  go_enter Try.func91, Try.ntmps91
  go_wp2
  clear hm2 hm2'
  have hB := (Below.refl w.heap.size w).alloc (Nat.le_refl _) (.cells #[.int .i64 s, .slice a n c] 29)
  have k0 : (w.alloc (.cells #[.int .i64 s, .slice a n c] 29)).cell? ⟨w.heap.size, 0, none⟩ = some (.int .i64 s) := by go_simp
  have k1 : (w.alloc (.cells #[.int .i64 s, .slice a n c] 29)).cell? ⟨w.heap.size, 1, none⟩ = some (.slice a n c) := by go_simp
  have hz : w.heap.size < (w.alloc (.cells #[.int .i64 s, .slice a n c] 29)).heap.size := by simp
  have hsz : w.heap.size + 1 = (w.alloc (.cells #[.int .i64 s, .slice a n c] 29)).heap.size := by simp
  rw [hsz]
  generalize w.alloc (.cells #[.int .i64 s, .slice a n c] 29) = W at hB k0 k1 hz ⊢
  obtain ⟨B, hB0⟩ : ∃ B, B = w.heap.size := ⟨_, rfl⟩
  rw [← hB0] at k0 k1 hz ⊢
  have hbA := (Below.refl W.heap.size W).alloc (Nat.le_refl _) (.cells #[] 25)
  have hl0 := World.ownsRow_lit (base := W.heap.size) (e := 25) (size := 1) W #[] 0 (Nat.le_refl _) (by unfold maxLen; omega) rfl
  have hP0 : OwP W.heap.size B (W.alloc (.cells #[] 25)) W.heap.size 0 0 [] [] := OwP.empty hl0 (by omega)
  have HP0 := Lib.hid (⟨hP0, hB.next hbA, by show B < (W.alloc (.cells #[] 25)).heap.size; simp; omega, hbA.keep k0, hbA.keep k1⟩ : _ ∧ _ ∧ B < (W.alloc (.cells #[] 25)).heap.size ∧ _ ∧ _)
  obtain ⟨L, hL⟩ : ∃ L, L = W.heap.size := ⟨_, rfl⟩
  have hBL : B < L := by omega
  have hLw : w.heap.size ≤ L := by omega
  rw [← hL] at HP0 ⊢
  generalize W.alloc (.cells #[] 25) = V at HP0 ⊢
  clear hl0 hP0 k0 k1 hB hz hL hbA hsz hB0
  go_loopw [7, 6] (fun i v wr => ∃ (k : Nat) (rvs : List Value) (g cc : Nat), k ≤ N ∧ i = .int .i64 k ∧ v = .slice (some ⟨g, 0, none⟩) k cc ∧ OwP L B wr g k cc rvs ((tab N (pwZ N MM K)).take k) ∧ Below w.heap.size w wr ∧ B < wr.heap.size ∧ wr.cell? ⟨B, 0, none⟩ = some (.int .i64 s) ∧ wr.cell? ⟨B, 1, none⟩ = some (.slice a n c)) (fun i _ _ => N - (intOf i).toNat)
  case atStart => exact ⟨0, [], L, 0, Nat.zero_le _, rfl, rfl, HP0.out⟩
  case round =>
    clear HP0
    obtain ⟨k, rvs, g, cc, hk, rfl, rfl, hP, hB, hzr, k0, k1⟩ := hrel
    obtain ⟨U, rfl⟩ : ∃ U, U = wr := ⟨_, rfl⟩
    by_cases hlt : k < N
    · have HST := Lib.hid (tab_take (pwZ N MM K) hlt)
      have HPB := Lib.hid (⟨hP, hB, hzr, k0, k1⟩ : _ ∧ _ ∧ _ ∧ _ ∧ _)
      clear hP hB hzr k0 k1
      go_wp2_with (at_make; refine wpList_make_full _ rfl _ _ 25 rfl U.heap.size 2 i0 (.int .i64 0) 1 Try.underlying25 hi' z0 z1 _ _ _ _ N rfl rfl rfl rfl ?c1 ?c2 ?c3 ?_)
      case c1 => rw [z2]; omega
      case c2 => unfold maxLen; omega
      case c3 => exact Nat.le_refl _
      intro w1 hown hgr
      have hb1 : Below U.heap.size U w1 := (Below.refl _ _).grown hgr (Nat.le_refl _) (fun j hj => by cases hj)
      have h3 := (hown.cellAt k (by omega)).trans (zero_get hlt)
      have h4 := hown.frozenAt k
      have hsto := (hown.stored k (.int .i64 1)).1
      rw [urow_unit MM hlt] at hsto
      obtain ⟨R, hR⟩ : ∃ R, R = U.heap.size := ⟨_, rfl⟩
      have HRR := Lib.hid hR
      rw [← hR] at hsto h3 h4 hb1 ⊢
      have HW1 := Lib.hid (⟨hsto, hb1.setCell (p := ⟨R, k, none⟩) (Nat.le_refl _) _⟩ : _ ∧ Below R U (w1.setCell ⟨R, k, none⟩ (.int .i64 1)))
      clear hsto hb1 hown hgr hR
      go_wp2
      go_loopw [9, 8] (fun y v wr' => ∃ (i R1 : Nat), i ≤ K ∧ y = .int .i64 ((i + 1 : Nat) : Int) ∧ v = .slice (some ⟨R1, 0, none⟩) N N ∧ wr'.ownsRow R 2 1 (.slice (some ⟨R1, 0, none⟩) N N) N (urow (pwZ N MM i k) N) ∧ Below R U wr') (fun y _ _ => K + 2 - (intOf y).toNat)
      case atStart => exact ⟨0, R, Nat.zero_le _, rfl, rfl, HW1.out⟩
      case round =>
        rename_i hrel
        clear HW1 h3 h4
        obtain ⟨i, R1, hi, rfl, rfl, hown, hb⟩ := hrel
        by_cases hli : i + 1 < kk
        · obtain ⟨V, rfl⟩ : ∃ V, V = wr := ⟨_, rfl⟩
          have HV := Lib.hid (⟨hown, hb⟩ : _ ∧ _)
          clear hown hb
          go_wp2_with (at_make; refine wpList_make_full _ rfl _ _ 25 rfl V.heap.size 2 i0 (.int .i64 0) 1 Try.underlying25 hi' z0 z1 _ _ _ _ N rfl rfl rfl rfl ?d1 ?d2 ?d3 ?_)
          case d1 => rw [z2]; omega
          case d2 => unfold maxLen; omega
          case d3 => exact Nat.le_refl _
          intro w2 hown2 hgr2
          rw [nrow_zero (pwZ N MM i k) MM N] at hown2
          have hb2 : Below V.heap.size V w2 := (Below.refl _ _).grown hgr2 (Nat.le_refl _) (fun j hj => by cases hj)
          obtain ⟨R2, hR2⟩ : ∃ R2, R2 = V.heap.size := ⟨_, rfl⟩
          have HR2 := Lib.hid hR2
          rw [← hR2] at hown2 hb2 ⊢
          have HW2 := Lib.hid (⟨hown2, hb2⟩ : _ ∧ _)
          clear hown2 hb2 hgr2 hR2
          obtain ⟨u, hu⟩ : ∃ u, u = pwZ N MM i k := ⟨_, rfl⟩
          have HUB := Lib.hid (show ∀ r, 0 ≤ u r ∧ u r ≤ 4096000000000000 from fun r => by
            rw [hu]; have := HBD.out i k r; have := bnd_le (show i ≤ 12 by omega); omega)
          have HALL := Lib.hid (nrow_all N MM i k)
          rw [← hu] at HW2 HV HALL
          clear hu
          go_wp2
          go_loopw [11] (fun y wr' => ∃ b : Nat, b ≤ N ∧ y = .int .i64 b ∧ wr'.ownsRow R2 2 1 (.slice (some ⟨R2, 0, none⟩) N N) N (nrow u MM N b 0) ∧ Below R2 V wr') (fun y _ => N - (intOf y).toNat)
          case atStart => exact ⟨0, Nat.zero_le _, rfl, HW2.out⟩
          case round =>
            rename_i hrel
            clear HW2
            obtain ⟨b, hbN, rfl, hown, hb⟩ := hrel
            by_cases hlb : b < N
            · have HX := Lib.hid (⟨hown, hb⟩ : _ ∧ _)
              clear hown hb
              go_wp2
              go_loopw [12] (fun y wr' => ∃ cq : Nat, cq ≤ N ∧ y = .int .i64 cq ∧ wr'.ownsRow R2 2 1 (.slice (some ⟨R2, 0, none⟩) N N) N (nrow u MM N b cq) ∧ Below R2 V wr') (fun y _ => N - (intOf y).toNat)
              case atStart => exact ⟨0, Nat.zero_le _, rfl, HX.out⟩
              case round =>
                rename_i hrel
                clear HX
                obtain ⟨cq, hcN, rfl, hown, hb⟩ := hrel
                by_cases hlc : cq < N
                · have hVown := HV.out.1
                  have hbV : Below V.heap.size V wr := by rw [← HR2.out]; exact hb
                  have g0 := hbV.keep ((hVown.cellAt b (by omega)).trans (urow_get u hlb))
                  have hub := HUB.out b
                  have hlcI : (cq : Int) < (N : Int) := by omega
                  by_cases hx : 0 < u b
                  · obtain ⟨b0, hb0⟩ : ∃ b0 : Bool, b0 = stepQ ds (b : Int) (cq : Int) := ⟨_, rfl⟩
                    have hbw : Below w.heap.size w wr := by
                      obtain ⟨_, hB, _, _, _⟩ := HPB.out
                      have hbR : Below R U V := HV.out.2
                      have h1 : Below U.heap.size U V := by rw [← HRR.out]; exact hbR
                      exact hB.next (h1.next hbV)
                    have k0 : wr.cell? ⟨B, 0, none⟩ = some (.int .i64 s) := by
                      obtain ⟨_, hB, _, k0, _⟩ := HPB.out
                      have hbR : Below R U V := HV.out.2
                      have h1 : Below U.heap.size U V := by rw [← HRR.out]; exact hbR
                      exact hbV.keep (h1.keep k0)
                    have k1 : wr.cell? ⟨B, 1, none⟩ = some (.slice a n c) := by
                      obtain ⟨_, hB, _, _, k1⟩ := HPB.out
                      have hbR : Below R U V := HV.out.2
                      have h1 : Below U.heap.size U V := by rw [← HRR.out]; exact hbR
                      exact hbV.keep (h1.keep k1)
                    have hnx := HNX.out wr (HR.out.below hbw) (b : Int) (cq : Int) (by omega) (by rw [HM3.out]; omega) (by omega) (by rw [HM3.out]; omega)
                    rw [← hb0] at hnx
                    have hme : MM b cq = if b0 = true then 1 else 0 := by rw [HMM.out, hb0]; rfl
                    obtain ⟨x, hxx⟩ : ∃ x, x = u b := ⟨_, rfl⟩
                    rw [← hxx] at g0 hx hub
                    have HXX := Lib.hid hxx
                    have HME := Lib.hid hme
                    have HO := Lib.hid (⟨hown, hb⟩ : _ ∧ _)
                    have HG0 := Lib.hid g0
                    clear hme hb0 hown hb hVown hbV hbw hxx
                    have hxb : decide (0 < x) = true := decide_eq_true hx
                    go_wp2_with fail
                    refine hnx.mono ?_
                    clear hnx
                    rintro e w5 ⟨rfl, b5⟩
                    obtain ⟨hown, hb⟩ := HO.out
                    replace hown := ownsRow_chg hown (b5.chg 0 0) (fun _ _ => .inr (Nat.zero_le _))
                    have hbsz : R2 ≤ wr.heap.size := by rw [HR2.out]; rw [HR2.out] at hb; exact hb.size
                    replace hb := hb.trans (b5.mono hbsz)
                    have g5 := b5.keep HG0.out
                    clear HO HG0 b5 g0 k0 k1 hbsz
                    cases b0 with
                    | false =>
                      have hm0 := HME.out
                      rw [if_neg (by simp)] at hm0
                      rw [nrow_no u MM N b cq hm0] at hown
                      have HF := Lib.hid (⟨hown, hb⟩ : _ ∧ _)
                      clear hown hb hm0 g5
                      go_wp2
                      go_roundw
                      case rel => exact ⟨cq+1, by omega, by go_num, HF.out⟩
                      case measure => simp [intOf]; omega
                    | true =>
                      have hm1 := HME.out
                      rw [if_pos rfl] at hm1
                      have hst := nrow_yes u MM (N := N) (b := b) hlc hm1
                      have hownD : w5.drew.ownsRow R2 2 1 (.slice (some ⟨R2, 0, none⟩) N N) N (nrow u MM N b cq) := ownsRow_chg hown ((Qt.refl w5).drew.chg 0 0) (fun _ _ => .inr (Nat.zero_le _))
                      have g2 := (hown.cellAt cq (by omega)).trans (nrow_get u MM hlc)
                      have hfr := hownD.frozenAt cq
                      have hdz := dotZ_bd (u := u) (v := fun r => MM r cq) HUB.out (fun r => by rw [HMM.out]; exact edgeM_01 ds r cq) b
                      have hdz2 := kB (show b ≤ 20 by omega) (show (0 : Int) ≤ 4096000000000000 by omega)
                      rw [← HXX.out] at hst
                      generalize dotZ u (fun r => MM r cq) b = d at g2 hst hdz
                      have hsto := (hownD.stored cq (.int .i64 (d + x))).1
                      rw [hst] at hsto
                      have HF := Lib.hid (⟨hsto, hb.drew.setCell (p := ⟨R2, cq, none⟩) (Nat.le_refl _) _⟩ : _ ∧ Below R2 V (w5.drew.setCell ⟨R2, cq, none⟩ (.int .i64 (d + x))))
                      have hdx : -9223372036854775808 ≤ d + x ∧ d + x ≤ 9223372036854775807 := by omega
                      have g2' : w5.drew.cell? ⟨R2, cq, none⟩ = some (.int .i64 d) := g2
                      clear hm1 hst hown hb hsto hownD hdz hdz2 hub
                      obtain ⟨t, ht⟩ : ∃ t, t = d + x := ⟨_, rfl⟩
                      rw [← ht] at HF hdx
                      have t1 : IntKind.i64.wrap (d + x) = t := by rw [← ht]; exact IntWalk.i64_in _ hdx
                      have t2 : wrap64 (d + x) = t := by rw [← ht]; exact IntWalk.wrap64_in _ hdx
                      clear ht hdx
                      go_wp2
                      go_still_tail 12, (by kernel_rfl)
                      change wpList _ _ _ _ _ w5.drew
                      clear g2 g5
                      generalize w5.drew = Y at HF g2' hfr ⊢
                      go_wp2
                      clear t1 t2
                      go_roundw
                      case rel => exact ⟨cq+1, by omega, by go_num, HF.out⟩
                      case measure => simp [intOf]; omega
                  · have hx0 : u b = 0 := by omega
                    rw [hx0] at g0
                    rw [nrow_skip u MM N b cq hx0] at hown
                    have HF := Lib.hid (⟨hown, hb⟩ : _ ∧ _)
                    clear hown hb hVown hbV hub hx hx0
                    go_wp2
                    go_roundw
                    case rel => exact ⟨b+1, by omega, by go_num, HF.out⟩
                    case measure => simp [intOf]; omega
                · obtain rfl : cq = N := by omega
                  rw [nrow_next] at hown
                  have HF := Lib.hid (⟨hown, hb⟩ : _ ∧ _)
                  clear hown hb
                  go_wp2
                  go_roundw
                  case rel => exact ⟨b+1, by omega, by go_num, HF.out⟩
                  case measure => simp [intOf]; omega
            · obtain rfl : b = N := by omega
              rw [HALL.out] at hown
              have hbR : Below R U V := HV.out.2
              have hRV : R ≤ R2 := by rw [HR2.out]; have := hbR.size; have := HRR.out; omega
              have HF := Lib.hid (⟨(ownsRow_mono hown hRV), hbR.trans (hb.mono hRV)⟩ : _ ∧ Below R U wr)
              clear hown hb hbR
              go_wp2
              go_roundw
              case rel => exact ⟨i+1, R2, by have := HK.out; omega, by go_num, rfl, HF.out⟩
              case measure => simp [intOf]; omega
        · obtain rfl : i = K := by have := HK.out; omega
          have hO : OwI R wr.heap.size wr (.slice (some ⟨R1, 0, none⟩) N N) ((List.range N).map (pwZ N MM i k)) := OwI.mk (by rw [List.map_map]; exact hown) (by omega) (fun x hx => by
            simp only [List.mem_map] at hx
            obtain ⟨j, _, rfl⟩ := hx
            have := HBD.out i k j; have := bnd_le (show i ≤ 12 by omega)
            unfold I64; omega)
          obtain ⟨hP, hB, hzr, k0, k1⟩ := HPB.out
          rw [HRR.out] at hO hb
          have hownV := (hP.below hb).out.alloc (.cells #[.slice (some ⟨R1, 0, none⟩) N N] 25)
          have hnews := news_one wr 25 (.slice (some ⟨R1, 0, none⟩) N N)
          have hszw := hb.size
          have hlt2 : L ≤ g ∧ g < U.heap.size := hP.lt
          have HP := Lib.hid (⟨hO, hP, hB, hb, k0, k1⟩ : _ ∧ _ ∧ _ ∧ _ ∧ _ ∧ _)
          clear hO hP hB hown hb k0 k1
          go_wp2_with (at_builtin; refine wpList_append_lies _ rfl _ _ 22 rfl L 25 j0 (.slice none 0 0) 1 24 Try.underlying22 hj' y0 y1 y2 rfl (by decide) _ _ _ rfl hownV ⟨wr.heap.size, 0, none⟩ 1 1 [.slice (some ⟨R1, 0, none⟩) N N] rfl rfl ?c1 ?c2 (by decide) ?c3 ?c4 ?c5 _ rfl ?_)
          case c1 => exact hnews
          case c2 => first | (intro u hu; simp at hu; subst hu; rfl) | rfl | simp
          case c3 => unfold maxLen; omega
          case c4 => omega
          case c5 => simp; omega
          intro g2 c3 w3 hown3 hgr hlie hlt3
          obtain ⟨hO, hP, hB, hb, k0, k1⟩ := HP.out
          have hV3 := hP.snocF (hi := wr.heap.size) (by omega) hb hO hown3 hgr (hlie.imp id (fun e => by rw [e]; simp))
          have hb3 : Chg g (g + 1) U w3 := snocC hb hgr
          rw [← HST.out] at hV3
          have hBg : B < g := by omega
          have hB3 := hB.chgn hb3 (by omega) hB.size
          have HF := Lib.hid (⟨hV3, hB3, Nat.lt_of_lt_of_le HPB.out.2.2.1 hb3.size, hb3.cell k0 (.inl hBg), hb3.cell k1 (.inl hBg)⟩ : _ ∧ _ ∧ _ ∧ _ ∧ _)
          clear hO hP hB hb k0 k1 hV3 hb3 hB3 hown3 hgr hlie hnews hownV
          go_wp2
          go_roundw
          case rel => exact ⟨k+1, _, g2, c3, by omega, by go_num, rfl, HF.out⟩
          case measure => simp [intOf]; omega
    · obtain rfl : k = N := by omega
      rw [List.take_of_length_le (by rw [HTL.out]; exact Nat.le_refl _)] at hP
      have hbig : k ≤ 8796093022208 := by omega
      have hO := OwR.mono (hP.owr hbig) hLw (Nat.le_refl _)
      have HF := Lib.hid (⟨hO, hB⟩ : _ ∧ _)
      clear hO hbig hP hB k0 k1
      go_wp2
      go_ret
      exact ⟨_, _, rfl, HF.out⟩

end Go.Proofs.Ytgcidkcedfliiaa
