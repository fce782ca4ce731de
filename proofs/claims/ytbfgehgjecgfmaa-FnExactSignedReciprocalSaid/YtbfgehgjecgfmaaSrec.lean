/- SignedReciprocal, both sides. -/
import Derived.Test.YtbfgehgjecgfmaaRec
import Derived.Test.YtbfgehgjecgfmaaDbl
import Derived.Test.YtbfgehgjecgfmaaSpecLap
import Derived.Test.YtbfgehgjecgfmaaEdgeRows
set_option linter.unusedSimpArgs false
set_option linter.unusedVariables false
set_option maxRecDepth 100000
namespace Go.Proofs.Ytbfgehgjecgfmaa
open Go.RowKit

/-- the sign at a column -/
def sgn (ys : List Int) (j : Nat) : Int := ys.getD (j / 2) 0
/-- rows below k are done, and of the row k the numbers below m -/
def srS (f : Nat → Nat → Int) (ys : List Int) (k m : Nat) : Nat → Nat → Int := fun i j => if i < k ∨ (i = k ∧ j < m) then f i j * sgn ys j else f i j
theorem srS_start (f : Nat → Nat → Int) (ys : List Int) : srS f ys 0 0 = f := by
  funext i j; unfold srS; rw [if_neg (by omega)]
theorem srS_at (f : Nat → Nat → Int) (ys : List Int) (k m : Nat) : srS f ys k m k m = f k m := by unfold srS; rw [if_neg (by omega)]
theorem srS_put (f : Nat → Nat → Int) (ys : List Int) (k m : Nat) : put (srS f ys k m) k m (f k m * sgn ys m) = srS f ys k (m + 1) := by
  funext i j
  unfold put srS
  by_cases h : i = k ∧ j = m
  · obtain ⟨rfl, rfl⟩ := h
    rw [if_pos ⟨rfl, rfl⟩, if_pos (by omega)]
  · rw [if_neg h]
    by_cases h2 : i < k ∨ (i = k ∧ j < m)
    · rw [if_pos h2, if_pos (by omega)]
    · rw [if_neg h2, if_neg (by omega)]
theorem srS_row (f : Nat → Nat → Int) (ys : List Int) (N k : Nat) : tab N (srS f ys k N) = tab N (srS f ys (k + 1) 0) := tab_congr fun i j hi hj => by
  unfold srS
  by_cases h2 : i < k ∨ (i = k ∧ j < N)
  · rw [if_pos h2, if_pos (by omega)]
  · rw [if_neg h2, if_neg (by omega)]
theorem srS_all (ds : List (Int × Int)) (ys : List Int) (N : Nat) : tab N (srS (edgeM ds) ys N 0) = tab N (edgeS ds (sgn ys)) := tab_congr fun i j hi hj => by
  unfold srS edgeS
  rw [if_pos (by omega)]

def srecOf (s : Int) (xss : List (List Int)) (ys : List Int) : List Int × Int :=
  if dblCode s xss ys = 0 then (trim (dkL (edgeS (dirE (pairs xss)) (sgn ys)) (2 * xss.length)), 0) else ([], dblCode s xss ys)
theorem dbl_okS {s : Int} {xss : List (List Int)} {ys : List Int} (h : dblCode s xss ys = 0) : grB s xss = true ∧ ys.length = xss.length ∧ ∀ j, j < ys.length → ys.getD j 0 = 1 ∨ ys.getD j 0 = -1 := by
  unfold dblCode at h
  split at h
  · rename_i hg
    split at h
    · rename_i hs
      refine ⟨hg, ?_⟩
      unfold signsB at hs
      simp only [Bool.and_eq_true, decide_eq_true_eq, List.all_eq_true] at hs
      refine ⟨hs.2, fun j hj => ?_⟩
      have e : ys.getD j 0 = ys[j] := by simp [List.getD, List.getElem?_eq_getElem hj]
      have := hs.1 _ (List.getElem_mem hj)
      rw [e]
      unfold sgB at this
      simpa using this
    · omega
  · omega

set_option maxHeartbeats 6400000 in
theorem implSrec {lo hi lo' hi' : Nat} (s : Int) (a : Option Addr) (n c : Nat) (xss : List (List Int)) (a2 : Option Addr) (n2 c2 : Nat) (ys : List Int) (w : World) (h : RdR lo hi w (.slice a n c) xss) (hn : xss.length = n) (h2 : RdI lo' hi' w (.slice a2 n2 c2) ys) (hn2 : ys.length = n2) :
    Calls Try.prog 32 #[.agg #[.int .i64 s, .slice a n c], .slice a2 n2 c2] w fun e w' => ∃ a' c', e = .returned (.tuple #[.slice a' (srecOf s xss ys).1.length c', .int .i64 (srecOf s xss ys).2]) ∧ OwI w.heap.size w'.heap.size w' (.slice a' (srecOf s xss ys).1.length c') (srecOf s xss ys).1 ∧ Below w.heap.size w w' := by
  have hb0 : ∀ o, Below w.heap.size w (w.alloc o) := fun o => (Below.refl _ _).alloc (Nat.le_refl _) o
  have HN := Lib.hid hn
  have HN2 := Lib.hid hn2
  have HR := Lib.hid h
  have HR2 := Lib.hid h2
  obtain ⟨P, hP⟩ : ∃ P, P = srecOf s xss ys := ⟨_, rfl⟩
  rw [← hP]
  unfold srecOf at hP
  rw [hn] at hP
  have HP := Lib.hid hP
  have HOK := Lib.hid (fun h => dbl_okS (s := s) (xss := xss) (ys := ys) h)
  clear hn h hP h2 hn2
  go_enter Try.func32, Try.ntmps32
  go_wp2_with fail
  refine calls_gen (fun W => Below w.heap.size w W ∧ W.cell? ⟨w.heap.size, 0, none⟩ = some (.int .i64 s) ∧ W.cell? ⟨w.heap.size, 1, none⟩ = some (.slice a n c)) ⟨hb0 _, by go_simp, by go_simp⟩ ?_
  rintro W ⟨hB, k0, k1⟩
  refine (checkSigns s a n c xss a2 n2 c2 ys W (HR.out.below hB) HN.out (HR2.out.below hB) HN2.out).mono ?_
  rintro e w1 ⟨rfl, b1⟩
  replace k0 := b1.keep k0
  replace k1 := b1.keep k1
  replace hB := hB.next b1
  clear b1
  generalize dblCode s xss ys = cd at HP HOK ⊢
  by_cases hc : cd = 0
  case neg =>
    have hP := HP.out
    rw [if_neg hc] at hP
    have hcb : (cd != 0) = true := by simpa using hc
    subst hP
    clear HP HOK hc k0 k1
    go_wp2
    refine bodyPost_ret (v := .tuple #[.slice none 0 0, .int .i64 cd]) (by simp [results, Try.results32, go_sem]) rfl ⟨none, 0, rfl, OwI.nil' _ _ _, hB⟩
  have hP := HP.out
  rw [if_pos hc] at hP
  obtain ⟨hg, hyn, hys⟩ := HOK.out hc
  have hn10 : n ≤ 10 := by have := grB_iff hg; have := HN.out; omega
  have hn2n : n2 = n := by rw [← HN2.out, hyn, HN.out]
  have HRW := Lib.hid (edgeRows s a n c xss w1 (HR.out.below hB) HN.out hg)
  have HSG := Lib.hid (fun j (hj : j < 2 * n) => show sgn ys j = 1 ∨ sgn ys j = -1 from hys (j / 2) (by rw [HN2.out]; omega))
  have HFT : Hid (fits (edgeS (dirE (pairs xss)) (sgn ys)) (2 * n)) := Lib.hid (by
    rw [← HN.out]
    refine edgeS_fits hg _ (fun c => ?_)
    unfold sgn
    by_cases hcl : c / 2 < ys.length
    · rcases hys (c / 2) hcl with e | e <;> rw [e] <;> decide
    · have : ys.getD (c / 2) 0 = 0 := by simp [List.getD, List.getElem?_eq_none (Nat.le_of_not_lt hcl)]
      rw [this]; decide)
  have HAL := Lib.hid (srS_all (dirE (pairs xss)) ys (2 * n))
  have H01 := Lib.hid (fun i j => edgeM_bool (dirE (pairs xss)) i j)
  have HC := Lib.hid (fun W (hB : Below w.heap.size w W) => (HR2.out.below hB).at HN2.out)
  generalize edgeS (dirE (pairs xss)) (sgn ys) = F at HFT HAL hP
  generalize edgeM (dirE (pairs xss)) = f at HRW HAL H01
  have HPP := Lib.hid hP
  have HB := Lib.hid hB
  subst hc
  obtain ⟨N, hN⟩ : ∃ N, N = 2 * n := ⟨_, rfl⟩
  rw [← hN] at HRW HFT HPP HSG HAL
  have hN20 : N ≤ 20 := by omega
  have hNn2 : N = 2 * n2 := by omega
  have HNN := Lib.hid hNn2
  clear HP HOK hP hg hN hB hn10 hyn hys hn2n hNn2
  go_wp2_with fail
  refine HRW.out.mono ?_
  rintro e w2 ⟨a9, c9, rfl, o2, b2⟩
  obtain ⟨L, hL⟩ : ∃ L, L = w1.heap.size := ⟨_, rfl⟩
  obtain ⟨H1, hH⟩ : ∃ H, H = w2.heap.size := ⟨_, rfl⟩
  have HLW : Hid (w.heap.size ≤ L) := Lib.hid (by rw [hL]; exact HB.out.size)
  have HH : Hid (H1 ≤ w2.heap.size) := Lib.hid (by omega)
  rw [← hL, ← hH] at o2
  have HO := Lib.hid (⟨by rw [srS_start]; exact o2, HB.out.next b2⟩ : OwR L H1 w2 (.slice a9 N c9) (tab N (srS f ys 0 0)) ∧ _)
  clear HRW o2 b2 k0 k1 hL hH
  go_wp2
  go_loopw [21] (fun v wr => ∃ k : Nat, k ≤ N ∧ v = .int .i64 k ∧ OwR L H1 wr (.slice a9 N c9) (tab N (srS f ys k 0)) ∧ Below w.heap.size w wr ∧ H1 ≤ wr.heap.size) (fun v _ => N - (intOf v).toNat)
  case atStart => exact ⟨0, Nat.zero_le _, rfl, HO.out.1, HO.out.2, HH.out⟩
  case round =>
    clear HO HH
    obtain ⟨k, hk, rfl, hO, hB, hH⟩ := hrel
    obtain ⟨U, rfl⟩ : ∃ U, U = wr := ⟨_, rfl⟩
    by_cases hlt : k < N
    · obtain ⟨g, b, cb, rfl, e2, _⟩ := hO.ent (i := k) (j := 0) hlt (by omega)
      have HO := Lib.hid (⟨hO, e2, hB, hH⟩ : _ ∧ _ ∧ _ ∧ _)
      have hkn : (k : Int) < (N : Int) := by omega
      clear hO hB hH
      go_wp2
      clear e2
      go_loopw [27] (fun v wr2 => ∃ m : Nat, m ≤ N ∧ v = .int .i64 m ∧ OwR L H1 wr2 (.slice (some ⟨g, 0, none⟩) N c9) (tab N (srS f ys k m)) ∧ wr2.cell? ⟨g, k, none⟩ = some (.slice (some ⟨b, 0, none⟩) N cb) ∧ Below w.heap.size w wr2 ∧ H1 ≤ wr2.heap.size) (fun v _ => N - (intOf v).toNat)
      case atStart => exact ⟨0, Nat.zero_le _, rfl, HO.out⟩
      case round =>
        rename_i hrel
        clear HO
        obtain ⟨m, hm, rfl, hO, e2, hB, hH⟩ := hrel
        by_cases hlm : m < N
        · have e2d : wr.drew.cell? ⟨g, k, none⟩ = some (.slice (some ⟨b, 0, none⟩) N cb) := e2
          obtain ⟨x3, x4, x5, x6, x7, hgb, x8⟩ := (hO.qt (Qt.refl wr).drew).row2 (i := k) (j := m) hlt hlm e2d
          rw [srS_at] at x3
          obtain ⟨M2, hM2⟩ : ∃ q, q = m / 2 := ⟨_, rfl⟩
          have hM2n : M2 < n2 := by have := HNN.out; omega
          obtain ⟨wb, wo, rfl, g0⟩ := HC.out wr hB M2 hM2n
          have g0d : wr.drew.cell? ⟨wb, wo + M2, none⟩ = some (.int .i64 (ys.getD M2 0)) := g0
          have hsg := HSG.out m hlm
          have h01 := H01.out k m
          have hst := x8 (f k m * sgn ys m) (by rcases h01 with e | e <;> rcases hsg with e5 | e5 <;> rw [e, e5] <;> (unfold I64; omega))
          rw [srS_put] at hst
          have e2s : (wr.drew.setCell ⟨b, m, none⟩ (.int .i64 (f k m * sgn ys m))).cell? ⟨g, k, none⟩ = some (.slice (some ⟨b, 0, none⟩) N cb) := by
            rw [World.cell?_setCell_other _ _ _ _ (by intro e9; have e8 := congrArg Addr.block e9; dsimp only at e8; omega)]; exact e2d
          have hB2 : Below w.heap.size w (wr.drew.setCell ⟨b, m, none⟩ (.int .i64 (f k m * sgn ys m))) := hB.drew.setCell (p := ⟨b, m, none⟩) (Nat.le_trans HLW.out x5) _
          have HF := Lib.hid (⟨hst, e2s, hB2, by rw [World.size_setCell]; exact hH⟩ : _ ∧ _ ∧ _ ∧ H1 ≤ (wr.drew.setCell ⟨b, m, none⟩ (.int .i64 (f k m * sgn ys m))).heap.size)
          have hmn : (m : Int) < (N : Int) := by omega
          have hm0 : (0 : Int) ≤ (m : Int) := by omega
          have hz : -100 ≤ f k m * sgn ys m ∧ f k m * sgn ys m ≤ 100 := by rcases h01 with e | e <;> rcases hsg with e5 | e5 <;> rw [e, e5] <;> omega
          have hsm : sgn ys m = ys.getD M2 0 := by rw [hM2]; rfl
          rw [hsm] at HF hz
          have hmd : (m : Int).tdiv 2 = (M2 : Int) := by rw [Int.tdiv_eq_ediv_of_nonneg (by omega)]; omega
          have hmd2 : (m : Int) / 2 = (M2 : Int) := by omega
          have t1 : IntKind.i64.wrap (M2 : Int) = (M2 : Int) := IntWalk.i64_in _ (by omega)
          have t2 : wrap64 (M2 : Int) = (M2 : Int) := IntWalk.wrap64_in _ (by clear t1; omega)
          have hM0 : (0 : Int) ≤ (M2 : Int) := by clear t1 t2; omega
          have hMn : (M2 : Int) < (n2 : Int) := by clear t1 t2; omega
          generalize f k m = y at *
          generalize ys.getD M2 0 = u at *
          obtain ⟨z, hzz⟩ : ∃ z, z = y * u := ⟨_, rfl⟩
          rw [← hzz] at HF hz
          have w1' : IntKind.i64.wrap (y * u) = z := by rw [← hzz]; exact IntWalk.i64_in _ (by clear hzz t1 t2; omega)
          have w2' : wrap64 (y * u) = z := by rw [← hzz]; exact IntWalk.wrap64_in _ (by clear hzz w1' t1 t2; omega)
          have d4 : wr.drew.frozen? ⟨b, m, none⟩ = false := x4
          have x3' : wr.cell? ⟨b, m, none⟩ = some (.int .i64 y) := x3
          have x4' : wr.frozen? ⟨b, m, none⟩ = false := x4
          clear hst e2s hB2 hzz h01 x5 x6 x7 x8 hO hB hH e2 e2d hsg hsm hM2
          go_wp2
          go_still_tail 11, (by kernel_rfl)
          change wpList _ _ _ _ _ wr.drew
          clear g0 x3' x4' t1 t2 hmd hmd2
          generalize wr.drew = Z at HF g0d x3 x4 d4 ⊢
          go_wp2
          go_roundw
          case rel => exact ⟨m+1, by omega, by go_num, HF.out⟩
          case measure => clear w1' w2'; simp [intOf]; omega
        · obtain rfl : m = N := by omega
          rw [srS_row] at hO
          have HF := Lib.hid (⟨hO, hB, hH⟩ : _ ∧ _ ∧ _)
          clear hO hB hH e2
          go_wp2
          go_roundw
          case rel => exact ⟨k+1, by omega, by go_num, HF.out⟩
          case measure => simp [intOf]; omega
    · obtain rfl : k = N := by omega
      rw [HAL.out] at hO
      have HDT := Lib.hid (detPoly k F a9 c9 U hO.rd hN20 HFT.out)
      have HB2 := Lib.hid hB
      clear hO hB hH
      go_wp2_with fail
      refine HDT.out.mono ?_
      rintro e w3 ⟨a3, c3, rfl, o3, b3⟩
      have HO := Lib.hid (⟨OwI.mono o3 HB2.out.size (Nat.le_refl _), HB2.out.next b3⟩ : _ ∧ _)
      clear HDT o3 b3
      go_wp2
      refine bodyPost_ret (v := .tuple #[.slice a3 (trim (dkL F k)).length c3, .int .i64 0]) (by simp [results, Try.results32, go_sem]) rfl ⟨a3, c3, by rw [HPP.out], by rw [HPP.out]; exact HO.out.1, HO.out.2⟩

set_option maxHeartbeats 6400000 in
theorem specSrec {lo hi lo' hi' : Nat} (s : Int) (a : Option Addr) (n c : Nat) (xss : List (List Int)) (a2 : Option Addr) (n2 c2 : Nat) (ys : List Int) (w : World) (h : RdR lo hi w (.slice a n c) xss) (hn : xss.length = n) (h2 : RdI lo' hi' w (.slice a2 n2 c2) ys) (hn2 : ys.length = n2) :
    Calls Try.prog 30 #[.agg #[.int .i64 s, .slice a n c], .slice a2 n2 c2] w fun e w' => ∃ a' c', e = .returned (.tuple #[.slice a' (srecOf s xss ys).1.length c', .int .i64 (srecOf s xss ys).2]) ∧ OwI w.heap.size w'.heap.size w' (.slice a' (srecOf s xss ys).1.length c') (srecOf s xss ys).1 ∧ Below w.heap.size w w' := by
  have hb0 : ∀ o, Below w.heap.size w (w.alloc o) := fun o => (Below.refl _ _).alloc (Nat.le_refl _) o
  have HN := Lib.hid hn
  have HN2 := Lib.hid hn2
  have HR := Lib.hid h
  have HR2 := Lib.hid h2
  obtain ⟨P, hP⟩ : ∃ P, P = srecOf s xss ys := ⟨_, rfl⟩
  rw [← hP]
  unfold srecOf at hP
  rw [hn] at hP
  have HP := Lib.hid hP
  have HOK := Lib.hid (fun h => dbl_okS (s := s) (xss := xss) (ys := ys) h)
  clear hn h hP h2 hn2
  go_enter Try.func30, Try.ntmps30
  go_wp2_with fail
  refine calls_gen (fun W => Below w.heap.size w W ∧ W.cell? ⟨w.heap.size, 0, none⟩ = some (.int .i64 s) ∧ W.cell? ⟨w.heap.size, 1, none⟩ = some (.slice a n c)) ⟨hb0 _, by go_simp, by go_simp⟩ ?_
  rintro W ⟨hB, k0, k1⟩
  refine (l04Signs s a n c xss a2 n2 c2 ys W (HR.out.below hB) HN.out (HR2.out.below hB) HN2.out).mono ?_
  rintro e w1 ⟨rfl, b1⟩
  replace k0 := b1.keep k0
  replace k1 := b1.keep k1
  replace hB := hB.next b1
  clear b1
  generalize dblCode s xss ys = cd at HP HOK ⊢
  by_cases hc : cd = 0
  case neg =>
    have hP := HP.out
    rw [if_neg hc] at hP
    have hcb : (cd != 0) = true := by simpa using hc
    subst hP
    clear HP HOK hc k0 k1
    go_wp2
    refine bodyPost_ret (v := .tuple #[.slice none 0 0, .int .i64 cd]) (by simp [results, Try.results30, go_sem]) rfl ⟨none, 0, rfl, OwI.nil' _ _ _, hB⟩
  have hP := HP.out
  rw [if_pos hc] at hP
  obtain ⟨hg, hyn, hys⟩ := HOK.out hc
  have hn10 : n ≤ 10 := by have := grB_iff hg; have := HN.out; omega
  have hn2n : n2 = n := by rw [← HN2.out, hyn, HN.out]
  have HRW := Lib.hid (l02Matrix s a n c xss w1 (HR.out.below hB) HN.out hg)
  have HSG := Lib.hid (fun j (hj : j < 2 * n) => show sgn ys j = 1 ∨ sgn ys j = -1 from hys (j / 2) (by rw [HN2.out]; omega))
  have HFT : Hid (fits (edgeS (dirE (pairs xss)) (sgn ys)) (2 * n)) := Lib.hid (by
    rw [← HN.out]
    refine edgeS_fits hg _ (fun c => ?_)
    unfold sgn
    by_cases hcl : c / 2 < ys.length
    · rcases hys (c / 2) hcl with e | e <;> rw [e] <;> decide
    · have : ys.getD (c / 2) 0 = 0 := by simp [List.getD, List.getElem?_eq_none (Nat.le_of_not_lt hcl)]
      rw [this]; decide)
  have HAL := Lib.hid (srS_all (dirE (pairs xss)) ys (2 * n))
  have H01 := Lib.hid (fun i j => edgeM_bool (dirE (pairs xss)) i j)
  have HC := Lib.hid (fun W (hB : Below w.heap.size w W) => (HR2.out.below hB).at HN2.out)
  generalize edgeS (dirE (pairs xss)) (sgn ys) = F at HFT HAL hP
  generalize edgeM (dirE (pairs xss)) = f at HRW HAL H01
  have HPP := Lib.hid hP
  have HB := Lib.hid hB
  subst hc
  obtain ⟨N, hN⟩ : ∃ N, N = 2 * n := ⟨_, rfl⟩
  rw [← hN] at HRW HFT HPP HSG HAL
  have hN20 : N ≤ 20 := by omega
  have hNn2 : N = 2 * n2 := by omega
  have HNN := Lib.hid hNn2
  clear HP HOK hP hg hN hB hn10 hyn hys hn2n hNn2
  go_wp2_with fail
  refine HRW.out.mono ?_
  rintro e w2 ⟨a9, c9, rfl, o2, b2⟩
  obtain ⟨L, hL⟩ : ∃ L, L = w1.heap.size := ⟨_, rfl⟩
  obtain ⟨H1, hH⟩ : ∃ H, H = w2.heap.size := ⟨_, rfl⟩
  have HLW : Hid (w.heap.size ≤ L) := Lib.hid (by rw [hL]; exact HB.out.size)
  have HH : Hid (H1 ≤ w2.heap.size) := Lib.hid (by omega)
  rw [← hL, ← hH] at o2
  have HO := Lib.hid (⟨by rw [srS_start]; exact o2, HB.out.next b2⟩ : OwR L H1 w2 (.slice a9 N c9) (tab N (srS f ys 0 0)) ∧ _)
  clear HRW o2 b2 k0 k1 hL hH
  go_wp2
  go_loopw [8] (fun v wr => ∃ k : Nat, k ≤ N ∧ v = .int .i64 k ∧ OwR L H1 wr (.slice a9 N c9) (tab N (srS f ys k 0)) ∧ Below w.heap.size w wr ∧ H1 ≤ wr.heap.size) (fun v _ => N - (intOf v).toNat)
  case atStart => exact ⟨0, Nat.zero_le _, rfl, HO.out.1, HO.out.2, HH.out⟩
  case round =>
    clear HO HH
    obtain ⟨k, hk, rfl, hO, hB, hH⟩ := hrel
    obtain ⟨U, rfl⟩ : ∃ U, U = wr := ⟨_, rfl⟩
    by_cases hlt : k < N
    · obtain ⟨g, b, cb, rfl, e2, _⟩ := hO.ent (i := k) (j := 0) hlt (by omega)
      have HO := Lib.hid (⟨hO, e2, hB, hH⟩ : _ ∧ _ ∧ _ ∧ _)
      have hkn : (k : Int) < (N : Int) := by omega
      clear hO hB hH
      go_wp2
      clear e2
      go_loopw [10] (fun v wr2 => ∃ m : Nat, m ≤ N ∧ v = .int .i64 m ∧ OwR L H1 wr2 (.slice (some ⟨g, 0, none⟩) N c9) (tab N (srS f ys k m)) ∧ wr2.cell? ⟨g, k, none⟩ = some (.slice (some ⟨b, 0, none⟩) N cb) ∧ Below w.heap.size w wr2 ∧ H1 ≤ wr2.heap.size) (fun v _ => N - (intOf v).toNat)
      case atStart => exact ⟨0, Nat.zero_le _, rfl, HO.out⟩
      case round =>
        rename_i hrel
        clear HO
        obtain ⟨m, hm, rfl, hO, e2, hB, hH⟩ := hrel
        by_cases hlm : m < N
        · have e2d : wr.drew.cell? ⟨g, k, none⟩ = some (.slice (some ⟨b, 0, none⟩) N cb) := e2
          obtain ⟨x3, x4, x5, x6, x7, hgb, x8⟩ := (hO.qt (Qt.refl wr).drew).row2 (i := k) (j := m) hlt hlm e2d
          rw [srS_at] at x3
          obtain ⟨M2, hM2⟩ : ∃ q, q = m / 2 := ⟨_, rfl⟩
          have hM2n : M2 < n2 := by have := HNN.out; omega
          obtain ⟨wb, wo, rfl, g0⟩ := HC.out wr hB M2 hM2n
          have g0d : wr.drew.cell? ⟨wb, wo + M2, none⟩ = some (.int .i64 (ys.getD M2 0)) := g0
          have hsg := HSG.out m hlm
          have h01 := H01.out k m
          have hst := x8 (f k m * sgn ys m) (by rcases h01 with e | e <;> rcases hsg with e5 | e5 <;> rw [e, e5] <;> (unfold I64; omega))
          rw [srS_put] at hst
          have e2s : (wr.drew.setCell ⟨b, m, none⟩ (.int .i64 (f k m * sgn ys m))).cell? ⟨g, k, none⟩ = some (.slice (some ⟨b, 0, none⟩) N cb) := by
            rw [World.cell?_setCell_other _ _ _ _ (by intro e9; have e8 := congrArg Addr.block e9; dsimp only at e8; omega)]; exact e2d
          have hB2 : Below w.heap.size w (wr.drew.setCell ⟨b, m, none⟩ (.int .i64 (f k m * sgn ys m))) := hB.drew.setCell (p := ⟨b, m, none⟩) (Nat.le_trans HLW.out x5) _
          have HF := Lib.hid (⟨hst, e2s, hB2, by rw [World.size_setCell]; exact hH⟩ : _ ∧ _ ∧ _ ∧ H1 ≤ (wr.drew.setCell ⟨b, m, none⟩ (.int .i64 (f k m * sgn ys m))).heap.size)
          have hmn : (m : Int) < (N : Int) := by omega
          have hm0 : (0 : Int) ≤ (m : Int) := by omega
          have hz : -100 ≤ f k m * sgn ys m ∧ f k m * sgn ys m ≤ 100 := by rcases h01 with e | e <;> rcases hsg with e5 | e5 <;> rw [e, e5] <;> omega
          have hsm : sgn ys m = ys.getD M2 0 := by rw [hM2]; rfl
          rw [hsm] at HF hz
          have hmd : (m : Int).tdiv 2 = (M2 : Int) := by rw [Int.tdiv_eq_ediv_of_nonneg (by omega)]; omega
          have hmd2 : (m : Int) / 2 = (M2 : Int) := by omega
          have t1 : IntKind.i64.wrap (M2 : Int) = (M2 : Int) := IntWalk.i64_in _ (by omega)
          have t2 : wrap64 (M2 : Int) = (M2 : Int) := IntWalk.wrap64_in _ (by clear t1; omega)
          have hM0 : (0 : Int) ≤ (M2 : Int) := by clear t1 t2; omega
          have hMn : (M2 : Int) < (n2 : Int) := by clear t1 t2; omega
          generalize f k m = y at *
          generalize ys.getD M2 0 = u at *
          obtain ⟨z, hzz⟩ : ∃ z, z = y * u := ⟨_, rfl⟩
          rw [← hzz] at HF hz
          have w1' : IntKind.i64.wrap (y * u) = z := by rw [← hzz]; exact IntWalk.i64_in _ (by clear hzz t1 t2; omega)
          have w2' : wrap64 (y * u) = z := by rw [← hzz]; exact IntWalk.wrap64_in _ (by clear hzz w1' t1 t2; omega)
          have d4 : wr.drew.frozen? ⟨b, m, none⟩ = false := x4
          have x3' : wr.cell? ⟨b, m, none⟩ = some (.int .i64 y) := x3
          have x4' : wr.frozen? ⟨b, m, none⟩ = false := x4
          clear hst e2s hB2 hzz h01 x5 x6 x7 x8 hO hB hH e2 e2d hsg hsm hM2
          go_wp2
          go_still_tail 13, (by kernel_rfl)
          change wpList _ _ _ _ _ wr.drew
          clear g0 x3' x4' t1 t2 hmd hmd2
          generalize wr.drew = Z at HF g0d x3 x4 d4 ⊢
          go_wp2
          go_roundw
          case rel => exact ⟨m+1, by omega, by go_num, HF.out⟩
          case measure => clear w1' w2'; simp [intOf]; omega
        · obtain rfl : m = N := by omega
          rw [srS_row] at hO
          have HF := Lib.hid (⟨hO, hB, hH⟩ : _ ∧ _ ∧ _)
          clear hO hB hH e2
          go_wp2
          go_roundw
          case rel => exact ⟨k+1, by omega, by go_num, HF.out⟩
          case measure => simp [intOf]; omega
    · obtain rfl : k = N := by omega
      rw [HAL.out] at hO
      have HDT := Lib.hid (specBkD' k F a9 c9 U hO.rd hN20 HFT.out)
      have HB2 := Lib.hid hB
      clear hO hB hH
      go_wp2_with fail
      refine HDT.out.mono ?_
      rintro e w3 ⟨a3, c3, rfl, o3, b3⟩
      have HO := Lib.hid (⟨OwI.mono o3 HB2.out.size (Nat.le_refl _), HB2.out.next b3⟩ : _ ∧ _)
      clear HDT o3 b3
      go_wp2
      refine bodyPost_ret (v := .tuple #[.slice a3 (trim (dkL F k)).length c3, .int .i64 0]) (by simp [results, Try.results30, go_sem]) rfl ⟨a3, c3, by rw [HPP.out], by rw [HPP.out]; exact HO.out.1, HO.out.2⟩

end Go.Proofs.Ytbfgehgjecgfmaa
