/- BartholdiReciprocal of the program and of the model. -/
import Derived.Test.YtkhfhdmhhkfehaaWtR
import Derived.Test.YtkhfhdmhhkfehaaDetT
import Derived.Test.YtkhfhdmhhkfehaaNumC
import Derived.Test.YtkhfhdmhhkfehaaSpecLap
set_option linter.unusedSimpArgs false
set_option linter.unusedVariables false
set_option maxRecDepth 100000
namespace Go.Proofs.Ytkhfhdmhhkfehaa
open Go.RowKit

theorem numCode_ok2 {p s : Int} {xss : List (List Int)} {t : Int} (h : numCode p s xss t = 0) : grB s xss = true ∧ primeB p = true ∧ 0 ≤ t ∧ t < p := by
  unfold numCode at h
  split at h
  · rename_i hg
    split at h
    · rename_i hp
      split at h
      · rename_i hr
        refine ⟨hg, hp, ?_⟩
        unfold inR at hr
        simpa using hr
      · omega
    · omega
  · omega

def rvN (i : Nat) : Nat := (rv (i : Int)).toNat
theorem rvN_lt {i n : Nat} (h : i < 2 * n) (hn : n ≤ 10) : rvN i < 2 * n ∧ ((rvN i : Nat) : Int) = rv (i : Int) := by
  have := rv_is (i : Int) (by omega) (by omega)
  unfold rvN
  omega
/-- the turns are told for the first k rows -/
def brS (f : Nat → Nat → Int) (t : Int) (k : Nat) : Nat → Nat → Int := fun i j => if i < k ∧ j = rvN i then t else f i j
theorem brS_0 (f : Nat → Nat → Int) (t : Int) : brS f t 0 = f := by funext i j; unfold brS; rw [if_neg (by omega)]
theorem brS_at (f : Nat → Nat → Int) (t : Int) (k j : Nat) : brS f t k k j = f k j := by unfold brS; rw [if_neg (by omega)]
theorem brS_put (f : Nat → Nat → Int) (t : Int) (k : Nat) : put (brS f t k) k (rvN k) t = brS f t (k + 1) := by
  funext i j
  unfold put brS
  by_cases h : i = k ∧ j = rvN k
  · obtain ⟨rfl, rfl⟩ := h
    rw [if_pos ⟨rfl, rfl⟩, if_pos ⟨by omega, rfl⟩]
  · rw [if_neg h]
    by_cases h2 : i < k ∧ j = rvN i
    · rw [if_pos h2, if_pos ⟨by omega, h2.2⟩]
    · have : ¬ (i < k + 1 ∧ j = rvN i) := fun h3 => by
        by_cases e : i = k
        · exact h ⟨e, by rw [h3.2, e]⟩
        · exact h2 ⟨by omega, h3.2⟩
      rw [if_neg h2, if_neg this]
theorem edgeM_back (ds : List (Int × Int)) (n i : Nat) (h : i < 2 * n) (hn : n ≤ 10) : edgeM ds i (rvN i) = 0 := by
  have e := (rvN_lt h hn).2
  unfold edgeM
  have : stepQ ds (i : Int) ((rvN i : Nat) : Int) = false := by rw [e]; unfold stepQ; simp
  rw [this]; rfl

def brOf (p s : Int) (xss : List (List Int)) (t : Int) : List Int × Int :=
  if numCode p s xss t = 0 then (trim (nowL p (2 * xss.length) (brS (edgeM (dirE (pairs xss))) t (2 * xss.length)) (2 * xss.length)), 0) else ([], numCode p s xss t)

set_option maxHeartbeats 3200000 in
theorem implBr {lo hi : Nat} (p s : Int) (a : Option Addr) (n c : Nat) (xss : List (List Int)) (t : Int) (w : World) (h : RdR lo hi w (.slice a n c) xss) (hn : xss.length = n) :
    Calls Try.prog 47 #[.int .i64 p, .agg #[.int .i64 s, .slice a n c], .int .i64 t] w fun e w' => ∃ a' c', e = .returned (.tuple #[.slice a' (brOf p s xss t).1.length c', .int .i64 (brOf p s xss t).2]) ∧ OwI w.heap.size w'.heap.size w' (.slice a' (brOf p s xss t).1.length c') (brOf p s xss t).1 ∧ Below w.heap.size w w' := by
  have hb0 : ∀ o, Below w.heap.size w (w.alloc o) := fun o => (Below.refl _ _).alloc (Nat.le_refl _) o
  have HN := Lib.hid hn
  have HR := Lib.hid h
  obtain ⟨P, hP⟩ : ∃ P, P = brOf p s xss t := ⟨_, rfl⟩
  rw [← hP]
  unfold brOf at hP
  rw [hn] at hP
  have HP := Lib.hid hP
  have HOK := Lib.hid (fun h => numCode_ok2 (p := p) (s := s) (xss := xss) (t := t) h)
  clear hn h hP
  go_enter Try.func47, Try.ntmps47
  go_wp2_with fail
  refine calls_gen (fun W => Below w.heap.size w W ∧ W.cell? ⟨w.heap.size, 0, none⟩ = some (.int .i64 s) ∧ W.cell? ⟨w.heap.size, 1, none⟩ = some (.slice a n c)) ⟨hb0 _, by go_simp, by go_simp⟩ ?_
  rintro W ⟨hB, k0, k1⟩
  refine (checkResidue p s a n c xss t W (HR.out.below hB) HN.out).mono ?_
  rintro e w1 ⟨rfl, b1⟩
  replace k0 := b1.keep k0
  replace k1 := b1.keep k1
  replace hB := hB.next b1
  clear b1
  generalize numCode p s xss t = cd at HP HOK ⊢
  by_cases hc : cd = 0
  case neg =>
    have hP := HP.out
    rw [if_neg hc] at hP
    have hcb : (cd != 0) = true := by simpa using hc
    subst hP
    clear HP HOK hc k0 k1
    go_wp2
    refine bodyPost_ret (v := .tuple #[.slice none 0 0, .int .i64 cd]) (by simp [results, Try.results47, go_sem]) rfl ⟨none, 0, rfl, OwI.nil' _ _ _, hB⟩
  have hP := HP.out
  rw [if_pos hc] at hP
  obtain ⟨hg, hp, ht0, ht1⟩ := HOK.out hc
  have hp2 := primeB_hd hp
  have hn10 : n ≤ 10 := by have := grB_iff hg; have := HN.out; omega
  have HRW := Lib.hid (edgeRows s a n c xss w1 (HR.out.below hB) HN.out hg)
  have HBK := Lib.hid (fun i (hi : i < 2 * n) => edgeM_back (dirE (pairs xss)) n i hi hn10)
  have HRV := Lib.hid (fun i (hi : i < 2 * n) => rvN_lt hi hn10)
  have HBD := Lib.hid (show ∀ i j, i < 2 * n → j < 2 * n → 0 ≤ brS (edgeM (dirE (pairs xss))) t (2 * n) i j ∧ brS (edgeM (dirE (pairs xss))) t (2 * n) i j < p from fun i j hi hj => by
    unfold brS
    split
    · omega
    · rcases edgeM_01w (dirE (pairs xss)) i j with e | e <;> rw [e] <;> omega)
  generalize edgeM (dirE (pairs xss)) = f at HRW HBD HBK hP
  have HPP := Lib.hid hP
  have HB := Lib.hid hB
  subst hc
  obtain ⟨N, hN⟩ : ∃ N, N = 2 * n := ⟨_, rfl⟩
  rw [← hN] at HRW HBD HPP HBK HRV
  have hN20 : N ≤ 20 := by omega
  clear HP HOK hP hg hp hN hB hn10
  go_wp2_with fail
  refine HRW.out.mono ?_
  rintro e w2 ⟨a2, c2, rfl, o2, b2⟩
  obtain ⟨L, hL⟩ : ∃ L, L = w1.heap.size := ⟨_, rfl⟩
  obtain ⟨H1, hH⟩ : ∃ H, H = w2.heap.size := ⟨_, rfl⟩
  have HLW : Hid (w.heap.size ≤ L) := Lib.hid (by rw [hL]; exact HB.out.size)
  have HH : Hid (H1 ≤ w2.heap.size) := Lib.hid (by omega)
  rw [← hL, ← hH] at o2
  have HO := Lib.hid (⟨by rw [brS_0]; exact o2, HB.out.next b2⟩ : OwR L H1 w2 (.slice a2 N c2) (tab N (brS f t 0)) ∧ _)
  clear HRW o2 b2 k0 k1 hL hH
  go_wp2
  go_loopw [23] (fun v wr => ∃ k : Nat, k ≤ N ∧ v = .int .i64 k ∧ OwR L H1 wr (.slice a2 N c2) (tab N (brS f t k)) ∧ Below w.heap.size w wr ∧ H1 ≤ wr.heap.size) (fun v _ => N - (intOf v).toNat)
  case atStart => exact ⟨0, Nat.zero_le _, rfl, HO.out.1, HO.out.2, HH.out⟩
  case round =>
    clear HO HH
    obtain ⟨k, hk, rfl, hO, hB, hH⟩ := hrel
    by_cases hlt : k < N
    · obtain ⟨hr1, hr2⟩ := HRV.out k hlt
      obtain ⟨g, b, cb, rfl, e2, _⟩ := hO.ent (i := k) (j := rvN k) hlt hr1
      have hkN : (k : Int) < (N : Int) := by omega
      have HOO := Lib.hid (⟨hO, hB, hH⟩ : _ ∧ _ ∧ _)
      clear hO hB hH
      go_wp2_with fail
      refine (reverseOf (k : Int) _).mono ?_
      rintro e w5 ⟨rfl, q5⟩
      replace e2 := q5.cell e2
      obtain ⟨e3, e4, e5, e6, e7, _, e8⟩ := (HOO.out.1.qt q5).row2 hlt hr1 e2
      rw [brS_at, HBK.out k hlt] at e3
      have hfin := e8 t (by unfold I64; omega)
      rw [brS_put] at hfin
      have HF := Lib.hid (⟨hfin, (HOO.out.2.1.qt q5).setCell (p := ⟨b, rvN k, none⟩) (by have := HLW.out; show w.heap.size ≤ b; omega) _, by rw [World.size_setCell]; exact Nat.le_trans HOO.out.2.2 q5.below.size⟩ : _ ∧ Below w.heap.size w (w5.setCell ⟨b, rvN k, none⟩ (.int .i64 t)) ∧ H1 ≤ (w5.setCell ⟨b, rvN k, none⟩ (.int .i64 t)).heap.size)
      obtain ⟨R, hR⟩ : ∃ R, R = rvN k := ⟨_, rfl⟩
      rw [← hR] at e3 e4 hr1 hr2 HF
      have hRN : (R : Int) < (N : Int) := by omega
      have hR0 : (0 : Int) ≤ (R : Int) := by omega
      clear hfin e8 hR HOO q5
      rw [← hr2]
      clear hr2
      go_wp2
      go_roundw
      case rel => exact ⟨k+1, by omega, by go_num, HF.out⟩
      case measure => simp [intOf]; omega
    · obtain rfl : k = N := by omega
      have HDT := Lib.hid (detM p k (brS f t k) a2 c2 wr hO.rd (fun i j hi hj => by have := HBD.out i j hi hj; omega) hN20 hp2)
      have HB2 := Lib.hid hB
      clear hO hB hH
      go_wp2_with fail
      refine HDT.out.mono ?_
      rintro e w3 ⟨a3, c3, rfl, o3, b3⟩
      have HO := Lib.hid (⟨OwI.mono o3 HB2.out.size (Nat.le_refl _), HB2.out.next b3⟩ : _ ∧ _)
      clear HDT o3 b3
      go_wp2
      refine bodyPost_ret (v := .tuple #[.slice a3 (trim (nowL p k (brS f t k) k)).length c3, .int .i64 0]) (by simp [results, Try.results47, go_sem]) rfl ⟨a3, c3, by rw [HPP.out], by rw [HPP.out]; exact HO.out.1, HO.out.2⟩

set_option maxHeartbeats 3200000 in
theorem specBr {lo hi : Nat} (p s : Int) (a : Option Addr) (n c : Nat) (xss : List (List Int)) (t : Int) (w : World) (h : RdR lo hi w (.slice a n c) xss) (hn : xss.length = n) :
    Calls Try.prog 46 #[.int .i64 p, .agg #[.int .i64 s, .slice a n c], .int .i64 t] w fun e w' => ∃ a' c', e = .returned (.tuple #[.slice a' (brOf p s xss t).1.length c', .int .i64 (brOf p s xss t).2]) ∧ OwI w.heap.size w'.heap.size w' (.slice a' (brOf p s xss t).1.length c') (brOf p s xss t).1 ∧ Below w.heap.size w w' := by
  have hb0 : ∀ o, Below w.heap.size w (w.alloc o) := fun o => (Below.refl _ _).alloc (Nat.le_refl _) o
  have HN := Lib.hid hn
  have HR := Lib.hid h
  obtain ⟨P, hP⟩ : ∃ P, P = brOf p s xss t := ⟨_, rfl⟩
  rw [← hP]
  unfold brOf at hP
  rw [hn] at hP
  have HP := Lib.hid hP
  have HOK := Lib.hid (fun h => numCode_ok2 (p := p) (s := s) (xss := xss) (t := t) h)
  clear hn h hP
  go_enter Try.func46, Try.ntmps46
  go_wp2_with fail
  refine calls_gen (fun W => Below w.heap.size w W ∧ W.cell? ⟨w.heap.size, 0, none⟩ = some (.int .i64 s) ∧ W.cell? ⟨w.heap.size, 1, none⟩ = some (.slice a n c)) ⟨hb0 _, by go_simp, by go_simp⟩ ?_
  rintro W ⟨hB, k0, k1⟩
  refine (l06Number p s a n c xss t W (HR.out.below hB) HN.out).mono ?_
  rintro e w1 ⟨rfl, b1⟩
  replace k0 := b1.keep k0
  replace k1 := b1.keep k1
  replace hB := hB.next b1
  clear b1
  generalize numCode p s xss t = cd at HP HOK ⊢
  by_cases hc : cd = 0
  case neg =>
    have hP := HP.out
    rw [if_neg hc] at hP
    have hcb : (cd != 0) = true := by simpa using hc
    subst hP
    clear HP HOK hc k0 k1
    go_wp2
    refine bodyPost_ret (v := .tuple #[.slice none 0 0, .int .i64 cd]) (by simp [results, Try.results46, go_sem]) rfl ⟨none, 0, rfl, OwI.nil' _ _ _, hB⟩
  have hP := HP.out
  rw [if_pos hc] at hP
  obtain ⟨hg, hp, ht0, ht1⟩ := HOK.out hc
  have hp2 := primeB_hd hp
  have hn10 : n ≤ 10 := by have := grB_iff hg; have := HN.out; omega
  have HRW := Lib.hid (l02Matrix s a n c xss w1 (HR.out.below hB) HN.out hg)
  have HBK := Lib.hid (fun i (hi : i < 2 * n) => edgeM_back (dirE (pairs xss)) n i hi hn10)
  have HRV := Lib.hid (fun i (hi : i < 2 * n) => rvN_lt hi hn10)
  have HBD := Lib.hid (show ∀ i j, i < 2 * n → j < 2 * n → 0 ≤ brS (edgeM (dirE (pairs xss))) t (2 * n) i j ∧ brS (edgeM (dirE (pairs xss))) t (2 * n) i j < p from fun i j hi hj => by
    unfold brS
    split
    · omega
    · rcases edgeM_01w (dirE (pairs xss)) i j with e | e <;> rw [e] <;> omega)
  generalize edgeM (dirE (pairs xss)) = f at HRW HBD HBK hP
  have HPP := Lib.hid hP
  have HB := Lib.hid hB
  subst hc
  obtain ⟨N, hN⟩ : ∃ N, N = 2 * n := ⟨_, rfl⟩
  rw [← hN] at HRW HBD HPP HBK HRV
  have hN20 : N ≤ 20 := by omega
  clear HP HOK hP hg hp hN hB hn10
  go_wp2_with fail
  refine HRW.out.mono ?_
  rintro e w2 ⟨a2, c2, rfl, o2, b2⟩
  obtain ⟨L, hL⟩ : ∃ L, L = w1.heap.size := ⟨_, rfl⟩
  obtain ⟨H1, hH⟩ : ∃ H, H = w2.heap.size := ⟨_, rfl⟩
  have HLW : Hid (w.heap.size ≤ L) := Lib.hid (by rw [hL]; exact HB.out.size)
  have HH : Hid (H1 ≤ w2.heap.size) := Lib.hid (by omega)
  rw [← hL, ← hH] at o2
  have HO := Lib.hid (⟨by rw [brS_0]; exact o2, HB.out.next b2⟩ : OwR L H1 w2 (.slice a2 N c2) (tab N (brS f t 0)) ∧ _)
  clear HRW o2 b2 k0 k1 hL hH
  go_wp2
  go_loopw [10] (fun v wr => ∃ k : Nat, k ≤ N ∧ v = .int .i64 k ∧ OwR L H1 wr (.slice a2 N c2) (tab N (brS f t k)) ∧ Below w.heap.size w wr ∧ H1 ≤ wr.heap.size) (fun v _ => N - (intOf v).toNat)
  case atStart => exact ⟨0, Nat.zero_le _, rfl, HO.out.1, HO.out.2, HH.out⟩
  case round =>
    clear HO HH
    obtain ⟨k, hk, rfl, hO, hB, hH⟩ := hrel
    by_cases hlt : k < N
    · obtain ⟨hr1, hr2⟩ := HRV.out k hlt
      obtain ⟨g, b, cb, rfl, e2, _⟩ := hO.ent (i := k) (j := rvN k) hlt hr1
      have hkN : (k : Int) < (N : Int) := by omega
      have HOO := Lib.hid (⟨hO, hB, hH⟩ : _ ∧ _ ∧ _)
      clear hO hB hH
      obtain ⟨w5, hw5⟩ : ∃ w5, w5 = wr := ⟨_, rfl⟩
      have q5 : Qt wr w5 := by rw [hw5]; exact Qt.refl _
      rw [← hw5]
      replace e2 := q5.cell e2
      clear hw5
      obtain ⟨e3, e4, e5, e6, e7, _, e8⟩ := (HOO.out.1.qt q5).row2 hlt hr1 e2
      rw [brS_at, HBK.out k hlt] at e3
      have hfin := e8 t (by unfold I64; omega)
      rw [brS_put] at hfin
      have HF := Lib.hid (⟨hfin, (HOO.out.2.1.qt q5).setCell (p := ⟨b, rvN k, none⟩) (by have := HLW.out; show w.heap.size ≤ b; omega) _, by rw [World.size_setCell]; exact Nat.le_trans HOO.out.2.2 q5.below.size⟩ : _ ∧ Below w.heap.size w (w5.setCell ⟨b, rvN k, none⟩ (.int .i64 t)) ∧ H1 ≤ (w5.setCell ⟨b, rvN k, none⟩ (.int .i64 t)).heap.size)
      obtain ⟨R, hR⟩ : ∃ R, R = rvN k := ⟨_, rfl⟩
      rw [← hR] at e3 e4 hr1 hr2 HF
      have hRN : (R : Int) < (N : Int) := by omega
      have hR0 : (0 : Int) ≤ (R : Int) := by omega
      clear hfin e8 hR HOO q5
      have hx : bits BinOp.xor .i64 (k : Int) 1 = (R : Int) := hr2.symm
      clear hr2
      have hm1 : IntKind.i64.wrap (0 + t) = t := by rw [Int.zero_add]; exact IntWalk.i64_in _ (by omega)
      have hm2 : wrap64 (0 + t) = t := by rw [Int.zero_add]; exact IntWalk.wrap64_in _ (by clear hm1; omega)
      have hm5 : wrap64 t = t := IntWalk.wrap64_in _ (by clear hm1 hm2; omega)
      have hm6 : IntKind.i64.wrap t = t := IntWalk.i64_in _ (by clear hm1 hm2 hm5; omega)
      have hm3 : t.tmod p = t := by rw [Int.tmod_eq_emod_of_nonneg ht0]; exact Int.emod_eq_of_lt ht0 ht1
      have hpz : ¬ p = 0 := by clear hm1 hm2 hm3 hm5 hm6; omega
      go_wp2
      clear hx hm1 hm2 hm3 hm5 hm6
      go_roundw
      case rel => exact ⟨k+1, by omega, by go_num, HF.out⟩
      case measure => simp [intOf]; omega
    · obtain rfl : k = N := by omega
      have HDT := Lib.hid (specDet p k (brS f t k) a2 c2 wr hO.rd HBD.out hN20 hp2)
      have HB2 := Lib.hid hB
      clear hO hB hH
      go_wp2_with fail
      refine HDT.out.mono ?_
      rintro e w3 ⟨a3, c3, rfl, o3, b3⟩
      have HO := Lib.hid (⟨OwI.mono o3 HB2.out.size (Nat.le_refl _), HB2.out.next b3⟩ : _ ∧ _)
      clear HDT o3 b3
      go_wp2
      refine bodyPost_ret (v := .tuple #[.slice a3 (trim (nowL p k (brS f t k) k)).length c3, .int .i64 0]) (by simp [results, Try.results46, go_sem]) rfl ⟨a3, c3, by rw [HPP.out], by rw [HPP.out]; exact HO.out.1, HO.out.2⟩

end Go.Proofs.Ytkhfhdmhhkfehaa
