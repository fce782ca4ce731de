/- PermutationOfWalk of the model. -/
import Derived.Test.YtkipfjdlmomkfaaImplPW
import Derived.Deep.AppendLies
set_option linter.unusedSimpArgs false
set_option linter.unusedVariables false
set_option maxRecDepth 100000
namespace Go.Proofs.Ytkipfjdlmomkfaa
open Go.RowKit

def idxOk (S : Int) (t : List Int) (A : Int) : Bool :=
  decide (0 ≤ (invL (pad t)).getD A.toNat 0) && (decide ((invL (pad t)).getD A.toNat 0 < S) && (decide (t.getD ((invL (pad t)).getD A.toNat 0).toNat 0 = A) && (List.range ((invL (pad t)).getD A.toNat 0).toNat).all (fun j => decide (t.getD j 0 ≠ A))))
theorem ix1 : ∀ a ∈ four, permB 1 [a] = true → ∀ A ∈ four, A < 1 → idxOk 1 [a] A = true := by decide +kernel
theorem ix2 : ∀ a ∈ four, ∀ b ∈ four, permB 2 [a, b] = true → ∀ A ∈ four, A < 2 → idxOk 2 [a, b] A = true := by decide +kernel
theorem ix3 : ∀ a ∈ four, ∀ b ∈ four, ∀ c ∈ four, permB 3 [a, b, c] = true → ∀ A ∈ four, A < 3 → idxOk 3 [a, b, c] A = true := by decide +kernel
theorem ix4 : ∀ a ∈ four, ∀ b ∈ four, ∀ c ∈ four, ∀ d ∈ four, permB 4 [a, b, c, d] = true → ∀ A ∈ four, A < 4 → idxOk 4 [a, b, c, d] A = true := by decide +kernel
theorem idx_ok {S : Nat} {t : List Int} {A : Nat} (h1 : 1 ≤ S) (h4 : S ≤ 4) (h : permB S t = true) (hA : A < S) : ∃ j : Nat, (invL (pad t)).getD A 0 = (j : Int) ∧ j < S ∧ t.getD j 0 = (A : Int) ∧ ∀ i, i < j → t.getD i 0 ≠ (A : Int) := by
  have hl := permB_len h
  have hin : ∀ x ∈ t, x ∈ four := fun x hx => by
    obtain ⟨i, hi, rfl⟩ := List.getElem_of_mem hx
    have := permB_in h i hi
    simp only [List.getD, List.getElem?_eq_getElem hi, Option.getD_some] at this
    exact inR_four this (by omega)
  have hAf : (A : Int) ∈ four := by
    have hA' : A = 0 ∨ A = 1 ∨ A = 2 ∨ A = 3 := by omega
    rcases hA' with rfl | rfl | rfl | rfl <;> decide
  have hok : idxOk S t A = true := by
    have hs : S = 1 ∨ S = 2 ∨ S = 3 ∨ S = 4 := by omega
    rcases hs with rfl | rfl | rfl | rfl
    · obtain ⟨a, rfl⟩ := len1 (by omega : t.length = 1)
      exact ix1 a (hin a (by simp)) h _ hAf (by omega)
    · obtain ⟨a, b, rfl⟩ := len2 (by omega : t.length = 2)
      exact ix2 a (hin a (by simp)) b (hin b (by simp)) h _ hAf (by omega)
    · obtain ⟨a, b, c, rfl⟩ := len3 (by omega : t.length = 3)
      exact ix3 a (hin a (by simp)) b (hin b (by simp)) c (hin c (by simp)) h _ hAf (by omega)
    · obtain ⟨a, b, c, d, rfl⟩ := len4 (by omega : t.length = 4)
      exact ix4 a (hin a (by simp)) b (hin b (by simp)) c (hin c (by simp)) d (hin d (by simp)) h _ hAf (by omega)
  unfold idxOk at hok
  simp only [Bool.and_eq_true, decide_eq_true_eq, List.all_eq_true, List.mem_range, Int.toNat_natCast] at hok
  obtain ⟨g1, g2, g3, g4⟩ := hok
  refine ⟨((invL (pad t)).getD A 0).toNat, by omega, by omega, g3, fun i hi => by simpa using g4 i hi⟩

theorem then_get {p q : List Int} {i : Nat} (h : i < p.length) : (thenL p q).getD i 0 = q.getD (p.getD i 0).toNat 0 := by
  simp [thenL, List.getD, h]

/-- one step of the model's, on sheet A -/
theorem along_get {S : Nat} {t : List Int} {A : Nat} (h1 : 1 ≤ S) (h4 : S ≤ 4) (h : permB S t = true) (hA : A < S) : ∃ B : Nat, t.getD A 0 = (B : Int) ∧ B < S ∧ (pad t).getD A 0 = (B : Int) := by
  have hl := permB_len h
  have hi := permB_in h A (by omega)
  unfold inR at hi
  simp only [Bool.and_eq_true, decide_eq_true_eq] at hi
  refine ⟨(t.getD A 0).toNat, by omega, by omega, ?_⟩
  rw [pad_get (by omega) (by omega), if_pos (by omega)]
  omega

set_option maxHeartbeats 6400000 in
theorem l04Walk_yes {lo hi lo' hi' lo1 hi1 : Nat} (s : Int) (a : Option Addr) (n c : Nat) (xss : List (List Int)) (S : Nat) (ta : Option Addr) (tn tc : Nat) (ts : List (List Int)) (a1 : Option Addr) (n1 c1 : Nat) (ws : List Int) (w : World)
    (h : RdR lo hi w (.slice a n c) xss) (hn : xss.length = n) (h' : RdR lo' hi' w (.slice ta tn tc) ts) (hn' : ts.length = tn) (h1 : RdI lo1 hi1 w (.slice a1 n1 c1) ws) (hl : ws.length = n1) (hc : pwCode s xss S ts ws = 0) :
    Calls Try.prog 67 #[.agg #[.int .i64 s, .slice a n c, .int .i64 S, .slice ta tn tc], .slice a1 n1 c1] w fun e w' => ∃ a' c', e = .returned (.tuple #[.slice a' ((pathL ts ws ws.length).take S).length c', .int .i64 0]) ∧ OwI w.heap.size w'.heap.size w' (.slice a' ((pathL ts ws ws.length).take S).length c') ((pathL ts ws ws.length).take S) ∧ Below w.heap.size w w' := by
  obtain ⟨i0, hi', z0, z1, z2⟩ := info_parts Try.info2
  have hb0 : ∀ o, Below w.heap.size w (w.alloc o) := fun o => (Below.refl _ _).alloc (Nat.le_refl _) o
  obtain ⟨hcv, hpos, hwb, hcl⟩ := pw_ok hc
  obtain ⟨hg, _, ⟨hs1, hs4⟩, htl, hpm⟩ := cvB_hd hcv
  have hn10 : n ≤ 10 := by have := grB_iff hg; omega
  have htn : tn = n := by omega
  subst htn
  have hS1 : 1 ≤ S := by omega
  have hS4 : S ≤ 4 := by omega
  obtain ⟨hw20, hwin⟩ := walkB_of hwb
  have hin : ∀ j, j < ws.length → 0 ≤ ws.getD j 0 ∧ ws.getD j 0 < 2 * (tn : Int) := fun j hj => by
    have := hwin j hj
    unfold inR at this
    rw [hn] at this
    simp only [Bool.and_eq_true, decide_eq_true_eq] at this
    exact this
  have hpp := path_perms (ts := ts) (ws := ws) hs1 hs4 hpm (by rw [hn']; exact hin)
  have hpt : ∀ q, q < tn → permB S (ts.getD q []) = true := fun q hq => List.all_eq_true.1 hpm _ (by simp [List.getD, List.getElem?_eq_getElem (show q < ts.length by omega)])
  have HIN := Lib.hid hin
  have HPT := Lib.hid hpt
  have HPP := Lib.hid hpp
  have HL := Lib.hid hl
  have HN' := Lib.hid hn'
  have HC := Lib.hid (h1.at hl)
  have HCT := Lib.hid (h'.cellsR hn')
  have HR := Lib.hid h
  have HR' := Lib.hid h'
  have HW1 := Lib.hid h1
  have HN := Lib.hid hn
  have hlen1 := h1.1
  rw [hl] at hlen1
  have h0 : 0 < n1 := by omega
  have hz : ((n1 : Int) == 0) = false := by simp; omega
  have hn20 : n1 ≤ 20 := by omega
  have HCV := Lib.hid hcv
  have HWB : Hid (walkB tn ws = true) := Lib.hid (by rw [← hn]; exact hwb)
  have HCL := Lib.hid hcl
  have HG := Lib.hid hg
  have hrl : ((pathL ts ws ws.length).take S).length = S := by
    have := perms4_len _ (hpp ws.length (Nat.le_refl _))
    rw [List.length_take]; omega
  obtain ⟨R, hRe⟩ : ∃ R, R = (pathL ts ws ws.length).take S := ⟨_, rfl⟩
  rw [← hRe] at hrl ⊢
  have HRE := Lib.hid hRe
  have HRL := Lib.hid hrl
  clear h hn h' hn' h1 hl hc hcv hpos hwb hcl hg htl hpm hwin hin hw20 hpp hpt hRe hrl
  go_enter Try.func67, Try.ntmps67
  go_wp2_with fail
  refine calls_gen (fun W => Below w.heap.size w W ∧ Box4 W w.heap.size (.int .i64 s) (.slice a tn c) (.int .i64 S) (.slice ta tn tc)) ⟨hb0 _, ⟨by simp, by go_simp, by go_simp, by go_simp, by go_simp, by go_simp, by go_simp, by go_simp, by go_simp⟩⟩ ?_
  rintro W ⟨hB, bx⟩
  refine (l04Is s a tn c xss S ta tn tc ts W (HR.out.below hB) HN.out (HR'.out.below hB) HN'.out).mono ?_
  rw [HCV.out]
  rintro e w1 ⟨rfl, b1⟩
  replace bx := bx.below b1
  replace hB := hB.next b1
  clear b1
  obtain ⟨_, k0, k1, k2, k3, _, _, _, _⟩ := bx
  go_wp2_with (first | (go_at_call 104; refine (l02Directed s a tn c a1 n1 c1 ws _ (HW1.out.below hB) HL.out hn10 hlen1).mono ?_; rw [HWB.out]; rintro e w2 ⟨rfl, b2⟩; replace hB := hB.next b2; replace k0 := b2.keep k0; replace k1 := b2.keep k1; replace k2 := b2.keep k2; replace k3 := b2.keep k3; clear b2) | (go_at_call 105; refine (l02Closed s a tn c xss a1 n1 c1 ws _ (HR.out.below hB) HN.out HG.out (HW1.out.below hB) HL.out HWB.out).mono ?_; rw [HCL.out]; rintro e V ⟨rfl, b3⟩; replace hB := hB.next b3; replace k0 := b3.keep k0; replace k1 := b3.keep k1; replace k2 := b3.keep k2; replace k3 := b3.keep k3; clear b3))
  have hl0 := World.ownsRow_lit (base := V.heap.size) (e := 2) (size := 1) V #[] 0 (Nat.le_refl _) (by unfold maxLen; omega) rfl
  have hu1 : Below V.heap.size V (V.alloc (.cells #[] 2)) := (Below.refl _ _).alloc (Nat.le_refl _) _
  have HBX := Lib.hid (⟨hB, k2, k3⟩ : _ ∧ _ ∧ _)
  clear hB k0 k1 k2 k3
  go_loopw [7, 6] (fun i v wr => ∃ (q gi ci : Nat), q ≤ S ∧ i = .int .i64 q ∧ v = .slice (some ⟨gi, 0, none⟩) q ci ∧ wr.ownsRow V.heap.size 2 1 (.slice (some ⟨gi, 0, none⟩) q ci) q ((R.take q).map (Value.int .i64)) ∧ Below V.heap.size V wr) (fun i _ _ => S - (intOf i).toNat)
  case atStart => exact ⟨0, V.heap.size, 0, Nat.zero_le _, rfl, rfl, hl0, hu1⟩
  case round =>
    clear hl0 hu1
    obtain ⟨q, gi, ci, hq, rfl, rfl, hown, hU⟩ := hrel
    obtain ⟨U, rfl⟩ : ∃ U, U = wr := ⟨_, rfl⟩
    have k2 := hU.keep HBX.out.2.1
    have k3 := hU.keep HBX.out.2.2
    have hB := HBX.out.1.next hU
    by_cases hlt : q < S
    · have HO := Lib.hid (⟨hown, hU⟩ : _ ∧ _)
      clear hown hU
      go_wp2
      go_loopw [9, 8] (fun kk at' wr => ∃ k A m : Nat, k ≤ n1 ∧ kk = .int .i64 k ∧ at' = .int .i64 A ∧ A < S ∧ Hid ((pathL ts ws k).getD q 0 = (A : Int)) ∧ wr = U.drewN m) (fun kk _ _ => n1 - (intOf kk).toNat)
      case atStart => exact ⟨0, q, 0, Nat.zero_le _, rfl, rfl, hlt, Lib.hid (by rw [pathL_zero]; have hq' : q = 0 ∨ q = 1 ∨ q = 2 ∨ q = 3 := (by omega); rcases hq' with rfl | rfl | rfl | rfl <;> rfl), rfl⟩
      case round =>
        obtain ⟨k, A, m, hk, rfl, rfl, hA, HA, rfl⟩ := hrel
        have hqm : Qt U (U.drewN m) := (Qt.refl U).drewN m
        by_cases hkl : k < n1
        · obtain ⟨b, off, rfl, g0⟩ := HC.out k hkl
          have g1 := hB.keep g0
          have hlt' : k < ws.length := by rw [HL.out]; exact hkl
          obtain ⟨he0, he1⟩ := HIN.out k hlt'
          have hst := pathL_step (ts := ts) hlt'
          have hpl := perms4_len _ (HPP.out k (by omega))
          have hstep : (pathL ts ws (k+1)).getD q 0 = (alongL ts (ws.getD k 0)).getD A 0 := by
            rw [hst, then_get (by rw [hpl]; omega), HA.out, Int.toNat_natCast]
          generalize ws.getD k 0 = e at *
          obtain ⟨q2, hq2⟩ : ∃ q2 : Nat, e / 2 = (q2 : Int) := ⟨(e / 2).toNat, by omega⟩
          have hq2n : q2 < tn := by omega
          obtain ⟨bt, offt, a', c', rfl, gt, rt⟩ := HCT.out q2 hq2n
          have hpt := HPT.out q2 hq2n
          have gt1 := hB.keep gt
          have htl := permB_len hpt
          have hal : alongL ts e = if e % 2 = 1 then invL (pad (ts.getD q2 [])) else pad (ts.getD q2 []) := by
            unfold alongL
            rw [hq2, Int.toNat_natCast]
          rw [hal] at hstep
          generalize ts.getD q2 [] = t at *
          have hmS : t.length = S := by omega
          rw [hmS] at gt gt1 rt
          have HTC := Lib.hid ((rt.below hB).cellsC hmS)
          have hwq : IntKind.i64.wrap (Int.tdiv e 2) = (q2 : Int) := by rw [Int.tdiv_eq_ediv_of_nonneg he0, hq2]; exact IntWalk.i64_in _ (by omega)
          have HST := Lib.hid hstep
          have HPTt := Lib.hid hpt
          clear hst hpl hal hstep hpt htl rt g0 gt hmS
          have hmod : e % 2 = 0 ∨ e % 2 = 1 := by omega
          rcases hmod with hm0 | hm1
          · have hb : (e % 2 == 0) = true := by simp; omega
            have htm : IntKind.i64.wrap (Int.tmod e 2) = 0 := by rw [Int.tmod_eq_emod_of_nonneg he0, hm0]; exact IntWalk.i64_in _ (by omega)
            obtain ⟨B, hB1, hB2, hB3⟩ := along_get hS1 hS4 HPTt.out hA
            obtain ⟨bb, ofb, rfl, gA⟩ := HTC.out A hA
            rw [hB1] at gA
            have HNX : Hid ((pathL ts ws (k+1)).getD q 0 = (B : Int)) := Lib.hid (by rw [HST.out, if_neg (by omega)]; exact hB3)
            clear hB1 hB3
            go_wp2
            go_quiet (fail)
            go_wp2
            go_roundw
            case rel => exact ⟨k+1, B, _, by omega, by go_num, rfl, hB2, HNX, rfl⟩
            case measure => simp [intOf]; omega
          · have hb : (e % 2 == 0) = false := by simp; omega
            have htm : IntKind.i64.wrap (Int.tmod e 2) = 1 := by rw [Int.tmod_eq_emod_of_nonneg he0, hm1]; exact IntWalk.i64_in _ (by omega)
            obtain ⟨j, hj1, hj2, hj3, hj4⟩ := idx_ok hS1 hS4 HPTt.out hA
            have HNX : Hid ((pathL ts ws (k+1)).getD q 0 = (j : Int)) := Lib.hid (by rw [HST.out, if_pos hm1]; exact hj1)
            have HJ3 := Lib.hid hj3
            have HJ4 := Lib.hid hj4
            clear hj1 hj3 hj4
            go_wp2
            go_quiet (fail)
            go_wp2
            go_loopw [11] (fun nx wr => ∃ m2 mm : Nat, m2 ≤ j ∧ nx = .int .i64 m2 ∧ wr = U.drewN mm) (fun nx _ => j - (intOf nx).toNat)
            case atStart => exact ⟨0, _, Nat.zero_le _, rfl, rfl⟩
            case round =>
              obtain ⟨m2, mm, hm2, rfl, rfl⟩ := hrel
              obtain ⟨bb, ofb, rfl, gA⟩ := HTC.out m2 (by omega)
              by_cases hmj : m2 < j
              · have hne : (t.getD m2 0 != (A : Int)) = true := by simpa using HJ4.out m2 hmj
                generalize t.getD m2 0 = y at *
                go_wp2
                go_roundw
                case rel => exact ⟨m2+1, mm, by omega, by go_num, rfl⟩
                case measure => simp [intOf]; omega
              · obtain rfl : m2 = j := by omega
                rw [HJ3.out] at gA
                go_wp2
                go_roundw
                case rel => exact ⟨k+1, m2, _, by omega, by go_num, rfl, by omega, HNX, rfl⟩
                case measure => simp [intOf]; omega
        · obtain rfl : k = n1 := by omega
          have hRq : R.getD q 0 = (A : Int) := by
            rw [HRE.out]
            have := HA.out
            rw [← HL.out] at this
            rw [← this]
            simp only [List.getD, List.getElem?_take]
            rw [if_pos hlt]
          have HTK := Lib.hid (take_snoc (t := R) (k := q) (by rw [HRL.out]; exact hlt))
          rw [hRq] at HTK
          obtain ⟨W2, hW2⟩ : ∃ W2, W2 = U.drewN m := ⟨_, rfl⟩
          rw [← hW2] at hqm ⊢
          obtain ⟨hown, hU⟩ := HO.out
          have hg0 := (hown.lt gi rfl).1
          have hown2 := ownsRow_chg hown (hqm.chg 0 0) (fun k hk => .inr (Nat.zero_le _))
          have hownV := hown2.alloc (.cells #[.int .i64 (A : Int)] 2)
          have hnews := news_one W2 2 (.int .i64 (A : Int))
          have hU1 := hU.qt hqm
          have hs3 := hU1.size
          have hU2 := hU1.alloc hU1.size (.cells #[.int .i64 (A : Int)] 2)
          have hU2s := hU2.size
          have HU := Lib.hid hU2
          clear hRq hW2 hown hown2 hU hU1 hU2 k2 k3
          go_wp2_with (at_builtin; refine wpList_append_lies _ rfl _ _ 35 rfl V.heap.size 2 i0 (.int .i64 0) 1 8 Try.underlying35 hi' z0 z1 z2 rfl (by decide) _ _ _ rfl hownV ⟨W2.heap.size, 0, none⟩ 1 1 [.int .i64 (A : Int)] rfl rfl ?d1 ?d2 (by decide) ?d3 ?d4 ?d5 _ rfl ?_)
          case d1 => exact hnews
          case d2 => first | (intro u hu; simp at hu; subst hu; rfl) | rfl | simp
          case d3 => unfold maxLen; omega
          case d4 => omega
          case d5 => simp; omega
          intro g4 c4 w4 hown3 hgr hlie hlt3
          replace hown3 : w4.ownsRow V.heap.size 2 1 (.slice (some ⟨g4, 0, none⟩) (q + 1) c4) (q + 1) ((R.take (q+1)).map (Value.int .i64)) := by
            rw [HTK.out]
            simpa using hown3
          have hb4 := HU.out.grown hgr hU2s (fun x hx => by
            have : gi = x := by simpa [Value.ownBlock] using hx
            omega)
          have F := Lib.hid (⟨hown3, hb4⟩ : _ ∧ _)
          clear hown3 hb4 hgr hlie
          go_wp2
          go_roundw
          case rel => exact ⟨q+1, g4, c4, by omega, by go_num, rfl, F.out⟩
          case measure => simp [intOf]; omega
    · obtain rfl : q = S := by omega
      rw [List.take_of_length_le (by rw [HRL.out]; exact Nat.le_refl _)] at hown
      have h4 : ∀ p ∈ perms4, ∀ x ∈ p, 0 ≤ x ∧ x < 4 := by decide +kernel
      have hO := OwI.mk hown (by omega) (fun x hx => by
        rw [HRE.out] at hx
        have := h4 _ (HPP.out ws.length (Nat.le_refl _)) x (List.mem_of_mem_take hx)
        unfold I64; omega)
      have HO2 := Lib.hid (⟨hO, hB, HBX.out.1.size⟩ : _ ∧ _ ∧ _)
      clear hO hown h4 hU hB
      go_wp2
      go_ret2
      exact ⟨some ⟨gi, 0, none⟩, ci, by rw [HRL.out]; rfl, by rw [HRL.out]; exact HO2.out.1.mono HO2.out.2.2 (Nat.le_refl _), HO2.out.2.1⟩

end Go.Proofs.Ytkipfjdlmomkfaa
