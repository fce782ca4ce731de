/- PermutationOfWalk of the program. -/
import Derived.Test.YtkipfjdlmomkfaaAlong
import Derived.Test.YtkipfjdlmomkfaaClosedW
import Derived.Test.YtkipfjdlmomkfaaSlCmp
import Derived.Deep.RegionLaw
set_option linter.unusedSimpArgs false
set_option linter.unusedVariables false
set_option maxRecDepth 100000
namespace Go.Proofs.Ytkipfjdlmomkfaa
open Go.RowKit

def pathL (ts : List (List Int)) (ws : List Int) (k : Nat) : List Int := (ws.take k).foldl (fun p e => thenL p (alongL ts e)) four
theorem pathL_zero (ts : List (List Int)) (ws : List Int) : pathL ts ws 0 = four := rfl
theorem pathL_step {ts : List (List Int)} {ws : List Int} {k : Nat} (h : k < ws.length) : pathL ts ws (k+1) = thenL (pathL ts ws k) (alongL ts (ws.getD k 0)) := by
  unfold pathL
  rw [take_snoc h, List.foldl_append]
  rfl
theorem along_perms {sh : Int} {ts : List (List Int)} {e : Int} (h1 : 1 ≤ sh) (h4 : sh ≤ 4) (hp : ts.all (permB sh) = true) (he0 : 0 ≤ e) (he1 : e < 2 * (ts.length : Int)) : alongL ts e ∈ perms4 := by
  have hq : (e / 2).toNat < ts.length := by omega
  have hpt : permB sh (ts.getD (e / 2).toNat []) = true := by
    have := List.all_eq_true.1 hp (ts.getD (e / 2).toNat []) (by simp [List.getD, List.getElem?_eq_getElem hq])
    exact this
  have := pad_perms h1 h4 hpt
  unfold alongL
  split
  · exact perms4_inv _ this
  · exact this
theorem path_perms {sh : Int} {ts : List (List Int)} {ws : List Int} (h1 : 1 ≤ sh) (h4 : sh ≤ 4) (hp : ts.all (permB sh) = true) (hw : ∀ j, j < ws.length → 0 ≤ ws.getD j 0 ∧ ws.getD j 0 < 2 * (ts.length : Int)) : ∀ k, k ≤ ws.length → pathL ts ws k ∈ perms4
  | 0, _ => four_perms
  | k+1, h => by
    rw [pathL_step (by omega)]
    obtain ⟨e0, e1⟩ := hw k (by omega)
    exact perms4_then _ (path_perms h1 h4 hp hw k (by omega)) _ (along_perms h1 h4 hp e0 e1)

theorem pw_ok {s : Int} {xss : List (List Int)} {sh : Int} {ts : List (List Int)} {ws : List Int} (h : pwCode s xss sh ts ws = 0) : cvB s xss sh ts = true ∧ 0 < ws.length ∧ walkB xss.length ws = true ∧ closedB (dirE (pairs xss)) ws = true := by
  unfold pwCode at h
  cases hc : cvB s xss sh ts with
  | false => rw [hc] at h; simp at h
  | true =>
    rw [hc, if_pos rfl] at h
    cases hw : (decide (0 < ws.length) && walkB xss.length ws) with
    | false => rw [hw] at h; simp at h
    | true =>
      rw [hw, if_pos rfl] at h
      cases hk : closedB (dirE (pairs xss)) ws with
      | false => rw [hk] at h; simp at h
      | true =>
        simp only [Bool.and_eq_true, decide_eq_true_eq] at hw
        exact ⟨rfl, hw.1, hw.2, rfl⟩

def BoxP (w : World) (b : Nat) (p : List Int) : Prop := Box4 w b (.int .i64 (p.getD 0 0)) (.int .i64 (p.getD 1 0)) (.int .i64 (p.getD 2 0)) (.int .i64 (p.getD 3 0))

set_option maxHeartbeats 6400000 in
theorem implPW_yes {lo hi lo' hi' lo1 hi1 : Nat} (s : Int) (a : Option Addr) (n c : Nat) (xss : List (List Int)) (S : Nat) (ta : Option Addr) (tn tc : Nat) (ts : List (List Int)) (a1 : Option Addr) (n1 c1 : Nat) (ws : List Int) (w : World)
    (h : RdR lo hi w (.slice a n c) xss) (hn : xss.length = n) (h' : RdR lo' hi' w (.slice ta tn tc) ts) (hn' : ts.length = tn) (h1 : RdI lo1 hi1 w (.slice a1 n1 c1) ws) (hl : ws.length = n1) (hc : pwCode s xss S ts ws = 0) :
    Calls Try.prog 38 #[.agg #[.int .i64 s, .slice a n c, .int .i64 S, .slice ta tn tc], .slice a1 n1 c1] w fun e w' => ∃ a' c', e = .returned (.tuple #[.slice a' ((pathL ts ws ws.length).take S).length c', .int .i64 0]) ∧ OwI w.heap.size w'.heap.size w' (.slice a' ((pathL ts ws ws.length).take S).length c') ((pathL ts ws ws.length).take S) ∧ Below w.heap.size w w' := by
  have hb0 : ∀ o, Below w.heap.size w (w.alloc o) := fun o => (Below.refl _ _).alloc (Nat.le_refl _) o
  obtain ⟨hcv, hpos, hwb, _⟩ := pw_ok hc
  obtain ⟨hg, _, ⟨hs1, hs4⟩, htl, hpm⟩ := cvB_hd hcv
  have hn10 : n ≤ 10 := by have := grB_iff hg; omega
  have htn : tn = n := by omega
  subst htn
  obtain ⟨hw20, hwin⟩ := walkB_of hwb
  have hin : ∀ j, j < ws.length → 0 ≤ ws.getD j 0 ∧ ws.getD j 0 < 2 * (tn : Int) := fun j hj => by
    have := hwin j hj
    unfold inR at this
    rw [hn] at this
    simp only [Bool.and_eq_true, decide_eq_true_eq] at this
    exact this
  have HIN := Lib.hid hin
  have HPP := Lib.hid (path_perms (ts := ts) (ws := ws) hs1 hs4 hpm (by rw [hn']; exact hin))
  have HAP := Lib.hid (fun e (he0 : 0 ≤ e) (he1 : e < 2 * (ts.length : Int)) => along_perms (e := e) hs1 hs4 hpm he0 he1)
  have HL := Lib.hid hl
  have HN' := Lib.hid hn'
  have HC := Lib.hid (h1.at hl)
  have HTA := Lib.hid (fun W (hB : Below w.heap.size w W) e (he0 : 0 ≤ e) (he1 : e < 2 * (tn : Int)) => turnAlong s a tn c S ta tn tc ts e W (h'.below hB) hn' hs1 hs4 hpm he0 he1 hn10)
  have HCK := Lib.hid (fun W (hB : Below w.heap.size w W) => checkClosedWalk s a tn c xss S ta tn tc ts a1 n1 c1 ws W (h.below hB) hn (h'.below hB) hn' (h1.below hB) hl)
  have HC0 := Lib.hid hc
  have hn20 : n1 ≤ 20 := by omega
  have hS4 : S ≤ 4 := by omega
  clear h hn h' hn' h1 hl hc hcv hpos hwb hg htl hpm hwin hin hw20
  go_enter Try.func38, Try.ntmps38
  go_wp2_with fail
  refine calls_gen (fun W => Below w.heap.size w W ∧ Box4 W w.heap.size (.int .i64 s) (.slice a tn c) (.int .i64 S) (.slice ta tn tc)) ⟨hb0 _, ⟨by simp, by go_simp, by go_simp, by go_simp, by go_simp, by go_simp, by go_simp, by go_simp, by go_simp⟩⟩ ?_
  rintro W ⟨hB, bx⟩
  refine (HCK.out W hB).mono ?_
  rw [HC0.out]
  rintro e w1 ⟨rfl, b1⟩
  replace bx := bx.below b1
  replace hB := hB.next b1
  clear b1
  go_wp2_with fail
  refine (unitPermutation w1).mono ?_
  rintro e w2 ⟨rfl, b2⟩
  replace bx := bx.below b2
  replace hB := hB.next b2
  clear b2
  simp only [arr, four, List.getD_cons_zero, List.getD_cons_succ]
  go_wp2
  obtain ⟨X, hX⟩ : ∃ X, X = w2.heap.size := ⟨_, rfl⟩
  have hwX : w.heap.size < X := by rw [hX]; exact bx.lt
  have hA := (Below.refl w2.heap.size w2).alloc (Nat.le_refl _) (.cells #[.int .i64 0, .int .i64 1, .int .i64 2, .int .i64 3] 81)
  have bX : BoxP (w2.alloc (.cells #[.int .i64 0, .int .i64 1, .int .i64 2, .int .i64 3] 81)) X (pathL ts ws 0) := by
    rw [hX]
    exact ⟨by simp, by simp [pathL, four], by simp [pathL, four], by simp [pathL, four], by simp [pathL, four], by go_simp, by go_simp, by go_simp, by go_simp⟩
  have HV := Lib.hid (⟨hB.next hA, bx.below hA, bX⟩ : _ ∧ _ ∧ _)
  rw [← hX]
  generalize w2.alloc (.cells #[.int .i64 0, .int .i64 1, .int .i64 2, .int .i64 3] 81) = V at HV ⊢
  clear hX hA bX bx hB
  go_loopw [9, 19] (fun _ i wr => ∃ k : Nat, k ≤ n1 ∧ i = .int .i64 k ∧ BoxP wr X (pathL ts ws k) ∧ Chg X (X+1) V wr) (fun _ i _ => n1 - (intOf i).toNat)
  case atStart => exact ⟨0, Nat.zero_le _, rfl, HV.out.2.2, Chg.refl _ _ _⟩
  case round =>
    obtain ⟨k, hk, rfl, bP, hch⟩ := hrel
    have hsV := HV.out.1.size
    have hB : Below w.heap.size w wr := HV.out.1.chgn hch (by omega) hsV
    have bC := HV.out.2.1.chg hch (.inl hwX)
    by_cases hlt : k < n1
    · obtain ⟨b, off, rfl, g0⟩ := HC.out k hlt
      have g1 := hB.keep g0
      have hlt' : k < ws.length := by rw [HL.out]; exact hlt
      obtain ⟨he0, he1⟩ := HIN.out k hlt'
      have HST := Lib.hid (pathL_step (ts := ts) hlt')
      have hpp := HPP.out k (by omega)
      have hap := HAP.out (ws.getD k 0) he0 (by rw [HN'.out]; exact he1)
      have hta := HTA.out wr.drew (hB.qt (Qt.refl _).drew) (ws.getD k 0) he0 he1
      have hth := fun W => permThen (pathL ts ws k) (alongL ts (ws.getD k 0)) hpp hap W
      have hnx := perms4_then _ hpp _ hap
      generalize ws.getD k 0 = e at *
      unfold BoxP at bP
      generalize pathL ts ws k = P at *
      generalize alongL ts e = Q at *
      obtain ⟨p0, p1, p2, p3, rfl⟩ := len4 (perms4_len _ hpp)
      obtain ⟨q0, q1, q2, q3, rfl⟩ := len4 (perms4_len _ hap)
      generalize thenL [p0, p1, p2, p3] [q0, q1, q2, q3] = T at *
      obtain ⟨t0, t1, t2, t3, rfl⟩ := len4 (perms4_len _ hnx)
      simp only [arr, List.getD_cons_zero, List.getD_cons_succ] at hta hth bP
      have HTA2 := Lib.hid hta
      have HTH := Lib.hid hth
      have HBX := Lib.hid (⟨bP, bC, hB, hch⟩ : _ ∧ _ ∧ _ ∧ _)
      obtain ⟨hXl, x0, x1, x2, x3, f0, f1, f2, f3⟩ := bP
      obtain ⟨_, k0, k1, k2, k3, _, _, _, _⟩ := bC
      clear hta hth hpp hap hnx hB hch g0
      go_wp2
      go_region_law (first
        | (go_simp; go_at_call 73; refine HTA2.out.mono ?_; rintro x w3 ⟨rfl, b3⟩; have y0 := b3.keep ((Qt.refl wr).drew.cell x0); have y1 := b3.keep ((Qt.refl wr).drew.cell x1); have y2 := b3.keep ((Qt.refl wr).drew.cell x2); have y3 := b3.keep ((Qt.refl wr).drew.cell x3); have m0 := b3.keep ((Qt.refl wr).drew.cell k0); have m1 := b3.keep ((Qt.refl wr).drew.cell k1); have m2 := b3.keep ((Qt.refl wr).drew.cell k2); have m3 := b3.keep ((Qt.refl wr).drew.cell k3))
        | (go_simp; go_at_call 72; refine (HTH.out w3).mono ?_; rintro x w4 ⟨rfl, b4⟩; have bb := ((Qt.refl wr).drew.below.next b3).next b4; have bP4 := HBX.out.1.below bb; obtain ⟨hXl4, z0, z1, z2, z3, zf0, zf1, zf2, zf3⟩ := bP4))
      all_goals
        have bP5 := (HBX.out.1.below bb).put4 (.int .i64 t0) (.int .i64 t1) (.int .i64 t2) (.int .i64 t3)
        have hch5 := (HBX.out.2.2.2.trans (bb.chg X (X+1))).trans (chg4 w4 X (.int .i64 t0) (.int .i64 t1) (.int .i64 t2) (.int .i64 t3))
        have F : Hid (BoxP ((((w4.setCell ⟨X, 0, none⟩ (.int .i64 t0)).setCell ⟨X, 1, none⟩ (.int .i64 t1)).setCell ⟨X, 2, none⟩ (.int .i64 t2)).setCell ⟨X, 3, none⟩ (.int .i64 t3)) X (pathL ts ws (k+1)) ∧ _) := Lib.hid (⟨by rw [HST.out]; exact bP5, hch5⟩)
        clear bP5 hch5 z0 z1 z2 z3 zf0 zf1 zf2 zf3 y0 y1 y2 y3 m0 m1 m2 m3
        go_wp2
        go_roundw
        case rel => exact ⟨k+1, by omega, by go_num, F.out⟩
        case measure => simp [intOf]; omega
    · obtain rfl : k = n1 := by omega
      have hpp := HPP.out k (by rw [HL.out]; exact Nat.le_refl _)
      have hlw : ws.length = k := HL.out
      rw [← hlw] at bP hpp
      obtain ⟨P, hPe⟩ : ∃ P, P = pathL ts ws ws.length := ⟨_, rfl⟩
      rw [← hPe] at bP hpp
      have HPE := Lib.hid hPe
      clear hPe
      have hpl := perms4_len _ hpp
      obtain ⟨_, k0, k1, k2, k3, _, _, _, _⟩ := bC
      have hcl := slClone S 4 ⟨X, 0, none⟩ (P.take S) wr (by omega) (by rw [List.length_take]; omega) (by
        intro j u hu
        have hj : j < (P.take S).length := by have := (List.getElem?_eq_some_iff.1 hu).1; rwa [List.length_map] at this
        rw [List.length_take] at hj
        have hu2 : u = .int .i64 (P.getD j 0) := by
          rw [List.getElem?_map, List.getElem?_take, if_pos (by omega)] at hu
          rw [List.getElem?_eq_getElem (by omega)] at hu
          simp at hu
          simp [List.getD, List.getElem?_eq_getElem (show j < P.length by omega), ← hu]
        rw [addr_add, Nat.zero_add, hu2]
        obtain ⟨_, x0, x1, x2, x3, _⟩ := bP
        have hj' : j = 0 ∨ j = 1 ∨ j = 2 ∨ j = 3 := by omega
        rcases hj' with rfl | rfl | rfl | rfl
        · exact x0
        · exact x1
        · exact x2
        · exact x3)
      have HCL := Lib.hid hcl
      have HBF := Lib.hid (⟨hB, hpl, hpp⟩ : _ ∧ _ ∧ _)
      clear hcl hlw bP hch hpp hpl
      go_wp2_with fail
      refine HCL.out.mono ?_
      rintro e w3 ⟨v, rfl, ho, b3⟩
      obtain ⟨hB, hpl, hpp⟩ := HBF.out
      have hO : OwI wr.heap.size w3.heap.size w3 v (P.take S) := OwI.mk ho (by omega) (fun x hx => by
        have : x ∈ P := List.mem_of_mem_take hx
        have h4 : ∀ p ∈ perms4, ∀ x ∈ p, 0 ≤ x ∧ x < 4 := by decide +kernel
        have := h4 P hpp x this
        unfold I64; omega)
      obtain ⟨av, cv, rfl⟩ := hO.rd.shape
      have HO2 := Lib.hid (⟨hO, hB.next b3, hB.size⟩ : _ ∧ _ ∧ _)
      clear hO ho b3 hB
      go_wp2
      go_ret2
      have hlS : (P.take S).length = S := by rw [List.length_take]; have := HBF.out.2.1; omega
      rw [← HPE.out]
      exact ⟨av, cv, by rw [hlS]; rfl, HO2.out.1.mono HO2.out.2.2 (Nat.le_refl _), HO2.out.2.1⟩

end Go.Proofs.Ytkipfjdlmomkfaa
