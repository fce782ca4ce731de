/- IsStraight of the program. -/
import Derived.Test.YtecobmmlpoaggaaSpecStr
import Derived.Test.YtecobmmlpoaggaaConcat
import Derived.Test.YtecobmmlpoaggaaImplPrune
set_option linter.unusedSimpArgs false
set_option linter.unusedVariables false
namespace Go.Proofs.Ytecobmmlpoaggaa
open Go.RowKit

theorem arrAtS (a : Addr) (c : Nat) (w : World) : Sem.run Try.prog (Instr.arrayAt 82 (.slice (some a) 2 c)) w = .ok (.pointer (some a)) w := by kernel_rfl

/-- a list with its first element behind it -/
def cw (ws : List Int) (j : Nat) : Int := if j < ws.length then ws.getD j 0 else ws.getD 0 0
theorem cw_in {ws : List Int} {j : Nat} (h : j < ws.length) : cw ws j = ws.getD j 0 := if_pos h
theorem cw_next {ws : List Int} {i : Nat} (h : i < ws.length) : cw ws (i + 1) = nextW ws i := by
  unfold cw nextW
  by_cases e : i + 1 < ws.length
  · rw [if_pos e, Nat.mod_eq_of_lt e]
  · have : i + 1 = ws.length := by omega
    rw [if_neg e, this, Nat.mod_self]
theorem cw_get (ws : List Int) (j : Nat) (hj : j < ws.length + 1) (h0 : 0 < ws.length) : (ws.map (Value.int .i64) ++ [.int .i64 (ws.getD 0 0)])[j]? = some (.int .i64 (cw ws j)) := by
  unfold cw
  by_cases e : j < ws.length
  · rw [if_pos e, List.getElem?_append_left (by simpa using e)]
    simp [List.getD, List.getElem?_eq_getElem e]
  · obtain rfl : j = ws.length := by omega
    rw [if_neg e, List.getElem?_append_right (by simp)]
    simp
theorem stepQ_is {n : Nat} {ds : List (Int × Int)} {ws : List Int} {i : Nat} (hd : ds.length = 2 * n) (hw : walkB n ws = true) (hi : i < ws.length) : stepQ ds (ws.getD i 0) (nextW ws i) = (linkB ds ws i && !backB ws i) := by
  have h := walkB_of hw
  have hx := h.2 i hi
  have hy := h.2 ((i + 1) % ws.length) (Nat.mod_lt _ (by omega))
  have hyn : ws.getD ((i + 1) % ws.length) 0 = nextW ws i := rfl
  rw [hyn] at hy
  unfold inR at hx hy
  have hx' : 0 ≤ ws.getD i 0 ∧ ws.getD i 0 < 2 * (n : Int) := by simpa using hx
  have hy' : 0 ≤ nextW ws i ∧ nextW ws i < 2 * (n : Int) := by simpa using hy
  unfold stepQ linkB backB
  rw [decide_eq_true (by omega), Bool.true_and, Bool.beq_comm]
  rfl
theorem straight_bad {n : Nat} {ds : List (Int × Int)} {ws : List Int} {i : Nat} (hd : ds.length = 2 * n) (hw : walkB n ws = true) (hi : i < ws.length) (h : stepQ ds (ws.getD i 0) (nextW ws i) = false) : (closedB ds ws && noBackB ws) = false := by
  rw [stepQ_is hd hw hi] at h
  cases hl : linkB ds ws i with
  | false => rw [closedB_bad hi hl]; rfl
  | true =>
    rw [hl] at h
    rw [noBack_bad hi (by simpa using h), Bool.and_false]
theorem straight_end {n : Nat} {ds : List (Int × Int)} {ws : List Int} (hd : ds.length = 2 * n) (hw : walkB n ws = true) (h0 : 0 < ws.length) (h : ∀ i, i < ws.length → stepQ ds (ws.getD i 0) (nextW ws i) = true) : (closedB ds ws && noBackB ws) = true := by
  have h2 : ∀ i, i < ws.length → linkB ds ws i = true ∧ backB ws i = false := fun i hi => by
    have := h i hi
    rw [stepQ_is hd hw hi] at this
    simpa using this
  rw [closedB_end (fun i hi => (h2 i hi).1), noBack_end (fun i hi => (h2 i hi).2)]
  simpa using h0

set_option maxRecDepth 100000 in
set_option maxHeartbeats 6400000 in
theorem implStraight {lo hi lo1 hi1 : Nat} (s : Int) (a : Option Addr) (n c : Nat) (xss : List (List Int)) (a1 : Option Addr) (n1 c1 : Nat) (ws : List Int) (w : World) (h : RdR lo hi w (.slice a n c) xss) (hn : xss.length = n) (h1 : RdI lo1 hi1 w (.slice a1 n1 c1) ws) (hl : ws.length = n1) (hcap : n1 ≤ c1) :
    Calls Try.prog 43 #[.agg #[.int .i64 s, .slice a n c], .slice a1 n1 c1] w fun e w' => e = .returned (.tuple #[.bool (straightOf s xss ws).1, .int .i64 (straightOf s xss ws).2]) ∧ Below w.heap.size w w' := by
  have hb1 : n1 ≤ 17592186044416 := by rw [← hl]; exact h1.1
  have HB1 := Lib.hid hb1
  have HN := Lib.hid hn
  have HL := Lib.hid hl
  have HR := Lib.hid h
  have H1 := Lib.hid h1
  have HI := Lib.hid (fun W' (h : RdR lo hi W' (.slice a n c) xss) => implIsGraph s a n c xss W' h hn)
  obtain ⟨P, hP⟩ : ∃ P, P = straightOf s xss ws := ⟨_, rfl⟩
  rw [← hP]
  unfold straightOf at hP
  clear hn hl h h1 hb1
  go_enter Try.func43, Try.ntmps43
  go_wp2_with fail
  refine calls_gen (fun W => Below w.heap.size w W ∧ W.cell? ⟨w.heap.size, 0, none⟩ = some (.int .i64 s) ∧ W.cell? ⟨w.heap.size, 1, none⟩ = some (.slice a n c)) ⟨(Below.refl _ _).alloc (Nat.le_refl _) _, by go_simp, by go_simp⟩ ?_
  rintro W ⟨hB, k0, k1⟩
  refine (HI.out W (HR.out.below hB)).mono ?_
  cases hg : grB s xss with
  | false =>
    rw [hg, if_neg (by simp)] at hP
    rintro e w1 ⟨rfl, b1⟩
    replace hB := hB.next b1
    clear k0 k1 b1
    subst hP
    go_wp2
    refine bodyPost_ret (v := .tuple #[.bool false, .int .i64 1]) (by simp [results, Try.results43, go_sem]) rfl ⟨rfl, hB⟩
  | true =>
    rw [hg, if_pos rfl] at hP
    have hn10 : n ≤ 10 := by have := grB_iff hg; have := HN.out; omega
    have HG := Lib.hid hg
    clear hg
    rintro e w1 ⟨rfl, b1⟩
    replace hB := hB.next b1
    replace k0 := b1.keep k0
    replace k1 := b1.keep k1
    clear b1
    have HPP := Lib.hid hP
    clear hP
    go_wp2_with fail
    refine (isWalkList s a n c a1 n1 c1 ws w1 (H1.out.below hB) HL.out hn10 HB1.out).mono ?_
    cases hw : walkB n ws with
    | false =>
      have hP := HPP.out
      rw [HN.out, hw, if_neg (by simp)] at hP
      rintro e w2 ⟨rfl, b2⟩
      replace hB := hB.next b2
      clear k0 k1 b2
      clear HPP
      subst hP
      go_wp2
      refine bodyPost_ret (v := .tuple #[.bool false, .int .i64 2]) (by simp [results, Try.results43, go_sem]) rfl ⟨rfl, hB⟩
    | true =>
      have hP := HPP.out
      rw [HN.out, hw, if_pos rfl] at hP
      rintro e w2 ⟨rfl, b2⟩
      replace hB := hB.next b2
      replace k0 := b2.keep k0
      replace k1 := b2.keep k1
      clear b2 HPP
      have hn20 : n1 ≤ 20 := by have := (walkB_of hw).1; have := HL.out; omega
      have HW := Lib.hid hw
      have HPP := Lib.hid hP
      clear hP hw
      by_cases hz : n1 = 0
      · subst hz
        have hc : closedB (dirE (pairs xss)) ws = false := by unfold closedB; rw [HL.out]; simp
        have hP := HPP.out
        rw [hc, Bool.false_and] at hP
        clear k0 k1 HPP hc
        subst hP
        go_wp2
        refine bodyPost_ret (v := .tuple #[.bool false, .int .i64 0]) (by simp [results, Try.results43, go_sem]) rfl ⟨rfl, hB⟩
      · have h0 : 0 < n1 := by omega
        have hzi : ¬ (n1 : Int) = 0 := by omega
        obtain ⟨ds, hds⟩ : ∃ ds, ds = dirE (pairs xss) := ⟨_, rfl⟩
        have HSO := Lib.hid (stepsOf s a n c xss w2 (HR.out.below hB) HN.out HG.out)
        have HDL := Lib.hid (show ds.length = 2 * n by rw [hds, dirE_len, pairs_len, HN.out])
        rw [← hds] at HSO HPP
        clear hds
        go_wp2_with fail
        refine HSO.out.mono ?_
        clear HSO
        rintro e w3 ⟨M, k, rfl, hM, b3⟩
        replace hB := hB.next b3
        clear k0 k1 b3
        have HC := Lib.hid ((H1.out.below hB).at HL.out)
        obtain ⟨b, off, rfl, _⟩ := HC.out 0 h0
        have hc1 : (1 : Int) ≤ (c1 : Int) := by omega
        have hcell : Hid (∀ j, j < n1 → w3.cell? ⟨b, off + j, none⟩ = some (.int .i64 (ws.getD j 0))) := Lib.hid (fun j hj => by
          obtain ⟨b', off', e, g⟩ := HC.out j hj
          simp at e
          rw [e.1, e.2]; exact g)
        have HM := Lib.hid hM
        have HBB := Lib.hid hB
        clear hM HC
        go_wp2_with fail
        refine calls_gen (fun W => Below w3.heap.size w3 W ∧ W.cell? ⟨w3.heap.size, 0, none⟩ = some (.slice (some ⟨b, off, none⟩) n1 c1) ∧ W.cell? ⟨w3.heap.size, 1, none⟩ = some (.slice (some ⟨b, off, none⟩) 1 c1)) ⟨(Below.refl _ _).alloc (Nat.le_refl _) _, by go_simp, by go_simp⟩ ?_
        rintro W4 ⟨b4, y0, y1⟩
        refine (slConcat w3.heap.size b off n1 c1 c1 ws W4 HL.out h0 hn20 y0 y1 (fun j hj => b4.keep (hcell.out j hj))).mono ?_
        rintro e w5 ⟨g, cg, rfl, o5, b5⟩
        have hcg : n1 + 1 ≤ cg := by
          rcases o5.2 with ⟨h, _⟩ | ⟨_, _, _, h, _, _, h2, _⟩
          · simp at h
          · simp at h; omega
        have HCC := Lib.hid (fun j (hj : j < n1 + 1) => show w5.cell? ⟨g, j, none⟩ = some (.int .i64 (cw ws j)) by
          rw [o5.cellAt j (by omega)]; exact cw_get ws j (by rw [HL.out]; exact hj) (by rw [HL.out]; exact h0))
        have HM5 := Lib.hid (HM.out.keep (b4.next b5))
        have HB5 := Lib.hid (HBB.out.next (b4.next b5))
        have har := arrAtS
        clear b4 y0 y1 b5 o5 hB HM HBB hcell
        go_wp2
        go_loopw [28] (fun i wr => ∃ q : Nat, q ≤ n1 ∧ i = .int .i64 q ∧ Hid (∀ j, j < q → stepQ ds (ws.getD j 0) (nextW ws j) = true) ∧ Qt w5 wr) (fun i _ => n1 - (intOf i).toNat)
        case atStart => exact ⟨0, Nat.zero_le _, rfl, Lib.hid (fun j hj => by omega), Qt.refl _⟩
        case round =>
          obtain ⟨q, hq, rfl, HQ, hqt⟩ := hrel
          by_cases hlq : q < n1
          · have g0 := hqt.below.keep (HCC.out q (by omega))
            have g1 := hqt.below.keep (HCC.out (q + 1) (by omega))
            rw [cw_in (by rw [HL.out]; exact hlq)] at g0
            rw [cw_next (by rw [HL.out]; exact hlq)] at g1
            have hin := (walkB_of HW.out).2
            have hx := hin q (by rw [HL.out]; exact hlq)
            have hy := hin ((q + 1) % ws.length) (Nat.mod_lt _ (by rw [HL.out]; exact h0))
            have hyn : ws.getD ((q + 1) % ws.length) 0 = nextW ws q := rfl
            rw [hyn] at hy
            unfold inR at hx hy
            have hx' : 0 ≤ ws.getD q 0 ∧ ws.getD q 0 < 2 * (n : Int) := by simpa using hx
            have hy' : 0 ≤ nextW ws q ∧ nextW ws q < 2 * (n : Int) := by simpa using hy
            have hlook := (HM5.out.keep hqt.below).look (x := ws.getD q 0) (y := nextW ws q) (by unfold I64; omega) (by unfold I64; omega)
            obtain ⟨v, hv⟩ : ∃ v, v = stepQ ds (ws.getD q 0) (nextW ws q) := ⟨_, rfl⟩
            rw [← hv] at hlook
            have HVO := Lib.hid hv
            clear hv hx hy hx' hy' hyn hin
            generalize ws.getD q 0 = x at g0 hlook
            generalize nextW ws q = y at g1 hlook
            have hs1 : wrap64 ((q : Int) + 2) = (q : Int) + 2 := IntWalk.wrap64_in _ (by omega)
            have hs2 : IntKind.i64.wrap ((q : Int) + 2) = (q : Int) + 2 := IntWalk.i64_in _ (by omega)
            have hs3 : (q : Int) + 2 ≤ (cg : Int) := by omega
            have hs4 : ((q : Int) + 2).toNat - q = 2 := by omega
            have hs5 : ((q : Int) + 2).toNat = q + 2 := by omega
            have hs6 : ((q : Int) + 2 - (q : Int)).toNat = 2 := by omega
            have hs7 : (0 : Int) ≤ (q : Int) + 2 := by omega
            have hs8 : (q : Int) ≤ (q : Int) + 2 := by omega
            cases v with
            | false =>
              have hbad := straight_bad HDL.out HW.out (by rw [HL.out]; exact hlq) HVO.out.symm
              have hP := HPP.out
              rw [hbad] at hP
              have HPF := Lib.hid hP
              clear hbad hP
              go_wp2
              refine bodyPost_ret (v := .tuple #[.bool false, .int .i64 0]) (by simp [results, Try.results43, go_sem]) rfl ⟨by rw [HPF.out], HB5.out.qt hqt⟩
            | true =>
              have hall : Hid (∀ j, j < q + 1 → stepQ ds (ws.getD j 0) (nextW ws j) = true) := Lib.hid (fun j hj => by
                by_cases e : j < q
                · exact HQ.out j e
                · obtain rfl : j = q := by omega
                  exact HVO.out.symm)
              go_wp2
              go_roundw
              case rel => exact ⟨q+1, by omega, by go_num, hall, hqt⟩
              case measure => simp [intOf]; omega
          · obtain rfl : q = n1 := by omega
            have hend := straight_end HDL.out HW.out (by rw [HL.out]; exact h0) (fun j hj => HQ.out j (by rw [HL.out] at hj; exact hj))
            have hP := HPP.out
            rw [hend] at hP
            have HPF := Lib.hid hP
            clear hend hP
            go_wp2
            refine bodyPost_ret (v := .tuple #[.bool true, .int .i64 0]) (by simp [results, Try.results43, go_sem]) rfl ⟨by rw [HPF.out], HB5.out.qt hqt⟩

end Go.Proofs.Ytecobmmlpoaggaa
