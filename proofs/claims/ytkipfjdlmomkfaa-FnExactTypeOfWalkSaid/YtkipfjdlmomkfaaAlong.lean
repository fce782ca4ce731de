/- The permutation along a directed edge, by the program. -/
import Derived.Test.YtkipfjdlmomkfaaPermArr
import Derived.Test.YtkipfjdlmomkfaaImplCyc2
set_option linter.unusedSimpArgs false
set_option linter.unusedVariables false
set_option maxRecDepth 100000
namespace Go.Proofs.Ytkipfjdlmomkfaa
open Go.RowKit

def alongL (ts : List (List Int)) (e : Int) : List Int := if e % 2 = 1 then invL (pad (ts.getD (e / 2).toNat [])) else pad (ts.getD (e / 2).toNat [])

set_option maxHeartbeats 3200000 in
theorem turnAlong {lo' hi' : Nat} (s : Int) (a : Option Addr) (n c : Nat) (sh : Int) (ta : Option Addr) (tn tc : Nat) (ts : List (List Int)) (e : Int) (w : World)
    (h' : RdR lo' hi' w (.slice ta tn tc) ts) (hn' : ts.length = tn) (h1 : 1 ≤ sh) (h4 : sh ≤ 4) (hp : ts.all (permB sh) = true) (he0 : 0 ≤ e) (he1 : e < 2 * (tn : Int)) (htn : tn ≤ 10) :
    Calls Try.prog 73 #[.agg #[.int .i64 s, .slice a n c, .int .i64 sh, .slice ta tn tc], .int .i64 e] w fun x w' => x = .returned (arr (alongL ts e)) ∧ Below w.heap.size w w' := by
  obtain ⟨q, hq⟩ : ∃ q : Nat, e / 2 = (q : Int) := ⟨(e / 2).toNat, by omega⟩
  have hqn : q < tn := by omega
  obtain ⟨b, off, a', c', rfl, g1, r1⟩ := h'.cellsR hn' q hqn
  have hpt : permB sh (ts.getD q []) = true := by
    have := List.all_eq_true.1 hp (ts.getD q []) (by simp [List.getD, List.getElem?_eq_getElem (show q < ts.length by omega)])
    exact this
  have hpm := pad_perms h1 h4 hpt
  have hlen : (ts.getD q []).length ≤ 4 := by have := permB_len hpt; omega
  have htl : alongL ts e = if e % 2 = 1 then invL (pad (ts.getD q [])) else pad (ts.getD q []) := by
    unfold alongL
    rw [hq, Int.toNat_natCast]
  have HTL := Lib.hid htl
  generalize ts.getD q [] = t at *
  generalize hm : t.length = m at *
  have HM := Lib.hid hm
  have HR1 := Lib.hid r1
  have HPM := Lib.hid hpm
  have hA := ((Below.refl w.heap.size w).alloc (Nat.le_refl _) (.cells #[.int .i64 s, .slice a n c, .int .i64 sh, .slice (some ⟨b, off, none⟩) tn tc] 49)).alloc (by simp) (.cells #[.int .i64 0, .int .i64 0, .int .i64 0, .int .i64 0] 81)
  have hmod : e % 2 = 0 ∨ e % 2 = 1 := by omega
  have hwq : IntKind.i64.wrap (Int.tdiv e 2) = (q : Int) := by rw [Int.tdiv_eq_ediv_of_nonneg he0, hq]; exact IntWalk.i64_in _ (by omega)
  have hB0 : ∀ o o', Below w.heap.size w ((w.alloc o).alloc o') := fun o o' => ((Below.refl _ _).alloc (Nat.le_refl _) o).alloc (by simp) o'
  clear hm r1 hpm hpt hp h' hn' htl
  have k3 : ((w.alloc (.cells #[.int .i64 s, .slice a n c, .int .i64 sh, .slice (some ⟨b, off, none⟩) tn tc] 49)).alloc (.cells #[.int .i64 0, .int .i64 0, .int .i64 0, .int .i64 0] 81)).cell? ⟨w.heap.size, 3, none⟩ = some (.slice (some ⟨b, off, none⟩) tn tc) := by go_simp
  obtain ⟨R, hR⟩ : ∃ R, R = w.heap.size + 1 := ⟨_, rfl⟩
  have bx : Box4 ((w.alloc (.cells #[.int .i64 s, .slice a n c, .int .i64 sh, .slice (some ⟨b, off, none⟩) tn tc] 49)).alloc (.cells #[.int .i64 0, .int .i64 0, .int .i64 0, .int .i64 0] 81)) R (.int .i64 0) (.int .i64 0) (.int .i64 0) (.int .i64 0) := by
    rw [hR]
    exact ⟨by simp, by go_simp, by go_simp, by go_simp, by go_simp, by go_simp, by go_simp, by go_simp, by go_simp⟩
  have g2 := hA.keep g1
  go_enter Try.func73, Try.ntmps73
  go_wp2_with fail
  rw [← hR]
  have hRw : w.heap.size < R := by omega
  clear hR
  generalize (w.alloc (.cells #[.int .i64 s, .slice a n c, .int .i64 sh, .slice (some ⟨b, off, none⟩) tn tc] 49)).alloc (.cells #[.int .i64 0, .int .i64 0, .int .i64 0, .int .i64 0] 81) = V at hA k3 bx g2 ⊢
  refine (permutationOf a' m c' t V (HR1.out.below hA) HM.out hlen).mono ?_
  rintro x w1 ⟨rfl, b1⟩
  replace bx := bx.below b1
  replace hA := hA.next b1
  clear b1 g1 g2 k3
  have HBX := Lib.hid (⟨hA, bx⟩ : _ ∧ _)
  obtain ⟨P, hP⟩ : ∃ P, P = pad t := ⟨_, rfl⟩
  rw [← hP] at HTL HPM ⊢
  clear hP
  obtain ⟨p0, p1, p2, p3, rfl⟩ := len4 (perms4_len _ HPM.out)
  have hwr : IntKind.i64.wrap (e % 2) = e % 2 := IntWalk.i64_in _ (by omega)
  have hI : ∀ W, Calls Try.prog 111 #[.agg #[.int .i64 p0, .int .i64 p1, .int .i64 p2, .int .i64 p3]] W fun x w' => x = .returned (arr (invL [p0, p1, p2, p3])) ∧ Below W.heap.size W w' := fun W => permInverse [p0, p1, p2, p3] HPM.out W
  have HI := Lib.hid hI
  clear hI
  rcases hmod with hm0 | hm1
  · have hts : alongL ts e = [p0, p1, p2, p3] := by rw [HTL.out, if_neg (by omega)]
    have HTS := Lib.hid hts
    have hb : (e % 2 == 1) = false := by simp; omega
    have htm : IntKind.i64.wrap (Int.tmod e 2) = 0 := by rw [Int.tmod_eq_emod_of_nonneg he0, hm0]; exact IntWalk.i64_in _ (by omega)
    have bz : Box4 (((((w1.setCell ⟨R, 0, none⟩ (.int .i64 p0)).setCell ⟨R, 1, none⟩ (.int .i64 p1)).setCell ⟨R, 2, none⟩ (.int .i64 p2)).setCell ⟨R, 3, none⟩ (.int .i64 p3)).alloc (.cells #[.int .i64 p0, .int .i64 p1, .int .i64 p2, .int .i64 p3] 81)) R (.int .i64 p0) (.int .i64 p1) (.int .i64 p2) (.int .i64 p3) := (bx.put4 _ _ _ _).below ((Below.refl _ _).alloc (Nat.le_refl _) _)
    have hRs := bx.lt
    have hch := chg4 w1 R (.int .i64 p0) (.int .i64 p1) (.int .i64 p2) (.int .i64 p3)
    have hBf : Below w.heap.size w (((((w1.setCell ⟨R, 0, none⟩ (.int .i64 p0)).setCell ⟨R, 1, none⟩ (.int .i64 p1)).setCell ⟨R, 2, none⟩ (.int .i64 p2)).setCell ⟨R, 3, none⟩ (.int .i64 p3)).alloc (.cells #[.int .i64 p0, .int .i64 p1, .int .i64 p2, .int .i64 p3] 81)) := (hA.chgn hch (by omega) hA.size).alloc (by have := hA.size; have := hch.size; omega) _
    obtain ⟨_, q0, q1, q2, q3, _, _, _, _⟩ := bz
    obtain ⟨_, r0, r1, r2, r3, f0, f1, f2, f3⟩ := bx
    clear hts hch
    simp only [arr, List.getD_cons_zero, List.getD_cons_succ]
    go_wp2
    exact bodyPost_ret (v := arr [p0, p1, p2, p3]) (by simp [results, Try.results73, go_sem, arr, q0, q1, q2, q3]) rfl ⟨by rw [HTS.out], hBf⟩
  · have hts : alongL ts e = invL [p0, p1, p2, p3] := by rw [HTL.out, if_pos hm1]
    have HTS := Lib.hid hts
    have htm : IntKind.i64.wrap (Int.tmod e 2) = 1 := by rw [Int.tmod_eq_emod_of_nonneg he0, hm1]; exact IntWalk.i64_in _ (by omega)
    clear hts
    obtain ⟨j0, j1, j2, j3, hj⟩ := len4 (perms4_len _ (perms4_inv _ HPM.out))
    rw [hj] at HTS
    have hA1 := (Below.refl w1.heap.size w1).alloc (Nat.le_refl _) (.cells #[.int .i64 p0, .int .i64 p1, .int .i64 p2, .int .i64 p3] 81)
    have bx1 := bx.below hA1
    have HX1 := Lib.hid (⟨hA.next hA1, bx1⟩ : _ ∧ _)
    have HI2 := HI.out (w1.alloc (.cells #[.int .i64 p0, .int .i64 p1, .int .i64 p2, .int .i64 p3] 81))
    rw [hj] at HI2
    simp only [arr, List.getD_cons_zero, List.getD_cons_succ] at HI2 ⊢
    have HI3 := Lib.hid HI2
    clear HI2 hA1 bx1
    go_wp2_with fail
    refine HI3.out.mono ?_
    rintro x w2 ⟨rfl, b2⟩
    obtain ⟨hRl, r0, r1, r2, r3, f0, f1, f2, f3⟩ := HX1.out.2.below b2
    have hB2 := (HX1.out.1.next b2).chgn (chg4 w2 R (.int .i64 j0) (.int .i64 j1) (.int .i64 j2) (.int .i64 j3)) (by omega) (HX1.out.1.next b2).size
    go_wp2
    exact bodyPost_ret (v := arr [j0, j1, j2, j3]) (by simp [results, Try.results73, go_sem, arr, r0, r1, r2, r3]) rfl ⟨by rw [HTS.out], hB2⟩

end Go.Proofs.Ytkipfjdlmomkfaa
