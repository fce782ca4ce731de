/- IsCover of the program. -/
import Derived.Test.YtlahfglblgppgaaArr
import Derived.Test.YtlahfglblgppgaaCoreB
import Derived.Deep.RegionHeld3
set_option linter.unusedSimpArgs false
set_option linter.unusedVariables false
set_option maxRecDepth 100000
namespace Go.Proofs.Ytlahfglblgppgaa
open Go.RowKit

theorem eq_perm (a0 a1 a2 a3 b0 b1 b2 b3 : Int) (w : World) : (Op.equalIn 10000 166 (.agg #[.int .i64 a0, .int .i64 a1, .int .i64 a2, .int .i64 a3]) (.agg #[.int .i64 b0, .int .i64 b1, .int .i64 b2, .int .i64 b3])).run Try.prog w = .ok (a0 == b0 && (a1 == b1 && (a2 == b2 && a3 == b3))) w := by
  obtain ⟨i0, hi, _⟩ := info_parts Try.info2
  have hu : Try.prog.underlying 166 = some (.array 4 2) := by kernel_rfl
  rw [show (10000 : Nat) = 9999 + 1 from rfl, run_equalIn_array (P := Try.prog) (i := i0) (n := 4) (e := 2) w 9999 _ _ hu hi]
  have h1 : ∀ p q w, (Op.equalIn 9999 2 (.int .i64 p) (.int .i64 q)).run Try.prog w = .ok (p == q) w := fun p q w => run_equalIn_int w 9998 _ _ .i64 p q Try.underlying2
  simp only [List.range, List.range.loop, Op.eqItems, cells64]
  have p0 : ∀ x y z u w, (part 2 #[.int .i64 x, .int .i64 y, .int .i64 z, .int .i64 u] (0 * 1)).run Try.prog w = .ok (.int .i64 x) w := fun x y z u w => by kernel_rfl
  have p1 : ∀ x y z u w, (part 2 #[.int .i64 x, .int .i64 y, .int .i64 z, .int .i64 u] (1 * 1)).run Try.prog w = .ok (.int .i64 y) w := fun x y z u w => by kernel_rfl
  have p2 : ∀ x y z u w, (part 2 #[.int .i64 x, .int .i64 y, .int .i64 z, .int .i64 u] (2 * 1)).run Try.prog w = .ok (.int .i64 z) w := fun x y z u w => by kernel_rfl
  have p3 : ∀ x y z u w, (part 2 #[.int .i64 x, .int .i64 y, .int .i64 z, .int .i64 u] (3 * 1)).run Try.prog w = .ok (.int .i64 u) w := fun x y z u w => by kernel_rfl
  simp only [Sem.run_bind, p0, p1, p2, p3, h1, Result.andThen_ok]
  cases a0 == b0 <;> simp only [Bool.not_false, Bool.not_true, if_true, Bool.false_eq_true, if_false, Sem.run_pure, Sem.run_bind, p0, p1, p2, p3, h1, Result.andThen_ok, Bool.false_and, Bool.true_and]
  cases a1 == b1 <;> simp only [Bool.not_false, Bool.not_true, if_true, Bool.false_eq_true, if_false, Sem.run_pure, Sem.run_bind, p0, p1, p2, p3, h1, Result.andThen_ok, Bool.false_and, Bool.true_and]
  cases a2 == b2 <;> simp only [Bool.not_false, Bool.not_true, if_true, Bool.false_eq_true, if_false, Sem.run_pure, Sem.run_bind, p0, p1, p2, p3, h1, Result.andThen_ok, Bool.false_and, Bool.true_and]
  cases a3 == b3 <;> simp only [Bool.not_false, Bool.not_true, if_true, Bool.false_eq_true, if_false, Sem.run_pure]

theorem four_eq {zs : List Int} (h : zs.length = 4) : (zs.getD 0 0 == 0 && (zs.getD 1 0 == 1 && (zs.getD 2 0 == 2 && zs.getD 3 0 == 3))) = decide (zs = four) := by
  obtain ⟨a, b, c, d, rfl⟩ := len4 h
  rw [Bool.eq_iff_iff]
  simp [four, and_assoc]

set_option maxHeartbeats 1600000 in
theorem isPermutation {lo hi : Nat} (a : Option Addr) (n c : Nat) (t : List Int) (s : Int) (w : World) (h : RdI lo hi w (.slice a n c) t) (hn : t.length = n) (h1 : 1 ≤ s) (h4 : s ≤ 4) :
    Calls Try.prog 146 #[.slice a n c, .int .i64 s] w fun e w' => e = .returned (.bool (permB s t)) ∧ Below w.heap.size w w' := by
  have hb0 : ∀ o, Below w.heap.size w (w.alloc o) := fun o => (Below.refl _ _).alloc (Nat.le_refl _) o
  have hlen2 := h.1
  rw [hn] at hlen2
  have HR := Lib.hid h
  have HN := Lib.hid hn
  clear h hn
  by_cases hl : (n : Int) = s
  case neg =>
    have hne : ((n : Int) != s) = true := by simpa using hl
    have HB := Lib.hid (show permB s t = false from permB_no_len (by rw [HN.out]; exact hl))
    go_enter Try.func146, Try.ntmps146
    go_wp2
    go_ret
    exact ⟨by rw [HB.out]; rfl, Below.refl _ _⟩
  have hne : ((n : Int) != s) = false := by simpa using hl
  have hn4 : n ≤ 4 := by omega
  have HB := Lib.hid (permB_sort h1 h4 (by rw [HN.out]; exact hl))
  have hlz : (isort (pad t)).length = 4 := by unfold isort; rw [sortTo_len, pad_len (by rw [HN.out]; exact hn4)]
  have HF := Lib.hid (four_eq hlz)
  clear hl hlz
  go_enter Try.func146, Try.ntmps146
  go_wp2_with fail
  refine (permutationOf a n c t w HR.out HN.out hn4).mono ?_
  rintro e w1 ⟨rfl, b1⟩
  have hpl := pad_len (t := t) (by rw [HN.out]; exact hn4)
  generalize pad t = p at *
  have hB := b1
  have hz1 := b1.size
  clear b1
  unfold arr
  go_wp2_with fail
  refine calls_gen (fun W => Below w1.heap.size w1 W ∧ RowX W w1.heap.size 4 p) ⟨?_, ?_⟩ ?_
  · repeat (refine Below.setCell ?_ (by simp) _)
    exact (Below.refl _ _).alloc (Nat.le_refl _) _
  · refine ⟨hpl, by simp [World.setCell], fun j hj => ?_, fun j hj => ?_⟩
    all_goals
      have hj' : j = 0 ∨ j = 1 ∨ j = 2 ∨ j = 3 := by omega
      rcases hj' with rfl | rfl | rfl | rfl <;> go_simp
  rintro W ⟨bW, rx⟩
  replace hB := hB.next bW
  have hsW := rx.lt
  refine (slSort w1.heap.size 4 4 p W rx (by omega) (by omega)).mono ?_
  rintro e w2 ⟨rfl, r2, c2⟩
  replace hB := hB.chgn c2 (by have := bW.size; omega) hB.size
  have z0 := r2.cell 0 (by omega)
  have z1 := r2.cell 1 (by omega)
  have z2 := r2.cell 2 (by omega)
  have z3 := r2.cell 3 (by omega)
  clear r2 c2 rx
  have HE := Lib.hid (HB.out.trans HF.out.symm)
  clear HB HF
  generalize (isort p).getD 0 0 = x0 at *
  generalize (isort p).getD 1 0 = x1 at *
  generalize (isort p).getD 2 0 = x2 at *
  generalize (isort p).getD 3 0 = x3 at *
  have heq := fun W => eq_perm x0 x1 x2 x3 0 1 2 3 W
  go_wp2
  go_region_held3 (fun W' => Below w2.heap.size w2 W' ∧ W'.cell? ⟨w1.heap.size, 0, none⟩ = some (.int .i64 x0) ∧ W'.cell? ⟨w1.heap.size, 1, none⟩ = some (.int .i64 x1) ∧ W'.cell? ⟨w1.heap.size, 2, none⟩ = some (.int .i64 x2) ∧ W'.cell? ⟨w1.heap.size, 3, none⟩ = some (.int .i64 x3))
    (first | (exact ⟨(Below.refl _ _).drew, z0, z1, z2, z3⟩) | (go_split_ands; exact ⟨Below.next (by assumption) b5, b5.keep (by assumption), b5.keep (by assumption), b5.keep (by assumption), b5.keep (by assumption)⟩))
    (first | (go_at_call 167; go_split_ands; refine (unitPermutation _).mono ?_; rintro e w5 ⟨rfl, b5⟩; unfold arr four))
  go_split_ands
  have bS : Below w2.heap.size w2 w5 := by assumption
  clear b5
  go_wp2
  go_ret
  exact ⟨by rw [HE.out]; rfl, hB.next bS⟩

set_option maxHeartbeats 1600000 in
theorem implIsCover {lo hi lo' hi' : Nat} (s : Int) (a : Option Addr) (n c : Nat) (xss : List (List Int)) (sh : Int) (ta : Option Addr) (tn tc : Nat) (ts : List (List Int)) (w : World)
    (h : RdR lo hi w (.slice a n c) xss) (hn : xss.length = n) (h' : RdR lo' hi' w (.slice ta tn tc) ts) (hn' : ts.length = tn) :
    Calls Try.prog 102 #[.agg #[.int .i64 s, .slice a n c, .int .i64 sh, .slice ta tn tc]] w fun e w' => e = .returned (.bool (cvB s xss sh ts)) ∧ Below w.heap.size w w' := by
  have hb0 : ∀ o, Below w.heap.size w (w.alloc o) := fun o => (Below.refl _ _).alloc (Nat.le_refl _) o
  have HN := Lib.hid hn
  have HN' := Lib.hid hn'
  have HCells := Lib.hid (h'.cellsR hn')
  have hlt0 := h.1
  rw [hn] at hlt0
  have hlt1 := h'.1
  rw [hn'] at hlt1
  have HR := Lib.hid h
  clear hn hn' h h'
  go_enter Try.func102, Try.ntmps102
  go_wp2_with fail
  refine calls_gen (fun W => Below w.heap.size w W ∧ W.cell? ⟨w.heap.size, 0, none⟩ = some (.int .i64 s) ∧ W.cell? ⟨w.heap.size, 1, none⟩ = some (.slice a n c) ∧ W.cell? ⟨w.heap.size, 2, none⟩ = some (.int .i64 sh) ∧ W.cell? ⟨w.heap.size, 3, none⟩ = some (.slice ta tn tc)) ⟨hb0 _, by go_simp, by go_simp, by go_simp, by go_simp⟩ ?_
  rintro W ⟨hB, k0, k1, k2, k3⟩
  refine (implIsGraph s a n c xss W (HR.out.below hB) HN.out).mono ?_
  rintro e w1 ⟨rfl, b1⟩
  replace k0 := b1.keep k0
  replace k1 := b1.keep k1
  replace k2 := b1.keep k2
  replace k3 := b1.keep k3
  replace hB := hB.next b1
  clear b1
  cases hg : grB s xss with
  | false =>
    have HB := Lib.hid (show cvB s xss sh ts = false by unfold cvB; rw [hg]; rfl)
    clear hg
    go_wp2
    go_ret
    exact ⟨by rw [HB.out]; rfl, hB⟩
  | true =>
  have HG := Lib.hid hg
  clear hg
  cases hs : shB sh with
  | false =>
    have HB := Lib.hid (show cvB s xss sh ts = false by unfold cvB; rw [hs]; simp)
    have HS := Lib.hid hs
    clear hs
    go_wp2_with (go_at_call 145; refine (isSheets _ _).mono ?_; rintro e w' ⟨rfl, q1⟩; rw [HS.out])
    go_ret
    exact ⟨by rw [HB.out]; rfl, hB.qt q1⟩
  | true =>
  have HS := Lib.hid hs
  clear hs
  by_cases hl : tn = n
  case neg =>
    have HB := Lib.hid (show cvB s xss sh ts = false by unfold cvB; rw [HN.out, HN'.out, decide_eq_false hl]; simp)
    have hne : ((tn : Int) != (n : Int)) = true := by simp; omega
    go_wp2_with (go_at_call 145; refine (isSheets _ _).mono ?_; rintro e w2 ⟨rfl, q1⟩; rw [HS.out]; replace k0 := q1.cell k0; replace k1 := q1.cell k1; replace k2 := q1.cell k2; replace k3 := q1.cell k3; replace hB := hB.qt q1; clear q1)
    go_ret
    exact ⟨by rw [HB.out]; rfl, hB⟩
  case pos =>
    have HLL := Lib.hid hl
    have hne : ((tn : Int) != (n : Int)) = false := by simp; omega
    clear hl
    go_wp2_with (go_at_call 145; refine (isSheets _ _).mono ?_; rintro e w2 ⟨rfl, q1⟩; rw [HS.out]; replace k0 := q1.cell k0; replace k1 := q1.cell k1; replace k2 := q1.cell k2; replace k3 := q1.cell k3; replace hB := hB.qt q1; clear q1)
    go_loopw [28, 4] (fun i _ wr => ∃ k : Nat, k ≤ tn ∧ i = .int .i64 k ∧ Below w2.heap.size w2 wr ∧ (ts.take k).all (permB sh) = true) (fun i _ _ => tn - (intOf i).toNat)
    case atStart => exact ⟨0, Nat.zero_le _, rfl, Below.refl _ _, rfl⟩
    case round =>
      obtain ⟨k, hk, rfl, hr, hall⟩ := hrel
      have HA := Lib.hid hall
      replace k0 := hr.keep k0
      replace k1 := hr.keep k1
      replace k2 := hr.keep k2
      replace k3 := hr.keep k3
      replace hB := hB.next hr
      clear hall
      by_cases hlt : k < tn
      · obtain ⟨b, off, a', c', rfl, g1, r1⟩ := HCells.out k hlt
        have hlt' : k < ts.length := by rw [HN'.out]; exact hlt
        have hbad : permB sh (ts.getD k []) = false → cvB s xss sh ts = false := fun e => by unfold cvB; rw [all_not hlt' e]; simp
        have HB := Lib.hid hbad
        have HG2 := Lib.hid (fun e => all_take hlt' HA.out e : permB sh (ts.getD k []) = true → _)
        clear hbad
        generalize ts.getD k [] = t at *
        generalize hm : t.length = m at *
        have HM := Lib.hid hm
        have HR1 := Lib.hid r1
        replace g1 := hB.keep g1
        have hs1 : 1 ≤ sh ∧ sh ≤ 4 := by have := HS.out; unfold shB at this; simpa using this
        obtain ⟨hs1, hs4⟩ := hs1
        clear hm r1
        cases hp : permB sh t with
        | false =>
          have HP := Lib.hid hp
          clear hp
          go_wp2_with fail
          refine (isPermutation _ _ _ t sh _ (HR1.out.below hB) HM.out hs1 hs4).mono ?_
          rw [HP.out]
          rintro e w5 ⟨rfl, bS⟩
          go_wp2
          go_ret
          exact ⟨by rw [HB.out HP.out]; rfl, hB.next bS⟩
        | true =>
          have HP := Lib.hid hp
          clear hp
          go_wp2_with fail
          refine (isPermutation _ _ _ t sh _ (HR1.out.below hB) HM.out hs1 hs4).mono ?_
          rw [HP.out]
          rintro e w5 ⟨rfl, bS⟩
          go_wp2
          go_roundw
          case rel => exact ⟨k+1, by omega, by go_num, hr.next bS, HG2.out HP.out⟩
          case measure => simp [intOf]; omega
      · go_wp2
        go_ret
        obtain rfl : k = tn := by omega
        have e := HA.out
        rw [List.take_of_length_le (by rw [HN'.out]; exact Nat.le_refl _)] at e
        refine ⟨?_, hB⟩
        have : cvB s xss sh ts = true := by unfold cvB; rw [HG.out, HS.out, e, HN.out, HN'.out, HLL.out]; simp
        rw [this]; rfl

end Go.Proofs.Ytlahfglblgppgaa
