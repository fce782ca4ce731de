/- IsCover of the model. -/
import Derived.Test.YtbfgehgjecgfmaaSpecPerm
import Derived.Deep.RegionHeld3
set_option linter.unusedSimpArgs false
set_option linter.unusedVariables false
set_option maxRecDepth 100000
namespace Go.Proofs.Ytbfgehgjecgfmaa
open Go.RowKit

def cvB (s : Int) (xss : List (List Int)) (sh : Int) (ts : List (List Int)) : Bool := grB s xss && (shB sh && (decide (ts.length = xss.length) && ts.all (permB sh)))

theorem RdR.cellsR {lo hi : Nat} {w : World} {a : Option Addr} {n c : Nat} {xss : List (List Int)} (h : RdR lo hi w (.slice a n c) xss) (hn : xss.length = n) :
    ∀ j, j < n → ∃ b off a' c', a = some ⟨b, off, none⟩ ∧ w.cell? ⟨b, off + j, none⟩ = some (.slice a' (xss.getD j []).length c') ∧ RdI lo hi w (.slice a' (xss.getD j []).length c') (xss.getD j []) := by
  intro j hj
  obtain ⟨_, ⟨a', c', rfl, _⟩ | ⟨b, off, c', hv, _, _, _, hc⟩⟩ := h
  · simp at hn; omega
  · simp only [Value.slice.injEq] at hv
    obtain ⟨rfl, _, _⟩ := hv
    obtain ⟨rv, h1, h2⟩ := hc j (by omega)
    obtain ⟨a', c', rfl⟩ := h2.shape
    exact ⟨b, off, a', c', rfl, h1, h2⟩

set_option maxHeartbeats 1600000 in
theorem l04Is {lo hi lo' hi' : Nat} (s : Int) (a : Option Addr) (n c : Nat) (xss : List (List Int)) (sh : Int) (ta : Option Addr) (tn tc : Nat) (ts : List (List Int)) (w : World)
    (h : RdR lo hi w (.slice a n c) xss) (hn : xss.length = n) (h' : RdR lo' hi' w (.slice ta tn tc) ts) (hn' : ts.length = tn) :
    Calls Try.prog 113 #[.agg #[.int .i64 s, .slice a n c, .int .i64 sh, .slice ta tn tc]] w fun e w' => e = .returned (.bool (cvB s xss sh ts)) ∧ Below w.heap.size w w' := by
  have hb0 : ∀ o, Below w.heap.size w (w.alloc o) := fun o => (Below.refl _ _).alloc (Nat.le_refl _) o
  have HN := Lib.hid hn
  have HN' := Lib.hid hn'
  have HCells := Lib.hid (h'.cellsR hn')
  have hlt0 := h.1
  rw [hn] at hlt0
  have hlt1 := h'.1
  rw [hn'] at hlt1
  have HR := Lib.hid h
  clear hn hn' h h'
  go_enter Try.func113, Try.ntmps113
  go_wp2_with fail
  refine calls_gen (fun W => Below w.heap.size w W ∧ W.cell? ⟨w.heap.size, 0, none⟩ = some (.int .i64 s) ∧ W.cell? ⟨w.heap.size, 1, none⟩ = some (.slice a n c) ∧ W.cell? ⟨w.heap.size, 2, none⟩ = some (.int .i64 sh) ∧ W.cell? ⟨w.heap.size, 3, none⟩ = some (.slice ta tn tc)) ⟨hb0 _, by go_simp, by go_simp, by go_simp, by go_simp⟩ ?_
  rintro W ⟨hB, k0, k1, k2, k3⟩
  refine (l01Is s a n c xss W (HR.out.below hB) HN.out).mono ?_
  rintro e w1 ⟨rfl, b1⟩
  replace k0 := b1.keep k0
  replace k1 := b1.keep k1
  replace k2 := b1.keep k2
  replace k3 := b1.keep k3
  replace hB := hB.next b1
  clear b1
  cases hg : grB s xss with
  | false =>
    have HB := Lib.hid (show cvB s xss sh ts = false by unfold cvB; rw [hg]; rfl)
    clear hg
    go_wp2
    go_ret
    exact ⟨by rw [HB.out]; rfl, hB⟩
  | true =>
  have HG := Lib.hid hg
  clear hg
  cases hs : shB sh with
  | false =>
    have HB := Lib.hid (show cvB s xss sh ts = false by unfold cvB; rw [hs]; simp)
    have HS := Lib.hid hs
    clear hs
    go_wp2_with (go_at_call 75; refine (l01In _ _ _ _).mono ?_; rintro e w' ⟨rfl, q1⟩; rw [show (decide (1 ≤ sh) && decide (sh ≤ 4)) = false from HS.out])
    go_ret
    exact ⟨by rw [HB.out]; rfl, hB.qt q1⟩
  | true =>
  have HS := Lib.hid hs
  clear hs
  by_cases hl : tn = n
  case neg =>
    have HB := Lib.hid (show cvB s xss sh ts = false by unfold cvB; rw [HN.out, HN'.out, decide_eq_false hl]; simp)
    have hne : ((tn : Int) != (n : Int)) = true := by simp; omega
    go_wp2_with (go_at_call 75; refine (l01In _ _ _ _).mono ?_; rintro e w2 ⟨rfl, q1⟩; rw [show (decide (1 ≤ sh) && decide (sh ≤ 4)) = true from HS.out]; replace k0 := q1.cell k0; replace k1 := q1.cell k1; replace k2 := q1.cell k2; replace k3 := q1.cell k3; replace hB := hB.qt q1; clear q1)
    go_ret
    exact ⟨by rw [HB.out]; rfl, hB⟩
  case pos =>
    have HLL := Lib.hid hl
    have hne : ((tn : Int) != (n : Int)) = false := by simp; omega
    clear hl
    go_wp2_with (go_at_call 75; refine (l01In _ _ _ _).mono ?_; rintro e w2 ⟨rfl, q1⟩; rw [show (decide (1 ≤ sh) && decide (sh ≤ 4)) = true from HS.out]; replace k0 := q1.cell k0; replace k1 := q1.cell k1; replace k2 := q1.cell k2; replace k3 := q1.cell k3; replace hB := hB.qt q1; clear q1)
    go_loopw [3] (fun i wr => ∃ k : Nat, k ≤ tn ∧ i = .int .i64 k ∧ Below w2.heap.size w2 wr ∧ (ts.take k).all (permB sh) = true) (fun i _ => tn - (intOf i).toNat)
    case atStart => exact ⟨0, Nat.zero_le _, rfl, Below.refl _ _, rfl⟩
    case round =>
      obtain ⟨k, hk, rfl, hr, hall⟩ := hrel
      have HA := Lib.hid hall
      replace k0 := hr.keep k0
      replace k1 := hr.keep k1
      replace k2 := hr.keep k2
      replace k3 := hr.keep k3
      replace hB := hB.next hr
      clear hall
      by_cases hlt : k < tn
      · obtain ⟨b, off, a', c', rfl, g1, r1⟩ := HCells.out k hlt
        have hlt' : k < ts.length := by rw [HN'.out]; exact hlt
        have hbad : permB sh (ts.getD k []) = false → cvB s xss sh ts = false := fun e => by unfold cvB; rw [all_not hlt' e]; simp
        have HB := Lib.hid hbad
        have HG2 := Lib.hid (fun e => all_take hlt' HA.out e : permB sh (ts.getD k []) = true → _)
        clear hbad
        generalize ts.getD k [] = t at *
        generalize hm : t.length = m at *
        have HM := Lib.hid hm
        have HR1 := Lib.hid r1
        replace g1 := hB.keep g1
        have hs1 : 1 ≤ sh ∧ sh ≤ 4 := by have := HS.out; unfold shB at this; simpa using this
        obtain ⟨hs1, hs4⟩ := hs1
        clear hm r1
        cases hp : permB sh t with
        | false =>
          have HP := Lib.hid hp
          clear hp
          go_wp2
          go_region_held3 (fun W' => Below wr.heap.size wr W' ∧ W'.cell? ⟨w.heap.size, 2, none⟩ = some (.int .i64 sh) ∧ W'.cell? ⟨w.heap.size, 3, none⟩ = some (.slice (some ⟨b, off, none⟩) tn tc) ∧ W'.cell? ⟨b, off + k, none⟩ = some (.slice a' m c'))
            (first | (exact ⟨(Below.refl _ _).drew, k2, k3, g1⟩) | (go_split_ands; exact ⟨Below.next (by assumption) b5, b5.keep (by assumption), b5.keep (by assumption), b5.keep (by assumption)⟩))
            (first | (go_at_call 145; go_split_ands; refine (l04Perm _ _ _ t sh _ (HR1.out.below (hB.next (by assumption))) HM.out hs1 hs4).mono ?_; rw [HP.out]; rintro e w5 ⟨rfl, b5⟩))
          go_split_ands
          have bS : Below wr.heap.size wr w5 := by assumption
          clear b5
          go_wp2
          go_ret
          exact ⟨by rw [HB.out HP.out]; rfl, hB.next bS⟩
        | true =>
          have HP := Lib.hid hp
          clear hp
          go_wp2
          go_region_held3 (fun W' => Below wr.heap.size wr W' ∧ W'.cell? ⟨w.heap.size, 2, none⟩ = some (.int .i64 sh) ∧ W'.cell? ⟨w.heap.size, 3, none⟩ = some (.slice (some ⟨b, off, none⟩) tn tc) ∧ W'.cell? ⟨b, off + k, none⟩ = some (.slice a' m c'))
            (first | (exact ⟨(Below.refl _ _).drew, k2, k3, g1⟩) | (go_split_ands; exact ⟨Below.next (by assumption) b5, b5.keep (by assumption), b5.keep (by assumption), b5.keep (by assumption)⟩))
            (first | (go_at_call 145; go_split_ands; refine (l04Perm _ _ _ t sh _ (HR1.out.below (hB.next (by assumption))) HM.out hs1 hs4).mono ?_; rw [HP.out]; rintro e w5 ⟨rfl, b5⟩))
          go_split_ands
          have bS : Below wr.heap.size wr w5 := by assumption
          clear b5
          go_wp2
          go_roundw
          case rel => exact ⟨k+1, by omega, by go_num, hr.next bS, HG2.out HP.out⟩
          case measure => simp [intOf]; omega
      · go_wp2
        go_ret
        obtain rfl : k = tn := by omega
        have e := HA.out
        rw [List.take_of_length_le (by rw [HN'.out]; exact Nat.le_refl _)] at e
        refine ⟨?_, hB⟩
        have : cvB s xss sh ts = true := by unfold cvB; rw [HG.out, HS.out, e, HN.out, HN'.out, HLL.out]; simp
        rw [this]; rfl

end Go.Proofs.Ytbfgehgjecgfmaa
