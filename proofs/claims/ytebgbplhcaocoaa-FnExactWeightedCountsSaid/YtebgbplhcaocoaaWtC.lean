/- A prime, a graph and weights: the code of both sides. -/
import Derived.Test.YtebgbplhcaocoaaNumC
set_option linter.unusedSimpArgs false
set_option linter.unusedVariables false
set_option maxRecDepth 100000
namespace Go.Proofs.Ytebgbplhcaocoaa
open Go.RowKit

def weightsB (p : Int) (n : Nat) (ws : List Int) : Bool := decide (ws.length = 2 * n) && ws.all (fun e => inR e p)
theorem weightsB_of {p : Int} {n : Nat} {ws : List Int} (h : weightsB p n ws = true) : ws.length = 2 * n ∧ ∀ j, j < ws.length → inR (ws.getD j 0) p = true := by
  simp only [weightsB, Bool.and_eq_true, decide_eq_true_eq, List.all_eq_true] at h
  refine ⟨h.1, fun j hj => ?_⟩
  have e : ws.getD j 0 = ws[j] := by simp [List.getD, List.getElem?_eq_getElem hj]
  rw [e]
  exact h.2 _ (List.getElem_mem hj)
theorem weightsB_len {p : Int} {n : Nat} {ws : List Int} (h : ¬ ws.length = 2 * n) : weightsB p n ws = false := by simp [weightsB, h]
theorem weightsB_bad {p : Int} {n : Nat} {ws : List Int} {j : Nat} (hj : j < ws.length) (h : inR (ws.getD j 0) p = false) : weightsB p n ws = false := by
  by_cases e : weightsB p n ws = true
  · have := (weightsB_of e).2 j hj
    rw [h] at this; cases this
  · simpa using e
theorem weightsB_good {p : Int} {n : Nat} {ws : List Int} (hl : ws.length = 2 * n) (h : ∀ j, j < ws.length → inR (ws.getD j 0) p = true) : weightsB p n ws = true := by
  simp only [weightsB, Bool.and_eq_true, decide_eq_true_eq, List.all_eq_true]
  refine ⟨hl, fun e he => ?_⟩
  obtain ⟨j, hj, rfl⟩ := List.getElem_of_mem he
  have := h j hj
  simpa [List.getD, List.getElem?_eq_getElem hj] using this
def wtCode (p s : Int) (xss : List (List Int)) (ws : List Int) : Int := if grB s xss then (if primeB p then (if weightsB p xss.length ws then 0 else 2) else 2) else 1

set_option maxHeartbeats 1600000 in
theorem checkWeights {lo hi lo1 hi1 : Nat} (p s : Int) (a : Option Addr) (n c : Nat) (xss : List (List Int)) (a1 : Option Addr) (n1 c1 : Nat) (ws : List Int) (w : World) (h : RdR lo hi w (.slice a n c) xss) (hn : xss.length = n) (h1 : RdI lo1 hi1 w (.slice a1 n1 c1) ws) (hl : ws.length = n1) :
    Calls Try.prog 106 #[.int .i64 p, .agg #[.int .i64 s, .slice a n c], .slice a1 n1 c1] w fun e w' => e = .returned (.int .i64 (wtCode p s xss ws)) ∧ Below w.heap.size w w' := by
  have hb0 : ∀ o, Below w.heap.size w (w.alloc o) := fun o => (Below.refl _ _).alloc (Nat.le_refl _) o
  have HN := Lib.hid hn
  have HL := Lib.hid hl
  have hlen1 := h1.1
  rw [hl] at hlen1
  obtain ⟨cd, hcd⟩ : ∃ cd, cd = wtCode p s xss ws := ⟨_, rfl⟩
  rw [← hcd]
  unfold wtCode at hcd
  rw [hn] at hcd
  have HC := Lib.hid (h1.at hl)
  clear hn hl h1
  go_enter Try.func106, Try.ntmps106
  go_wp2_with fail
  refine calls_gen (fun W => Below w.heap.size w W ∧ W.cell? ⟨w.heap.size, 0, none⟩ = some (.int .i64 s) ∧ W.cell? ⟨w.heap.size, 1, none⟩ = some (.slice a n c)) ⟨hb0 _, by go_simp, by go_simp⟩ ?_
  rintro W ⟨hB, k0, k1⟩
  refine (implIsGraph s a n c xss W (h.below hB) HN.out).mono ?_
  cases hg : grB s xss with
  | false =>
    rw [hg, if_neg (by simp)] at hcd
    rintro e w1 ⟨rfl, b1⟩
    replace hB := hB.next b1
    clear k0 k1 b1
    subst hcd
    go_wp2
    go_ret
    exact ⟨rfl, hB⟩
  | true =>
    rw [hg, if_pos rfl] at hcd
    rintro e w1 ⟨rfl, b1⟩
    replace hB := hB.next b1
    replace k0 := b1.keep k0
    replace k1 := b1.keep k1
    have hn10 : n ≤ 10 := by have := grB_iff hg; have := HN.out; omega
    clear b1 hg
    have HCD := Lib.hid hcd
    clear hcd
    go_wp2_with fail
    refine (isPrimeUpTo p w1).mono ?_
    cases hp : primeB p with
    | false =>
      have hcd := HCD.out
      rw [hp, if_neg (by simp)] at hcd
      rintro e w2 ⟨rfl, q2⟩
      replace hB := hB.qt q2
      clear k0 k1 q2
      subst hcd
      go_wp2
      go_ret
      exact ⟨rfl, hB⟩
    | true =>
      obtain ⟨hp1, hp2⟩ := primeB_hd hp
      have hcd := HCD.out
      rw [hp, if_pos rfl] at hcd
      rintro e w2 ⟨rfl, q2⟩
      replace hB := hB.qt q2
      replace k0 := q2.cell k0
      replace k1 := q2.cell k1
      have HCE := Lib.hid hcd
      clear q2 hp HCD hcd
      have hmul : IntKind.i64.wrap (2 * (n : Int)) = 2 * (n : Int) := IntWalk.i64_in _ (by omega)
      have hmul' : wrap64 (2 * (n : Int)) = 2 * (n : Int) := IntWalk.wrap64_in _ (by omega)
      by_cases hne : n1 = 2 * n
      case neg =>
        have hnb : ((n1 : Int) != 2 * (n : Int)) = true := by simp; omega
        have hcd := HCE.out
        rw [weightsB_len (by rw [HL.out]; exact hne), if_neg (by simp)] at hcd
        clear k0 HCE
        subst hcd
        go_wp2
        go_ret
        exact ⟨rfl, hB⟩
      have hnb : ((n1 : Int) != 2 * (n : Int)) = false := by simp; omega
      have HNE := Lib.hid hne
      clear hne
      have hn20 : n1 ≤ 20 := by have := HNE.out; omega
      clear k0
      go_wp2
      go_loopw [26] (fun i wr => ∃ q : Nat, q ≤ n1 ∧ i = .int .i64 q ∧ Hid (∀ j, j < q → inR (ws.getD j 0) p = true) ∧ Below w.heap.size w wr) (fun i _ => n1 - (intOf i).toNat)
      case atStart => exact ⟨0, Nat.zero_le _, rfl, Lib.hid (fun j hj => by omega), hB⟩
      case round =>
        clear hB k1
        obtain ⟨q, hq, rfl, HG, hB⟩ := hrel
        by_cases hlq : q < n1
        · obtain ⟨b, off, rfl, g0⟩ := HC.out q hlq
          replace g0 := hB.keep g0
          obtain ⟨x, hx⟩ : ∃ x, x = ws.getD q 0 := ⟨_, rfl⟩
          rw [← hx] at g0
          have HX := Lib.hid hx
          clear hx
          cases hr : inR x p with
          | true =>
            have HR := Lib.hid hr
            clear hr
            have hall : Hid (∀ j, j < q + 1 → inR (ws.getD j 0) p = true) := Lib.hid (fun j hj => by
              by_cases e : j < q
              · exact HG.out j e
              · obtain rfl : j = q := by omega
                rw [← HX.out]; exact HR.out)
            go_wp2_with fail
            refine (isIndexV x p true HR.out _).mono ?_
            rintro e w3 ⟨rfl, q3⟩
            replace hB := hB.qt q3
            clear q3 g0
            go_wp2
            go_roundw
            case rel => exact ⟨q+1, by omega, by go_num, hall, hB⟩
            case measure => simp [intOf]; omega
          | false =>
            have HR := Lib.hid hr
            clear hr
            have HW := Lib.hid (weightsB_bad (n := n) (ws := ws) (j := q) (by rw [HL.out]; exact hlq) (by rw [← HX.out]; exact HR.out))
            go_wp2_with fail
            refine (isIndexV x p false HR.out _).mono ?_
            rintro e w3 ⟨rfl, q3⟩
            replace hB := hB.qt q3
            clear q3 g0
            go_wp2
            go_ret
            exact ⟨by rw [HCE.out, HW.out]; rfl, hB⟩
        · obtain rfl : q = n1 := by omega
          have HW := Lib.hid (weightsB_good (n := n) (ws := ws) (by rw [HL.out]; exact HNE.out) (fun j hj => HG.out j (by rw [HL.out] at hj; exact hj)))
          go_wp2
          go_ret
          exact ⟨by rw [HCE.out, HW.out]; rfl, hB⟩

set_option maxHeartbeats 1600000 in
theorem l06Code {lo hi lo1 hi1 : Nat} (p s : Int) (a : Option Addr) (n c : Nat) (xss : List (List Int)) (a1 : Option Addr) (n1 c1 : Nat) (ws : List Int) (w : World) (h : RdR lo hi w (.slice a n c) xss) (hn : xss.length = n) (h1 : RdI lo1 hi1 w (.slice a1 n1 c1) ws) (hl : ws.length = n1) :
    Calls Try.prog 103 #[.int .i64 p, .agg #[.int .i64 s, .slice a n c], .slice a1 n1 c1] w fun e w' => e = .returned (.int .i64 (wtCode p s xss ws)) ∧ Below w.heap.size w w' := by
  have hb0 : ∀ o, Below w.heap.size w (w.alloc o) := fun o => (Below.refl _ _).alloc (Nat.le_refl _) o
  have HN := Lib.hid hn
  have HL := Lib.hid hl
  have hlen1 := h1.1
  rw [hl] at hlen1
  obtain ⟨cd, hcd⟩ : ∃ cd, cd = wtCode p s xss ws := ⟨_, rfl⟩
  rw [← hcd]
  unfold wtCode at hcd
  rw [hn] at hcd
  have HC := Lib.hid (h1.at hl)
  clear hn hl h1
  go_enter Try.func103, Try.ntmps103
  go_wp2_with fail
  refine calls_gen (fun W => Below w.heap.size w W ∧ W.cell? ⟨w.heap.size, 0, none⟩ = some (.int .i64 s) ∧ W.cell? ⟨w.heap.size, 1, none⟩ = some (.slice a n c)) ⟨hb0 _, by go_simp, by go_simp⟩ ?_
  rintro W ⟨hB, k0, k1⟩
  refine (l01Is s a n c xss W (h.below hB) HN.out).mono ?_
  cases hg : grB s xss with
  | false =>
    rw [hg, if_neg (by simp)] at hcd
    rintro e w1 ⟨rfl, b1⟩
    replace hB := hB.next b1
    clear k0 k1 b1
    subst hcd
    go_wp2
    go_ret
    exact ⟨rfl, hB⟩
  | true =>
    rw [hg, if_pos rfl] at hcd
    rintro e w1 ⟨rfl, b1⟩
    replace hB := hB.next b1
    replace k0 := b1.keep k0
    replace k1 := b1.keep k1
    have hn10 : n ≤ 10 := by have := grB_iff hg; have := HN.out; omega
    clear b1 hg
    have HCD := Lib.hid hcd
    clear hcd
    go_wp2_with fail
    refine (l06Prime p w1).mono ?_
    cases hp : primeB p with
    | false =>
      have hcd := HCD.out
      rw [hp, if_neg (by simp)] at hcd
      rintro e w2 ⟨rfl, q2⟩
      replace hB := hB.qt q2
      clear k0 k1 q2
      subst hcd
      go_wp2
      go_ret
      exact ⟨rfl, hB⟩
    | true =>
      obtain ⟨hp1, hp2⟩ := primeB_hd hp
      have hcd := HCD.out
      rw [hp, if_pos rfl] at hcd
      rintro e w2 ⟨rfl, q2⟩
      replace hB := hB.qt q2
      replace k0 := q2.cell k0
      replace k1 := q2.cell k1
      have HCE := Lib.hid hcd
      clear q2 hp HCD hcd
      have hmul : IntKind.i64.wrap (2 * (n : Int)) = 2 * (n : Int) := IntWalk.i64_in _ (by omega)
      have hmul' : wrap64 (2 * (n : Int)) = 2 * (n : Int) := IntWalk.wrap64_in _ (by omega)
      by_cases hne : n1 = 2 * n
      case neg =>
        have hnb : ((n1 : Int) != 2 * (n : Int)) = true := by simp; omega
        have hcd := HCE.out
        rw [weightsB_len (by rw [HL.out]; exact hne), if_neg (by simp)] at hcd
        clear k0 HCE
        subst hcd
        go_wp2
        go_ret
        exact ⟨rfl, hB⟩
      have hnb : ((n1 : Int) != 2 * (n : Int)) = false := by simp; omega
      have HNE := Lib.hid hne
      clear hne
      have hn20 : n1 ≤ 20 := by have := HNE.out; omega
      clear k0
      go_wp2
      go_loopw [7] (fun i wr => ∃ q : Nat, q ≤ n1 ∧ i = .int .i64 q ∧ Hid (∀ j, j < q → inR (ws.getD j 0) p = true) ∧ Below w.heap.size w wr) (fun i _ => n1 - (intOf i).toNat)
      case atStart => exact ⟨0, Nat.zero_le _, rfl, Lib.hid (fun j hj => by omega), hB⟩
      case round =>
        clear hB k1
        obtain ⟨q, hq, rfl, HG, hB⟩ := hrel
        by_cases hlq : q < n1
        · obtain ⟨b, off, rfl, g0⟩ := HC.out q hlq
          replace g0 := hB.keep g0
          obtain ⟨x, hx⟩ : ∃ x, x = ws.getD q 0 := ⟨_, rfl⟩
          rw [← hx] at g0
          have HX := Lib.hid hx
          clear hx
          have hs1 : wrap64 (p - 1) = p - 1 := IntWalk.wrap64_in _ (by omega)
          have hs2 : IntKind.i64.wrap (p - 1) = p - 1 := IntWalk.i64_in _ (by clear hs1; omega)
          cases hr : inR x p with
          | true =>
            have HR := Lib.hid hr
            clear hr
            have hall : Hid (∀ j, j < q + 1 → inR (ws.getD j 0) p = true) := Lib.hid (fun j hj => by
              by_cases e : j < q
              · exact HG.out j e
              · obtain rfl : j = q := by omega
                rw [← HX.out]; exact HR.out)
            go_wp2_with fail
            refine (l01InV x p true HR.out _).mono ?_
            rintro e w3 ⟨rfl, q3⟩
            replace hB := hB.qt q3
            clear q3 g0
            go_wp2
            go_roundw
            case rel => exact ⟨q+1, by omega, by go_num, hall, hB⟩
            case measure => simp [intOf]; omega
          | false =>
            have HR := Lib.hid hr
            clear hr
            have HW := Lib.hid (weightsB_bad (n := n) (ws := ws) (j := q) (by rw [HL.out]; exact hlq) (by rw [← HX.out]; exact HR.out))
            go_wp2_with fail
            refine (l01InV x p false HR.out _).mono ?_
            rintro e w3 ⟨rfl, q3⟩
            replace hB := hB.qt q3
            clear q3 g0
            go_wp2
            go_ret
            exact ⟨by rw [HCE.out, HW.out]; rfl, hB⟩
        · obtain rfl : q = n1 := by omega
          have HW := Lib.hid (weightsB_good (n := n) (ws := ws) (by rw [HL.out]; exact HNE.out) (fun j hj => HG.out j (by rw [HL.out] at hj; exact hj)))
          go_wp2
          go_ret
          exact ⟨by rw [HCE.out, HW.out]; rfl, hB⟩

end Go.Proofs.Ytebgbplhcaocoaa
