/- IsDesk, by the program and by the model. -/
import Derived.Test.YtnblhkhdilkbeaaChi
import Derived.Test.YtnblhkhdilkbeaaDbl
set_option linter.unusedSimpArgs false
set_option linter.unusedVariables false
set_option maxRecDepth 100000
namespace Go.Proofs.Ytnblhkhdilkbeaa
open Go.RowKit

def dkOf (s : Int) (xss : List (List Int)) (ss cs : List Int) : Bool := if grB s xss then (if signsB xss.length ss then chipsB s cs else false) else false
set_option maxHeartbeats 1600000 in
theorem implDk {lo hi lo' hi' lo2 hi2 : Nat} (s : Int) (a : Option Addr) (n c : Nat) (xss : List (List Int)) (sa : Option Addr) (sn sc : Nat) (ss : List Int) (ca : Option Addr) (cn cc : Nat) (cs : List Int) (w : World)
    (h : RdR lo hi w (.slice a n c) xss) (hn : xss.length = n) (h' : RdI lo' hi' w (.slice sa sn sc) ss) (hn' : ss.length = sn) (h2 : RdI lo2 hi2 w (.slice ca cn cc) cs) (hn2 : cs.length = cn) :
    Calls Try.prog 16 #[.agg #[.int .i64 s, .slice a n c, .slice sa sn sc, .slice ca cn cc]] w fun e w' => e = .returned (.bool (dkOf s xss ss cs)) ∧ Below w.heap.size w w' := by
  have hb0 : ∀ o, Below w.heap.size w (w.alloc o) := fun o => (Below.refl _ _).alloc (Nat.le_refl _) o
  have HI := Lib.hid (fun W (hB : Below w.heap.size w W) => implIsGraph s a n c xss W (h.below hB) hn)
  have HS := Lib.hid (fun W (hB : Below w.heap.size w W) (h10 : n ≤ 10) => isSigns s a n c sa sn sc ss W (h'.below hB) hn' h10)
  have HC := Lib.hid (fun W (hB : Below w.heap.size w W) (h8 : s ≤ 8) => isChips s a n c ca cn cc cs W (h2.below hB) hn2 h8)
  have HG := Lib.hid (fun hg : grB s xss = true => grB_iff hg)
  have HD := Lib.hid (show dkOf s xss ss cs = if grB s xss then (if signsB n ss then chipsB s cs else false) else false by unfold dkOf; rw [hn])
  generalize dkOf s xss ss cs = D at HD ⊢
  have HN := Lib.hid hn
  clear h hn h' hn' h2 hn2
  go_enter Try.func16, Try.ntmps16
  go_wp2_with fail
  refine calls_gen (fun W => Below w.heap.size w W ∧ (W.cell? ⟨w.heap.size, 0, none⟩ = some (.int .i64 s) ∧ W.cell? ⟨w.heap.size, 1, none⟩ = some (.slice a n c)) ∧ W.cell? ⟨w.heap.size, 2, none⟩ = some (.slice sa sn sc) ∧ W.cell? ⟨w.heap.size, 3, none⟩ = some (.slice ca cn cc)) ⟨hb0 _, ⟨by go_simp, by go_simp⟩, by go_simp, by go_simp⟩ ?_
  rintro W ⟨hB, ⟨k0, k1⟩, k2, k3⟩
  refine (HI.out W hB).mono ?_
  rintro e w1 ⟨rfl, b1⟩
  replace k0 := b1.keep k0
  replace k1 := b1.keep k1
  replace k2 := b1.keep k2
  replace k3 := b1.keep k3
  replace hB := hB.next b1
  clear b1 HI
  cases hg : grB s xss with
  | false =>
    rw [hg] at HD
    have HF := Lib.hid (show D = false by rw [HD.out]; rfl)
    clear HD
    go_wp2
    go_ret
    exact ⟨by rw [HF.out]; rfl, hB⟩
  | true =>
    have hg4 := HG.out hg
    have hn10 : n ≤ 10 := by rw [← HN.out]; omega
    have hs8 : s ≤ 8 := by omega
    rw [hg] at HD
    clear HG hg hg4
    go_wp2_with fail
    refine (HS.out w1 hB hn10).mono ?_
    rintro e w2 ⟨rfl, b2⟩
    replace k0 := b2.keep k0
    replace k1 := b2.keep k1
    replace k2 := b2.keep k2
    replace k3 := b2.keep k3
    replace hB := hB.next b2
    clear b2 HS
    cases hs : signsB n ss with
    | false =>
      rw [hs] at HD
      have HF := Lib.hid (show D = false by rw [HD.out]; rfl)
      clear HD hs
      go_wp2
      go_ret
      exact ⟨by rw [HF.out]; rfl, hB⟩
    | true =>
      rw [hs] at HD
      have HF := Lib.hid (show D = chipsB s cs by rw [HD.out]; rfl)
      clear HD hs
      go_wp2_with fail
      refine (HC.out w2 hB hs8).mono ?_
      rintro e w3 ⟨rfl, b3⟩
      replace hB := hB.next b3
      clear b3 HC
      go_wp2
      go_ret
      exact ⟨by rw [HF.out]; rfl, hB⟩

set_option maxHeartbeats 1600000 in
theorem specDk {lo hi lo' hi' lo2 hi2 : Nat} (s : Int) (a : Option Addr) (n c : Nat) (xss : List (List Int)) (sa : Option Addr) (sn sc : Nat) (ss : List Int) (ca : Option Addr) (cn cc : Nat) (cs : List Int) (w : World)
    (h : RdR lo hi w (.slice a n c) xss) (hn : xss.length = n) (h' : RdI lo' hi' w (.slice sa sn sc) ss) (hn' : ss.length = sn) (h2 : RdI lo2 hi2 w (.slice ca cn cc) cs) (hn2 : cs.length = cn) :
    Calls Try.prog 14 #[.agg #[.int .i64 s, .slice a n c, .slice sa sn sc, .slice ca cn cc]] w fun e w' => e = .returned (.bool (dkOf s xss ss cs)) ∧ Below w.heap.size w w' := by
  have hb0 : ∀ o, Below w.heap.size w (w.alloc o) := fun o => (Below.refl _ _).alloc (Nat.le_refl _) o
  have HS := Lib.hid (fun W (hB : Below w.heap.size w W) => l04Signs s a n c xss sa sn sc ss W (h.below hB) hn (h'.below hB) hn')
  have HC := Lib.hid (fun (G : Nat) W (hB : Below w.heap.size w W) (hG : W.cell? ⟨G, 0, none⟩ = some (.slice ca cn cc)) => l10Chips1 s a n c xss ca cn cc cs G W (h.below hB) hn (h2.below hB) hn2 hG)
  have HD1 := Lib.hid (show dblCode s xss ss ≠ 0 → dkOf s xss ss cs = false by
    unfold dblCode dkOf
    cases grB s xss <;> cases signsB xss.length ss <;> simp)
  have HD2 := Lib.hid (show dblCode s xss ss = 0 → chipsCode s xss cs = 0 → dkOf s xss ss cs = true by
    unfold dblCode dkOf chipsCode
    cases grB s xss <;> cases signsB xss.length ss <;> cases chipsB s cs <;> simp)
  have HD3 := Lib.hid (show dblCode s xss ss = 0 → chipsCode s xss cs ≠ 0 → dkOf s xss ss cs = false by
    unfold dblCode dkOf chipsCode
    cases grB s xss <;> cases signsB xss.length ss <;> cases chipsB s cs <;> simp)
  generalize dkOf s xss ss cs = D at HD1 HD2 HD3 ⊢
  generalize dblCode s xss ss = d1 at HS HD1 HD2 HD3
  generalize chipsCode s xss cs = d2 at HC HD2 HD3
  clear h hn h' hn' h2 hn2
  go_enter Try.func14, Try.ntmps14
  go_wp2_with fail
  refine calls_gen (fun W => Below w.heap.size w W ∧ w.heap.size < W.heap.size ∧ (W.cell? ⟨w.heap.size, 0, none⟩ = some (.int .i64 s) ∧ W.cell? ⟨w.heap.size, 1, none⟩ = some (.slice a n c)) ∧ W.cell? ⟨w.heap.size, 2, none⟩ = some (.slice sa sn sc) ∧ W.cell? ⟨w.heap.size, 3, none⟩ = some (.slice ca cn cc)) ⟨hb0 _, by simp, ⟨by go_simp, by go_simp⟩, by go_simp, by go_simp⟩ ?_
  rintro W ⟨hB, hz, ⟨k0, k1⟩, k2, k3⟩
  refine (HS.out W hB).mono ?_
  rintro e w1 ⟨rfl, b1⟩
  replace k0 := b1.keep k0
  replace k1 := b1.keep k1
  replace k2 := b1.keep k2
  replace k3 := b1.keep k3
  replace hB := hB.next b1
  have hz1 := b1.size
  clear b1 HS
  by_cases hg : d1 = 0
  · have hgb : (d1 == 0) = true := by simp [hg]
    have hA : ∀ o, Below w1.heap.size w1 (w1.alloc o) := fun o => (Below.refl _ _).alloc (Nat.le_refl _) o
    go_wp2_with fail
    refine calls_gen (fun V => Below w.heap.size w V ∧ V.cell? ⟨w1.heap.size, 0, none⟩ = some (.slice ca cn cc)) ⟨hB.next (hA _), by go_simp⟩ ?_
    rintro V ⟨hB2, g0⟩
    refine (HC.out _ V hB2 g0).mono ?_
    rintro e w2 ⟨rfl, b2⟩
    replace hB2 := hB2.next b2
    clear b2 HC hA
    by_cases hc : d2 = 0
    · have hcb : (d2 == 0) = true := by simp [hc]
      have HF := Lib.hid (HD2.out hg hc)
      clear HD1 HD2 HD3 hg hc
      go_wp2
      go_ret
      exact ⟨by rw [HF.out]; rfl, hB2⟩
    · have hcb : (d2 == 0) = false := by simpa using hc
      have HF := Lib.hid (HD3.out hg hc)
      clear HD1 HD2 HD3 hg hc
      go_wp2
      go_ret
      exact ⟨by rw [HF.out]; rfl, hB2⟩
  · have hgb : (d1 == 0) = false := by simpa using hg
    have HF := Lib.hid (HD1.out hg)
    clear HD1 HD2 HD3 hg HC
    go_wp2
    go_ret
    exact ⟨by rw [HF.out]; rfl, hB⟩
end Go.Proofs.Ytnblhkhdilkbeaa
