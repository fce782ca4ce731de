/- Ranks of subsets and trees, by the model. -/
import Derived.Test.YtkipfjdlmomkfaaSpW2
import Derived.Test.YtkipfjdlmomkfaaEset3
import Derived.Deep.RegionLaw
set_option linter.unusedSimpArgs false
set_option linter.unusedVariables false
set_option maxRecDepth 100000
namespace Go.Proofs.Ytkipfjdlmomkfaa
open Go.RowKit

/-- the number of the parts of the graph with some edges alone -/
def partW (S : Nat) (xss : List (List Int)) (C : Nat) : Nat := (rootsN (labelsN S (nE (withR xss C xss.length))) S).length
theorem partW_le (S : Nat) (xss : List (List Int)) (C : Nat) : partW S xss C ≤ S := rootsN_le _ S

set_option maxHeartbeats 1600000 in
theorem l05Rank {lo hi : Nat} (S : Nat) (a : Option Addr) (n c : Nat) (xss : List (List Int)) (C : Nat) (w : World) (h : RdR lo hi w (.slice a n c) xss) (hn : xss.length = n) (hg : grB (S : Int) xss = true) (hC : C < 1024) :
    Calls Try.prog 65 #[.agg #[.int .i64 (S : Int), .slice a n c], .int .i64 (C : Int)] w fun e w' => e = .returned (.int .i64 ((S : Int) - (partW S xss C : Int))) ∧ Below w.heap.size w w' := by
  have hb0 : ∀ o, Below w.heap.size w (w.alloc o) := fun o => (Below.refl _ _).alloc (Nat.le_refl _) o
  have hg4 := grB_iff hg
  have hn10 : n ≤ 10 := by omega
  have hS8 : S ≤ 8 := by omega
  have hple := partW_le S xss C
  have HW := Lib.hid (fun W (hB : Below w.heap.size w W) => l05With S a n c xss C W (h.below hB) hn hn10 hC)
  have HC := Lib.hid (fun a' n' c' W (h' : RdR 0 W.heap.size W (.slice a' n' c') (withR xss C n)) (hl : (withR xss C n).length = n') => l01Count S a' n' c' (withR xss C n) W h' hl (by rw [← hn]; exact with_gr hg C))
  obtain ⟨P, hP⟩ : ∃ P, P = partW S xss C := ⟨_, rfl⟩
  rw [← hP] at hple ⊢
  unfold partW at hP
  rw [hn] at hP
  rw [← hP] at HC
  generalize withR xss C n = rows at HW HC
  clear h hn hg hg4 hP hC
  have t1 : IntKind.i64.wrap ((S : Int) - (P : Int)) = (S : Int) - (P : Int) := IntWalk.i64_in _ (by omega)
  have t2 : wrap64 ((S : Int) - (P : Int)) = (S : Int) - (P : Int) := IntWalk.wrap64_in _ (by clear t1; omega)
  go_enter Try.func65, Try.ntmps65
  go_wp2_with fail
  have hB := hb0 (.cells #[.int .i64 (S : Int), .slice a n c] 28)
  have k0 : (w.alloc (.cells #[.int .i64 (S : Int), .slice a n c] 28)).cell? ⟨w.heap.size, 0, none⟩ = some (.int .i64 (S : Int)) := by go_simp
  have k1 : (w.alloc (.cells #[.int .i64 (S : Int), .slice a n c] 28)).cell? ⟨w.heap.size, 1, none⟩ = some (.slice a n c) := by go_simp
  generalize w.alloc (.cells #[.int .i64 (S : Int), .slice a n c] 28) = V at hB k0 k1 ⊢
  have kd0 := (Qt.refl V).drew.cell k0
  have kd1 := (Qt.refl V).drew.cell k1
  have hBd := hB.qt (Qt.refl V).drew
  have hw := HW.out V.drew hBd
  have HBD := Lib.hid hBd
  clear hB hBd HW hb0
  go_region_held3 (fun W' => W'.cell? ⟨w.heap.size, 0, none⟩ = some (.int .i64 (S : Int)) ∧ W'.cell? ⟨w.heap.size, 1, none⟩ = some (.slice a n c))
    (first | (with_reducible exact ⟨k0, k1⟩) | (with_reducible exact ⟨kd0, kd1⟩) | (with_reducible exact ⟨s0, s1⟩) | (with_reducible exact ⟨v0, v1⟩) | (trace_state; fail))
    (first
      | (go_at_call 103; with_reducible refine hw.mono ?_; rintro e w2 ⟨g, m, cc, rfl, r2, l2, b2⟩; have s0 := b2.keep kd0; have s1 := b2.keep kd1; have hB2 := HBD.out.next b2; have hcnt := HC.out _ _ _ w2 r2 l2)
      | (go_at_call 102; with_reducible refine hcnt.mono ?_; rintro e w3 ⟨rfl, b3⟩; have v0 := b3.keep s0; have v1 := b3.keep s1; have hB3 := hB2.next b3))
  all_goals
    go_wp2
    go_ret
    exact ⟨rfl, hB3⟩

def trW (S : Nat) (xss : List (List Int)) (C : Nat) : Bool := ((popN 10 C : Int) == (S : Int) - 1) && ((S : Int) - (partW S xss C : Int) == (S : Int) - 1)
set_option maxHeartbeats 1600000 in
theorem l05Tree {lo hi : Nat} (S : Nat) (a : Option Addr) (n c : Nat) (xss : List (List Int)) (C : Nat) (w : World) (h : RdR lo hi w (.slice a n c) xss) (hn : xss.length = n) (hg : grB (S : Int) xss = true) (hC : C < 1024) :
    Calls Try.prog 61 #[.agg #[.int .i64 (S : Int), .slice a n c], .int .i64 (C : Int)] w fun e w' => e = .returned (.bool (trW S xss C)) ∧ Below w.heap.size w w' := by
  have hb0 : ∀ o, Below w.heap.size w (w.alloc o) := fun o => (Below.refl _ _).alloc (Nat.le_refl _) o
  have hg4 := grB_iff hg
  have hS8 : S ≤ 8 := by omega
  have hS1 : 1 ≤ S := by omega
  have HK := Lib.hid (fun W (hB : Below w.heap.size w W) => l05Rank S a n c xss C W (h.below hB) hn hg hC)
  have HZ := Lib.hid (fun W => l05Size C hC W)
  obtain ⟨T, hT⟩ : ∃ T, T = trW S xss C := ⟨_, rfl⟩
  rw [← hT]
  unfold trW at hT
  generalize partW S xss C = P at *
  generalize popN 10 C = Z at *
  have HT := Lib.hid hT
  clear h hn hg hg4 hT hC
  have t1 : IntKind.i64.wrap ((S : Int) - 1) = (S : Int) - 1 := IntWalk.i64_in _ (by omega)
  have t2 : wrap64 ((S : Int) - 1) = (S : Int) - 1 := IntWalk.wrap64_in _ (by clear t1; omega)
  go_enter Try.func61, Try.ntmps61
  go_wp2_with fail
  have hB := hb0 (.cells #[.int .i64 (S : Int), .slice a n c] 28)
  have k0 : (w.alloc (.cells #[.int .i64 (S : Int), .slice a n c] 28)).cell? ⟨w.heap.size, 0, none⟩ = some (.int .i64 (S : Int)) := by go_simp
  have k1 : (w.alloc (.cells #[.int .i64 (S : Int), .slice a n c] 28)).cell? ⟨w.heap.size, 1, none⟩ = some (.slice a n c) := by go_simp
  generalize w.alloc (.cells #[.int .i64 (S : Int), .slice a n c] 28) = V at hB k0 k1 ⊢
  have kd0 := (Qt.refl V).drew.cell k0
  have kd1 := (Qt.refl V).drew.cell k1
  have hBd := hB.qt (Qt.refl V).drew
  have HBD := Lib.hid hBd
  clear hBd hb0
  cases hz : ((Z : Int) == (S : Int) - 1) with
  | false =>
    have hres : T = false := by rw [HT.out, hz, Bool.false_and]
    have HRES := Lib.hid hres
    clear hres
    go_quiet ((go_at_call 98; exact Calls.quiet_of (HZ.out _)))
    go_wp2
    go_ret
    exact ⟨by rw [HRES.out]; rfl, hB.drewN _⟩
  | true =>
    have hres : T = ((S : Int) - (P : Int) == (S : Int) - 1) := by rw [HT.out, hz, Bool.true_and]
    have HRES := Lib.hid hres
    clear hres
    go_region_law (first
        | (go_simp; go_at_call 98; refine (HZ.out _).mono ?_; rintro e w2 ⟨rfl, q2⟩; have s0 := q2.cell kd0; have s1 := q2.cell kd1; have hB2 := HBD.out.qt q2; have hk2 := HK.out w2 hB2)
        | (go_simp; go_at_call 65; refine hk2.mono ?_; rintro e w3 ⟨rfl, b3⟩; have v0 := b3.keep s0; have v1 := b3.keep s1; have hB3 := hB2.next b3))
    all_goals
      go_wp2
      go_ret
      exact ⟨by rw [HRES.out]; rfl, hB3⟩

end Go.Proofs.Ytkipfjdlmomkfaa
