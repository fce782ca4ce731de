/- DegreeProduct, both sides. -/
import Derived.Test.YtebgbplhcaocoaaSpecDegrees
import Derived.Test.YtebgbplhcaocoaaCoreB
import Derived.Test.YtebgbplhcaocoaaCoreF
set_option linter.unusedSimpArgs false
set_option linter.unusedVariables false
set_option maxRecDepth 100000
namespace Go.Proofs.Ytebgbplhcaocoaa
open Go.RowKit

def dpr (f : Nat → Int) : Nat → Int
  | 0 => 1
  | k + 1 => dpr f k * (f k - 1)
theorem dpr_bd {f : Nat → Int} (h : ∀ k, 0 ≤ f k ∧ f k ≤ 20) (k : Nat) (hk : k ≤ 8) : (dpr f k).natAbs ≤ 20 ^ 8 := by
  have : ∀ k, (dpr f k).natAbs ≤ 20 ^ k := by
    intro k
    induction k with
    | zero => exact Nat.le_refl _
    | succ k ih =>
      unfold dpr
      rw [Int.natAbs_mul, Nat.pow_succ]
      exact Nat.mul_le_mul ih (by have := h k; omega)
  exact Nat.le_trans (this k) (Nat.pow_le_pow_right (by decide) hk)
theorem dpr_num {f : Nat → Int} (h : ∀ k, 0 ≤ f k ∧ f k ≤ 20) {k : Nat} (hk : k < 8) : -25600000000 ≤ dpr f k * (f k - 1) ∧ dpr f k * (f k - 1) ≤ 25600000000 := by
  have := dpr_bd h (k + 1) hk
  unfold dpr at this
  have e : (20 : Nat) ^ 8 = 25600000000 := by decide
  rw [e] at this
  omega
def dpOf (s : Int) (xss : List (List Int)) : Int × Int := if grB s xss = true then (dpr (fun v => deg xss (v : Int)) s.toNat, 0) else (0, 1)
theorem dpOf_yes {s : Int} {xss : List (List Int)} (h : grB s xss = true) : dpOf s xss = (dpr (fun v => deg xss (v : Int)) s.toNat, 0) := by unfold dpOf; rw [if_pos h]
theorem dpOf_no {s : Int} {xss : List (List Int)} (h : grB s xss = false) : dpOf s xss = (0, 1) := by unfold dpOf; rw [h]; rfl
theorem deg_20 {s : Int} {xss : List (List Int)} (h : grB s xss = true) (v : Nat) : 0 ≤ deg xss (v : Int) ∧ deg xss (v : Int) ≤ 20 := by
  have h1 := (grB_iff h).2.2.1
  have h2 := deg_bd xss (v : Int)
  omega

set_option maxHeartbeats 1600000 in
theorem specDp {lo hi : Nat} (s : Int) (a : Option Addr) (n c : Nat) (xss : List (List Int)) (w : World) (h : RdR lo hi w (.slice a n c) xss) (hn : xss.length = n) :
    Calls Try.prog 26 #[.agg #[.int .i64 s, .slice a n c]] w fun e w' => e = .returned (.tuple #[.int .i64 (dpOf s xss).1, .int .i64 (dpOf s xss).2]) ∧ Below w.heap.size w w' := by
  have hb0 : ∀ o, Below w.heap.size w (w.alloc o) := fun o => (Below.refl _ _).alloc (Nat.le_refl _) o
  have HI := Lib.hid (fun W (hB : Below w.heap.size w W) => l01Is s a n c xss W (h.below hB) hn)
  cases hg : grB s xss with
  | true =>
    rw [hg] at HI
    have hg4 := grB_iff hg
    obtain ⟨S, hS⟩ : ∃ S : Nat, s = (S : Int) := ⟨s.toNat, by omega⟩
    subst hS
    have HD := Lib.hid (fun W (hB : Below w.heap.size w W) (v : Nat) => l01Degree (S : Int) (v : Int) a n c xss W (h.below hB) hg)
    have HF20 := Lib.hid (deg_20 hg)
    rw [dpOf_yes hg, Int.toNat_natCast]
    obtain ⟨f, hf⟩ : ∃ f : Nat → Int, f = fun v : Nat => deg xss (v : Int) := ⟨_, rfl⟩
    have hfe : ∀ v : Nat, deg xss (v : Int) = f v := fun v => by rw [hf]
    have HFE := Lib.hid hfe
    have hfb : ∀ k, 0 ≤ f k ∧ f k ≤ 20 := fun k => by rw [← hfe]; exact HF20.out k
    have HN8 := Lib.hid (fun k (hk : k < 8) => dpr_num hfb hk)
    have HFB := Lib.hid hfb
    have hS8 : S ≤ 8 := by omega
    have HS8 := Lib.hid (show 1 ≤ S ∧ S ≤ 8 by omega)
    rw [← hf]
    clear h hn hg hg4 hf hfe hfb HF20
    go_enter Try.func26, Try.ntmps26
    go_wp2_with fail
    refine calls_gen (fun W => Below w.heap.size w W ∧ W.cell? ⟨w.heap.size, 0, none⟩ = some (.int .i64 (S : Int)) ∧ W.cell? ⟨w.heap.size, 1, none⟩ = some (.slice a n c)) ⟨hb0 _, by go_simp, by go_simp⟩ ?_
    rintro W ⟨hB, k0, k1⟩
    refine (HI.out W hB).mono ?_
    rintro e w0 ⟨rfl, b0⟩
    replace hB := hB.next b0
    replace k0 := b0.keep k0
    replace k1 := b0.keep k1
    clear b0 HI
    go_wp2
    go_loopw [5, 4] (fun i v wr => ∃ k : Nat, k ≤ S ∧ i = .int .i64 k ∧ v = .int .i64 (dpr f k) ∧ Below w.heap.size w wr ∧ wr.cell? ⟨w.heap.size, 0, none⟩ = some (.int .i64 (S : Int)) ∧ wr.cell? ⟨w.heap.size, 1, none⟩ = some (.slice a n c)) (fun i _ _ => S - (intOf i).toNat)
    case atStart => exact ⟨0, Nat.zero_le _, rfl, rfl, hB, k0, k1⟩
    case round =>
      clear k0 k1 hB
      obtain ⟨k, hk, rfl, rfl, hB, k0, k1⟩ := hrel
      by_cases hlt : k < S
      · have hltI : (k : Int) < (S : Int) := by omega
        have HBB := Lib.hid hB
        have hnum := HN8.out k (by have := HS8.out; omega)
        have hfk := HFB.out k
        have hst : dpr f (k + 1) = dpr f k * (f k - 1) := rfl
        generalize dpr f k = p at hnum hst ⊢
        have hd := HD.out wr hB k
        rw [HFE.out k] at hd
        have HDD := Lib.hid hd
        generalize f k = d at HDD hnum hst hfk
        obtain ⟨t, ht⟩ : ∃ t, t = p * (d - 1) := ⟨_, rfl⟩
        have m0 : IntKind.i64.wrap (d - 1) = d - 1 := IntWalk.i64_in _ (by clear hnum; omega)
        have m0' : wrap64 (d - 1) = d - 1 := IntWalk.wrap64_in _ (by clear hnum m0; omega)
        rw [← ht] at hst hnum
        have m1 : IntKind.i64.wrap (p * (d - 1)) = t := by rw [← ht]; exact IntWalk.i64_in _ (by clear m0 m0'; omega)
        have m2 : wrap64 (p * (d - 1)) = t := by rw [← ht]; exact IntWalk.wrap64_in _ (by clear m0 m0' m1; omega)
        have HST := Lib.hid hst
        clear ht hnum hfk hst hd hB
        go_wp2_with fail
        refine HDD.out.mono ?_
        rintro e w2 ⟨rfl, b2⟩
        have HF := Lib.hid (⟨HBB.out.next b2, b2.keep k0, b2.keep k1⟩ : _ ∧ _ ∧ _)
        clear b2 k0 k1 HDD
        go_wp2
        clear m0 m0' m1 m2
        go_roundw
        case rel => exact ⟨k+1, by omega, by go_num, by rw [HST.out], HF.out⟩
        case measure => simp [intOf]; omega
      · obtain rfl : k = S := by omega
        have HF := Lib.hid hB
        clear hB
        go_wp2
        go_ret2
        exact ⟨rfl, HF.out⟩
  | false =>
    rw [hg] at HI
    rw [dpOf_no hg]
    clear h hn hg
    go_enter Try.func26, Try.ntmps26
    go_wp2_with fail
    refine calls_gen (fun W => Below w.heap.size w W) (hb0 _) ?_
    rintro W hB
    refine (HI.out W hB).mono ?_
    rintro e w1 ⟨rfl, b1⟩
    replace hB := hB.next b1
    clear b1 HI
    go_wp2
    go_ret2
    exact ⟨rfl, hB⟩

set_option maxHeartbeats 1600000 in
theorem implDp {lo hi : Nat} (s : Int) (a : Option Addr) (n c : Nat) (xss : List (List Int)) (w : World) (h : RdR lo hi w (.slice a n c) xss) (hn : xss.length = n) :
    Calls Try.prog 27 #[.agg #[.int .i64 s, .slice a n c]] w fun e w' => e = .returned (.tuple #[.int .i64 (dpOf s xss).1, .int .i64 (dpOf s xss).2]) ∧ Below w.heap.size w w' := by
  have hb0 : ∀ o, Below w.heap.size w (w.alloc o) := fun o => (Below.refl _ _).alloc (Nat.le_refl _) o
  have HI := Lib.hid (fun W (hB : Below w.heap.size w W) => implDegrees s a n c xss W (h.below hB) hn)
  cases hg : grB s xss with
  | true =>
    have hg4 := grB_iff hg
    obtain ⟨S, hS⟩ : ∃ S : Nat, s = (S : Int) := ⟨s.toNat, by omega⟩
    subst hS
    have e1 : degreesOf (S : Int) xss = (degs S xss, 0) := by simp [degreesOf, hg]
    rw [e1] at HI
    have HF20 := Lib.hid (deg_20 hg)
    have hlen : (degs (S : Int) xss).length = S := by simp [degs]
    rw [dpOf_yes hg, Int.toNat_natCast]
    obtain ⟨f, hf⟩ : ∃ f : Nat → Int, f = fun v : Nat => deg xss (v : Int) := ⟨_, rfl⟩
    have hfe : ∀ v : Nat, v < S → (degs (S : Int) xss).getD v 0 = f v := fun v hv => by rw [hf]; simp [degs, List.getD, hv]
    have HFE := Lib.hid hfe
    have hfb : ∀ k, 0 ≤ f k ∧ f k ≤ 20 := fun k => by rw [hf]; exact HF20.out k
    have HN8 := Lib.hid (fun k (hk : k < 8) => dpr_num hfb hk)
    have HFB := Lib.hid hfb
    have hS8 : S ≤ 8 := by omega
    have HS8 := Lib.hid (show 1 ≤ S ∧ S ≤ 8 by omega)
    rw [← hf]
    rw [hlen] at HI
    generalize degs (S : Int) xss = ds at HI HFE hlen
    have HLN := Lib.hid hlen
    clear h hn hg hg4 hf hfe hfb HF20 hlen e1
    go_enter Try.func27, Try.ntmps27
    go_wp2_with fail
    refine calls_gen (fun W => Below w.heap.size w W) (hb0 _) ?_
    rintro W hB
    refine (HI.out W hB).mono ?_
    rintro e w0 ⟨a', c', rfl, o0, b0⟩
    replace hB := hB.next b0
    have HO := Lib.hid (show RdI W.heap.size w0.heap.size w0 (.slice a' S c') ds from o0.rd)
    clear o0 b0 HI
    have HB0 := Lib.hid hB
    clear hB
    go_wp2
    go_loopw [19, 6] (fun i v wr => ∃ k : Nat, k ≤ S ∧ i = .int .i64 k ∧ v = .int .i64 (dpr f k) ∧ Below w.heap.size w wr ∧ Below w0.heap.size w0 wr) (fun i _ _ => S - (intOf i).toNat)
    case atStart => exact ⟨0, Nat.zero_le _, rfl, rfl, HB0.out, Below.refl _ _⟩
    case round =>
      obtain ⟨k, hk, rfl, rfl, hB, hb0⟩ := hrel
      by_cases hlt : k < S
      · have hltI : (k : Int) < (S : Int) := by omega
        have hnum := HN8.out k (by have := HS8.out; omega)
        have hfk := HFB.out k
        have hst : dpr f (k + 1) = dpr f k * (f k - 1) := rfl
        generalize dpr f k = p at hnum hst ⊢
        obtain ⟨ab, off, rfl, h1⟩ := (HO.out.below hb0).at HLN.out k hlt
        rw [HFE.out k hlt] at h1
        generalize f k = d at h1 hnum hst hfk
        obtain ⟨t, ht⟩ : ∃ t, t = p * (d - 1) := ⟨_, rfl⟩
        have m0 : IntKind.i64.wrap (d - 1) = d - 1 := IntWalk.i64_in _ (by clear hnum; omega)
        have m0' : wrap64 (d - 1) = d - 1 := IntWalk.wrap64_in _ (by clear hnum m0; omega)
        rw [← ht] at hst hnum
        have m1 : IntKind.i64.wrap (p * (d - 1)) = t := by rw [← ht]; exact IntWalk.i64_in _ (by clear m0 m0'; omega)
        have m2 : wrap64 (p * (d - 1)) = t := by rw [← ht]; exact IntWalk.wrap64_in _ (by clear m0 m0' m1; omega)
        have HST := Lib.hid hst
        have HF := Lib.hid (⟨hB, hb0⟩ : _ ∧ _)
        clear ht hnum hfk hst hB hb0
        go_wp2
        clear m0 m0' m1 m2
        go_roundw
        case rel => exact ⟨k+1, by omega, by go_num, by rw [HST.out], HF.out⟩
        case measure => simp [intOf]; omega
      · obtain rfl : k = S := by omega
        have HF := Lib.hid hB
        clear hB
        go_wp2
        go_ret2
        exact ⟨rfl, HF.out⟩
  | false =>
    have e1 : degreesOf s xss = ([], 1) := by simp [degreesOf, hg]
    rw [e1] at HI
    rw [dpOf_no hg]
    clear h hn hg
    go_enter Try.func27, Try.ntmps27
    go_wp2_with fail
    refine calls_gen (fun W => Below w.heap.size w W) (hb0 _) ?_
    rintro W hB
    refine (HI.out W hB).mono ?_
    rintro e w1 ⟨a', c', rfl, o1, b1⟩
    replace hB := hB.next b1
    clear b1 HI
    go_wp2
    go_ret2
    exact ⟨rfl, hB⟩

end Go.Proofs.Ytebgbplhcaocoaa
