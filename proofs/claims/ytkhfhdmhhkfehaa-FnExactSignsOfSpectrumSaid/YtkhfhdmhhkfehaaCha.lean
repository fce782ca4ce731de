/- Characteristic polynomials of a graph: of its adjacency rows and of its Laplacian, both sides. -/
import Derived.Test.YtkhfhdmhhkfehaaChI
set_option linter.unusedSimpArgs false
set_option linter.unusedVariables false
set_option maxRecDepth 100000
namespace Go.Proofs.Ytkhfhdmhhkfehaa
open Go.RowKit

def chaOf (s : Int) (xss : List (List Int)) : List Int × Int := if grB s xss = true then (chL (adF xss) s.toNat, 0) else ([], 1)
theorem chaOf_no {s : Int} {xss : List (List Int)} (h : grB s xss = false) : chaOf s xss = ([], 1) := by unfold chaOf; rw [h]; rfl
theorem chaOf_yes {S : Nat} {xss : List (List Int)} (h : grB (S : Int) xss = true) : chaOf (S : Int) xss = (chL (adF xss) S, 0) := by unfold chaOf; rw [if_pos h, Int.toNat_natCast]

set_option maxHeartbeats 1600000 in
theorem implCha {lo hi : Nat} (s : Int) (a : Option Addr) (n c : Nat) (xss : List (List Int)) (w : World) (h : RdR lo hi w (.slice a n c) xss) (hn : xss.length = n) :
    Calls Try.prog 27 #[.agg #[.int .i64 s, .slice a n c]] w fun e w' => ∃ a' c', e = .returned (.tuple #[.slice a' (chaOf s xss).1.length c', .int .i64 (chaOf s xss).2]) ∧ OwI w.heap.size w'.heap.size w' (.slice a' (chaOf s xss).1.length c') (chaOf s xss).1 ∧ Below w.heap.size w w' := by
  have hb0 : ∀ o, Below w.heap.size w (w.alloc o) := fun o => (Below.refl _ _).alloc (Nat.le_refl _) o
  cases hg : grB s xss with
  | true =>
    have hg4 := grB_iff hg
    obtain ⟨S, hS⟩ : ∃ S : Nat, s = (S : Int) := ⟨s.toNat, by omega⟩
    subst hS
    have HR := Lib.hid (fun W (hB : Below w.heap.size w W) => implAdj_yes S a n c xss W (h.below hB) hn hg)
    have HC := Lib.hid (fun (a1 : Option Addr) (c1 lo1 hi1 : Nat) (W : World) (hW : RdR lo1 hi1 W (.slice a1 S c1) (tab S (adF xss))) => charOf S (adF xss) a1 c1 W hW (by omega) (adF_fits hg))
    have HN := Lib.hid hn
    rw [chaOf_yes hg]
    have HLN := Lib.hid (chL_len (adF xss) S)
    clear h hn hg hg4
    go_enter Try.func27, Try.ntmps27
    go_wp2_with fail
    refine calls_gen (fun W => Below w.heap.size w W) (hb0 _) ?_
    rintro W hB
    refine (HR.out W hB).mono ?_
    rintro e w1 ⟨a1, c1, rfl, o1, b1⟩
    have ho : RdR W.heap.size w1.heap.size w1 (.slice a1 S c1) (tab S (adF xss)) := by
      have := o1.rd
      rw [← HN.out] at this
      exact this
    have HC1 := Lib.hid (HC.out a1 c1 _ _ w1 ho)
    have HB := Lib.hid (hB.next b1)
    clear hB o1 b1 ho HC HR
    go_wp2_with fail
    refine HC1.out.mono ?_
    rintro e w2 ⟨a2, c2, rfl, o2, b2⟩
    have HF := Lib.hid (⟨OwI.mono o2 HB.out.size (Nat.le_refl _), HB.out.next b2⟩ : _ ∧ _)
    clear o2 b2 HC1
    go_wp2
    go_ret2
    exact ⟨a2, c2, by rw [HLN.out]; rfl, by rw [HLN.out]; exact HF.out.1, HF.out.2⟩
  | false =>
    have HR := Lib.hid (fun W (hB : Below w.heap.size w W) => implAdj s a n c xss W (h.below hB) hn)
    have hno : adjOf s xss = ([], 1) := by unfold adjOf; rw [hg]; rfl
    rw [hno] at HR
    rw [chaOf_no hg]
    clear h hn hg hno
    go_enter Try.func27, Try.ntmps27
    go_wp2_with fail
    refine calls_gen (fun W => Below w.heap.size w W) (hb0 _) ?_
    rintro W hB
    refine (HR.out W hB).mono ?_
    rintro e w1 ⟨a1, c1, rfl, o1, b1⟩
    replace hB := hB.next b1
    clear o1 b1 HR
    go_wp2
    go_ret2
    exact ⟨none, 0, rfl, OwI.nil' _ _ _, hB⟩

set_option maxHeartbeats 1600000 in
theorem specCha {lo hi : Nat} (s : Int) (a : Option Addr) (n c : Nat) (xss : List (List Int)) (w : World) (h : RdR lo hi w (.slice a n c) xss) (hn : xss.length = n) :
    Calls Try.prog 25 #[.agg #[.int .i64 s, .slice a n c]] w fun e w' => ∃ a' c', e = .returned (.tuple #[.slice a' (chaOf s xss).1.length c', .int .i64 (chaOf s xss).2]) ∧ OwI w.heap.size w'.heap.size w' (.slice a' (chaOf s xss).1.length c') (chaOf s xss).1 ∧ Below w.heap.size w w' := by
  have hb0 : ∀ o, Below w.heap.size w (w.alloc o) := fun o => (Below.refl _ _).alloc (Nat.le_refl _) o
  have HI := Lib.hid (fun W (hB : Below w.heap.size w W) => l01Is s a n c xss W (h.below hB) hn)
  cases hg : grB s xss with
  | true =>
    rw [hg] at HI
    have hg4 := grB_iff hg
    obtain ⟨S, hS⟩ : ∃ S : Nat, s = (S : Int) := ⟨s.toNat, by omega⟩
    subst hS
    have HR := Lib.hid (fun W (hB : Below w.heap.size w W) => l01Adjacency S a n c xss W (h.below hB) hn hg)
    have HC := Lib.hid (fun (a1 : Option Addr) (c1 lo1 hi1 : Nat) (W : World) (hW : RdR lo1 hi1 W (.slice a1 S c1) (tab S (adF xss))) => l07Of S (adF xss) a1 c1 W hW (by omega) (adF_fits hg))
    have HN := Lib.hid hn
    have HT := Lib.hid (adZ_tab hg S)
    rw [chaOf_yes hg]
    have HLN := Lib.hid (chL_len (adF xss) S)
    clear h hn hg hg4
    go_enter Try.func25, Try.ntmps25
    go_wp2_with fail
    refine calls_gen (fun W => Below w.heap.size w W ∧ W.cell? ⟨w.heap.size, 0, none⟩ = some (.int .i64 (S : Int)) ∧ W.cell? ⟨w.heap.size, 1, none⟩ = some (.slice a n c)) ⟨hb0 _, by go_simp, by go_simp⟩ ?_
    rintro W ⟨hB, k0, k1⟩
    refine (HI.out W hB).mono ?_
    rintro e w0 ⟨rfl, b0⟩
    replace hB := hB.next b0
    replace k0 := b0.keep k0
    replace k1 := b0.keep k1
    clear b0 HI
    go_wp2_with fail
    refine (HR.out w0 hB).mono ?_
    rintro e w1 ⟨a1, c1, rfl, o1, b1⟩
    have ho : RdR w0.heap.size w1.heap.size w1 (.slice a1 S c1) (tab S (adF xss)) := by
      have := o1.rd
      rw [← HN.out, HT.out] at this
      exact this
    have HC1 := Lib.hid (HC.out a1 c1 _ _ w1 ho)
    have HB := Lib.hid (hB.next b1)
    clear hB o1 b1 ho HC HR k0 k1
    go_wp2_with fail
    refine HC1.out.mono ?_
    rintro e w2 ⟨a2, c2, rfl, o2, b2⟩
    have HF := Lib.hid (⟨OwI.mono o2 HB.out.size (Nat.le_refl _), HB.out.next b2⟩ : _ ∧ _)
    clear o2 b2 HC1
    go_wp2
    go_ret2
    exact ⟨a2, c2, by rw [HLN.out]; rfl, by rw [HLN.out]; exact HF.out.1, HF.out.2⟩
  | false =>
    rw [hg] at HI
    rw [chaOf_no hg]
    clear h hn hg
    go_enter Try.func25, Try.ntmps25
    go_wp2_with fail
    refine calls_gen (fun W => Below w.heap.size w W) (hb0 _) ?_
    rintro W hB
    refine (HI.out W hB).mono ?_
    rintro e w1 ⟨rfl, b1⟩
    replace hB := hB.next b1
    clear b1 HI
    go_wp2
    go_ret2
    exact ⟨none, 0, rfl, OwI.nil' _ _ _, hB⟩

def lppOf (s : Int) (xss : List (List Int)) : List Int × Int := if grB s xss = true then (chL (lpF xss) s.toNat, 0) else ([], 1)
theorem lppOf_no {s : Int} {xss : List (List Int)} (h : grB s xss = false) : lppOf s xss = ([], 1) := by unfold lppOf; rw [h]; rfl
theorem lppOf_yes {S : Nat} {xss : List (List Int)} (h : grB (S : Int) xss = true) : lppOf (S : Int) xss = (chL (lpF xss) S, 0) := by unfold lppOf; rw [if_pos h, Int.toNat_natCast]

set_option maxHeartbeats 1600000 in
theorem implLpp {lo hi : Nat} (s : Int) (a : Option Addr) (n c : Nat) (xss : List (List Int)) (w : World) (h : RdR lo hi w (.slice a n c) xss) (hn : xss.length = n) :
    Calls Try.prog 31 #[.agg #[.int .i64 s, .slice a n c]] w fun e w' => ∃ a' c', e = .returned (.tuple #[.slice a' (lppOf s xss).1.length c', .int .i64 (lppOf s xss).2]) ∧ OwI w.heap.size w'.heap.size w' (.slice a' (lppOf s xss).1.length c') (lppOf s xss).1 ∧ Below w.heap.size w w' := by
  have hb0 : ∀ o, Below w.heap.size w (w.alloc o) := fun o => (Below.refl _ _).alloc (Nat.le_refl _) o
  cases hg : grB s xss with
  | true =>
    have hg4 := grB_iff hg
    obtain ⟨S, hS⟩ : ∃ S : Nat, s = (S : Int) := ⟨s.toNat, by omega⟩
    subst hS
    have HR := Lib.hid (fun W (hB : Below w.heap.size w W) => implLap_yes S a n c xss W (h.below hB) hn hg)
    have HC := Lib.hid (fun (a1 : Option Addr) (c1 lo1 hi1 : Nat) (W : World) (hW : RdR lo1 hi1 W (.slice a1 S c1) (tab S (lpF xss))) => charOf S (lpF xss) a1 c1 W hW (by omega) (lpF_fits hg))
    have HN := Lib.hid hn
    rw [lppOf_yes hg]
    have HLN := Lib.hid (chL_len (lpF xss) S)
    clear h hn hg hg4
    go_enter Try.func31, Try.ntmps31
    go_wp2_with fail
    refine calls_gen (fun W => Below w.heap.size w W) (hb0 _) ?_
    rintro W hB
    refine (HR.out W hB).mono ?_
    rintro e w1 ⟨a1, c1, rfl, o1, b1⟩
    have ho : RdR W.heap.size w1.heap.size w1 (.slice a1 S c1) (tab S (lpF xss)) := by
      have := o1.rd
      rw [← HN.out] at this
      exact this
    have HC1 := Lib.hid (HC.out a1 c1 _ _ w1 ho)
    have HB := Lib.hid (hB.next b1)
    clear hB o1 b1 ho HC HR
    go_wp2_with fail
    refine HC1.out.mono ?_
    rintro e w2 ⟨a2, c2, rfl, o2, b2⟩
    have HF := Lib.hid (⟨OwI.mono o2 HB.out.size (Nat.le_refl _), HB.out.next b2⟩ : _ ∧ _)
    clear o2 b2 HC1
    go_wp2
    go_ret2
    exact ⟨a2, c2, by rw [HLN.out]; rfl, by rw [HLN.out]; exact HF.out.1, HF.out.2⟩
  | false =>
    have HR := Lib.hid (fun W (hB : Below w.heap.size w W) => implLap s a n c xss W (h.below hB) hn)
    have hno : lapOf s xss = ([], 1) := by unfold lapOf; rw [hg]; rfl
    rw [hno] at HR
    rw [lppOf_no hg]
    clear h hn hg hno
    go_enter Try.func31, Try.ntmps31
    go_wp2_with fail
    refine calls_gen (fun W => Below w.heap.size w W) (hb0 _) ?_
    rintro W hB
    refine (HR.out W hB).mono ?_
    rintro e w1 ⟨a1, c1, rfl, o1, b1⟩
    replace hB := hB.next b1
    clear o1 b1 HR
    go_wp2
    go_ret2
    exact ⟨none, 0, rfl, OwI.nil' _ _ _, hB⟩

set_option maxHeartbeats 1600000 in
theorem specLpp {lo hi : Nat} (s : Int) (a : Option Addr) (n c : Nat) (xss : List (List Int)) (w : World) (h : RdR lo hi w (.slice a n c) xss) (hn : xss.length = n) :
    Calls Try.prog 30 #[.agg #[.int .i64 s, .slice a n c]] w fun e w' => ∃ a' c', e = .returned (.tuple #[.slice a' (lppOf s xss).1.length c', .int .i64 (lppOf s xss).2]) ∧ OwI w.heap.size w'.heap.size w' (.slice a' (lppOf s xss).1.length c') (lppOf s xss).1 ∧ Below w.heap.size w w' := by
  have hb0 : ∀ o, Below w.heap.size w (w.alloc o) := fun o => (Below.refl _ _).alloc (Nat.le_refl _) o
  have HI := Lib.hid (fun W (hB : Below w.heap.size w W) => l01Is s a n c xss W (h.below hB) hn)
  cases hg : grB s xss with
  | true =>
    rw [hg] at HI
    have hg4 := grB_iff hg
    obtain ⟨S, hS⟩ : ∃ S : Nat, s = (S : Int) := ⟨s.toNat, by omega⟩
    subst hS
    have HR := Lib.hid (fun W (hB : Below w.heap.size w W) => l05Laplacian S a n c xss W (h.below hB) hn hg)
    have HC := Lib.hid (fun (a1 : Option Addr) (c1 lo1 hi1 : Nat) (W : World) (hW : RdR lo1 hi1 W (.slice a1 S c1) (tab S (lpF xss))) => l07Of S (lpF xss) a1 c1 W hW (by omega) (lpF_fits hg))
    have HN := Lib.hid hn
    rw [lppOf_yes hg]
    have HLN := Lib.hid (chL_len (lpF xss) S)
    clear h hn hg hg4
    go_enter Try.func30, Try.ntmps30
    go_wp2_with fail
    refine calls_gen (fun W => Below w.heap.size w W ∧ W.cell? ⟨w.heap.size, 0, none⟩ = some (.int .i64 (S : Int)) ∧ W.cell? ⟨w.heap.size, 1, none⟩ = some (.slice a n c)) ⟨hb0 _, by go_simp, by go_simp⟩ ?_
    rintro W ⟨hB, k0, k1⟩
    refine (HI.out W hB).mono ?_
    rintro e w0 ⟨rfl, b0⟩
    replace hB := hB.next b0
    replace k0 := b0.keep k0
    replace k1 := b0.keep k1
    clear b0 HI
    go_wp2_with fail
    refine (HR.out w0 hB).mono ?_
    rintro e w1 ⟨a1, c1, rfl, o1, b1⟩
    have ho : RdR w0.heap.size w1.heap.size w1 (.slice a1 S c1) (tab S (lpF xss)) := by
      have := o1.rd
      rw [← HN.out] at this
      exact this
    have HC1 := Lib.hid (HC.out a1 c1 _ _ w1 ho)
    have HB := Lib.hid (hB.next b1)
    clear hB o1 b1 ho HC HR k0 k1
    go_wp2_with fail
    refine HC1.out.mono ?_
    rintro e w2 ⟨a2, c2, rfl, o2, b2⟩
    have HF := Lib.hid (⟨OwI.mono o2 HB.out.size (Nat.le_refl _), HB.out.next b2⟩ : _ ∧ _)
    clear o2 b2 HC1
    go_wp2
    go_ret2
    exact ⟨a2, c2, by rw [HLN.out]; rfl, by rw [HLN.out]; exact HF.out.1, HF.out.2⟩
  | false =>
    rw [hg] at HI
    rw [lppOf_no hg]
    clear h hn hg
    go_enter Try.func30, Try.ntmps30
    go_wp2_with fail
    refine calls_gen (fun W => Below w.heap.size w W) (hb0 _) ?_
    rintro W hB
    refine (HI.out W hB).mono ?_
    rintro e w1 ⟨rfl, b1⟩
    replace hB := hB.next b1
    clear b1 HI
    go_wp2
    go_ret2
    exact ⟨none, 0, rfl, OwI.nil' _ _ _, hB⟩

end Go.Proofs.Ytkhfhdmhhkfehaa
