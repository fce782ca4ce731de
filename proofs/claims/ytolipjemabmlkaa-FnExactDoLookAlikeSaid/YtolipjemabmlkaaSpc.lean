/- SpectrumOf, both sides. -/
import Derived.Test.YtolipjemabmlkaaChP
import Derived.Test.YtolipjemabmlkaaBk
set_option linter.unusedSimpArgs false
set_option linter.unusedVariables false
set_option maxRecDepth 100000
namespace Go.Proofs.Ytolipjemabmlkaa
open Go.RowKit

theorem specBkS {lo hi : Nat} (n : Nat) (A : Nat → Nat → Int) (a : Option Addr) (c : Nat) (w : World) (h : RdR lo hi w (.slice a n c) (tab n A)) (hn : n ≤ 20) (hf : fits A n) :
    Calls Try.prog 59 #[.slice a n c] w fun e w' => ∃ a' c', e = .returned (.slice a' (trim (dkL A n)).length c') ∧ OwI w.heap.size w'.heap.size w' (.slice a' (trim (dkL A n)).length c') (trim (dkL A n)) ∧ Below w.heap.size w w' := by
  have HD := specBk n A a c w h hn
  rw [nowB_dk n A hf] at HD
  exact HD

/-- the spectrum's numbers -/
def spcL (xss : List (List Int)) (n : Nat) : List Int := trim (dkL (adF xss) n)
theorem spcL_len (xss : List (List Int)) (n : Nat) : (spcL xss n).length ≤ n + 1 := by
  unfold spcL
  have h1 := trim_le (dkL (adF xss) n)
  rw [dkL_len] at h1
  exact h1
def spcOf (s : Int) (xss : List (List Int)) : List Int × Int := if grB s xss = true then (spcL xss s.toNat, 0) else ([], 1)
theorem spcOf_no {s : Int} {xss : List (List Int)} (h : grB s xss = false) : spcOf s xss = ([], 1) := by unfold spcOf; rw [h]; rfl
theorem spcOf_yes {S : Nat} {xss : List (List Int)} (h : grB (S : Int) xss = true) : spcOf (S : Int) xss = (spcL xss S, 0) := by unfold spcOf; rw [if_pos h, Int.toNat_natCast]

set_option maxHeartbeats 1600000 in
theorem implSpc {lo hi : Nat} (s : Int) (a : Option Addr) (n c : Nat) (xss : List (List Int)) (w : World) (h : RdR lo hi w (.slice a n c) xss) (hn : xss.length = n) :
    Calls Try.prog 37 #[.agg #[.int .i64 s, .slice a n c]] w fun e w' => ∃ a' c', e = .returned (.tuple #[.slice a' (spcOf s xss).1.length c', .int .i64 (spcOf s xss).2]) ∧ OwI w.heap.size w'.heap.size w' (.slice a' (spcOf s xss).1.length c') (spcOf s xss).1 ∧ Below w.heap.size w w' := by
  have hb0 : ∀ o, Below w.heap.size w (w.alloc o) := fun o => (Below.refl _ _).alloc (Nat.le_refl _) o
  cases hg : grB s xss with
  | true =>
    have hg4 := grB_iff hg
    obtain ⟨S, hS⟩ : ∃ S : Nat, s = (S : Int) := ⟨s.toNat, by omega⟩
    subst hS
    have HR := Lib.hid (fun W (hB : Below w.heap.size w W) => implAdj_yes S a n c xss W (h.below hB) hn hg)
    have HC := Lib.hid (fun (a1 : Option Addr) (c1 lo1 hi1 : Nat) (W : World) (hW : RdR lo1 hi1 W (.slice a1 S c1) (tab S (adF xss))) => detPoly S (adF xss) a1 c1 W hW (by omega) (adF_fits hg))
    have HN := Lib.hid hn
    rw [spcOf_yes hg]
    have HX := Lib.hid (show spcL xss S = trim (dkL (adF xss) S) from rfl)
    rw [← HX.out] at HC
    clear h hn hg hg4
    go_enter Try.func37, Try.ntmps37
    go_wp2_with fail
    refine calls_gen (fun W => Below w.heap.size w W) (hb0 _) ?_
    rintro W hB
    refine (HR.out W hB).mono ?_
    rintro e w1 ⟨a1, c1, rfl, o1, b1⟩
    have ho : RdR W.heap.size w1.heap.size w1 (.slice a1 S c1) (tab S (adF xss)) := by
      have := o1.rd
      rw [← HN.out] at this
      exact this
    have HC1 := Lib.hid (HC.out a1 c1 _ _ w1 ho)
    have HB := Lib.hid (hB.next b1)
    clear hB o1 b1 ho HC HR
    go_wp2_with fail
    refine HC1.out.mono ?_
    rintro e w2 ⟨a2, c2, rfl, o2, b2⟩
    have HF := Lib.hid (⟨OwI.mono o2 HB.out.size (Nat.le_refl _), HB.out.next b2⟩ : _ ∧ _)
    clear o2 b2 HC1
    go_wp2
    go_ret2
    exact ⟨a2, c2, rfl, HF.out⟩
  | false =>
    have HR := Lib.hid (fun W (hB : Below w.heap.size w W) => implAdj s a n c xss W (h.below hB) hn)
    have hno : adjOf s xss = ([], 1) := by unfold adjOf; rw [hg]; rfl
    rw [hno] at HR
    rw [spcOf_no hg]
    clear h hn hg hno
    go_enter Try.func37, Try.ntmps37
    go_wp2_with fail
    refine calls_gen (fun W => Below w.heap.size w W) (hb0 _) ?_
    rintro W hB
    refine (HR.out W hB).mono ?_
    rintro e w1 ⟨a1, c1, rfl, o1, b1⟩
    replace hB := hB.next b1
    clear o1 b1 HR
    go_wp2
    go_ret2
    exact ⟨none, 0, rfl, OwI.nil' _ _ _, hB⟩

set_option maxHeartbeats 1600000 in
theorem l08Spectrum {lo hi : Nat} (S : Nat) (a : Option Addr) (n c : Nat) (xss : List (List Int)) (w : World) (h : RdR lo hi w (.slice a n c) xss) (hn : xss.length = n) (hg : grB (S : Int) xss = true) :
    Calls Try.prog 81 #[.agg #[.int .i64 (S : Int), .slice a n c]] w fun e w' => ∃ a' c', e = .returned (.slice a' (spcL xss S).length c') ∧ OwI w.heap.size w'.heap.size w' (.slice a' (spcL xss S).length c') (spcL xss S) ∧ Below w.heap.size w w' := by
  have hb0 : ∀ o, Below w.heap.size w (w.alloc o) := fun o => (Below.refl _ _).alloc (Nat.le_refl _) o
  have hg4 := grB_iff hg
  have HR := Lib.hid (fun W (hB : Below w.heap.size w W) => l01Adjacency S a n c xss W (h.below hB) hn hg)
  have HC := Lib.hid (fun (a1 : Option Addr) (c1 lo1 hi1 : Nat) (W : World) (hW : RdR lo1 hi1 W (.slice a1 S c1) (tab S (adF xss))) => specBkS S (adF xss) a1 c1 W hW (by omega) (adF_fits hg))
  have HN := Lib.hid hn
  have HT := Lib.hid (adZ_tab hg S)
  have HX := Lib.hid (show spcL xss S = trim (dkL (adF xss) S) from rfl)
  rw [← HX.out] at HC
  clear h hn hg hg4
  go_enter Try.func81, Try.ntmps81
  go_wp2_with fail
  refine calls_gen (fun W => Below w.heap.size w W) (hb0 _) ?_
  rintro W hB
  refine (HR.out W hB).mono ?_
  rintro e w1 ⟨a1, c1, rfl, o1, b1⟩
  have ho : RdR W.heap.size w1.heap.size w1 (.slice a1 S c1) (tab S (adF xss)) := by
    have := o1.rd
    rw [← HN.out, HT.out] at this
    exact this
  have HC1 := Lib.hid (HC.out a1 c1 _ _ w1 ho)
  have HB := Lib.hid (hB.next b1)
  clear hB o1 b1 ho HC HR
  go_wp2_with fail
  refine HC1.out.mono ?_
  rintro e w2 ⟨a2, c2, rfl, o2, b2⟩
  have HF := Lib.hid (⟨OwI.mono o2 HB.out.size (Nat.le_refl _), HB.out.next b2⟩ : _ ∧ _)
  clear o2 b2 HC1
  go_wp2
  go_ret
  exact ⟨a2, c2, rfl, HF.out⟩

set_option maxHeartbeats 1600000 in
theorem specSpc {lo hi : Nat} (s : Int) (a : Option Addr) (n c : Nat) (xss : List (List Int)) (w : World) (h : RdR lo hi w (.slice a n c) xss) (hn : xss.length = n) :
    Calls Try.prog 36 #[.agg #[.int .i64 s, .slice a n c]] w fun e w' => ∃ a' c', e = .returned (.tuple #[.slice a' (spcOf s xss).1.length c', .int .i64 (spcOf s xss).2]) ∧ OwI w.heap.size w'.heap.size w' (.slice a' (spcOf s xss).1.length c') (spcOf s xss).1 ∧ Below w.heap.size w w' := by
  have hb0 : ∀ o, Below w.heap.size w (w.alloc o) := fun o => (Below.refl _ _).alloc (Nat.le_refl _) o
  have HI := Lib.hid (fun W (hB : Below w.heap.size w W) => l01Is s a n c xss W (h.below hB) hn)
  cases hg : grB s xss with
  | true =>
    rw [hg] at HI
    have hg4 := grB_iff hg
    obtain ⟨S, hS⟩ : ∃ S : Nat, s = (S : Int) := ⟨s.toNat, by omega⟩
    subst hS
    have HR := Lib.hid (fun W (hB : Below w.heap.size w W) => l08Spectrum S a n c xss W (h.below hB) hn hg)
    rw [spcOf_yes hg]
    generalize spcL xss S = L at HR ⊢
    clear h hn hg hg4
    go_enter Try.func36, Try.ntmps36
    go_wp2_with fail
    refine calls_gen (fun W => Below w.heap.size w W ∧ W.cell? ⟨w.heap.size, 0, none⟩ = some (.int .i64 (S : Int)) ∧ W.cell? ⟨w.heap.size, 1, none⟩ = some (.slice a n c)) ⟨hb0 _, by go_simp, by go_simp⟩ ?_
    rintro W ⟨hB, k0, k1⟩
    refine (HI.out W hB).mono ?_
    rintro e w0 ⟨rfl, b0⟩
    replace hB := hB.next b0
    replace k0 := b0.keep k0
    replace k1 := b0.keep k1
    clear b0 HI
    go_wp2_with fail
    refine (HR.out w0 hB).mono ?_
    rintro e w2 ⟨a2, c2, rfl, o2, b2⟩
    have HF := Lib.hid (⟨OwI.mono o2 hB.size (Nat.le_refl _), hB.next b2⟩ : _ ∧ _)
    clear o2 b2 HR k0 k1
    go_wp2
    go_ret2
    exact ⟨a2, c2, rfl, HF.out⟩
  | false =>
    rw [hg] at HI
    rw [spcOf_no hg]
    clear h hn hg
    go_enter Try.func36, Try.ntmps36
    go_wp2_with fail
    refine calls_gen (fun W => Below w.heap.size w W) (hb0 _) ?_
    rintro W hB
    refine (HI.out W hB).mono ?_
    rintro e w1 ⟨rfl, b1⟩
    replace hB := hB.next b1
    clear b1 HI
    go_wp2
    go_ret2
    exact ⟨none, 0, rfl, OwI.nil' _ _ _, hB⟩

end Go.Proofs.Ytolipjemabmlkaa
