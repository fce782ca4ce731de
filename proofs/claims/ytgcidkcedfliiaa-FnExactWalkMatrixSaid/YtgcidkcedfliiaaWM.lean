/- WalkMatrix, both sides. -/
import Derived.Test.YtgcidkcedfliiaaImplWM
set_option linter.unusedSimpArgs false
set_option linter.unusedVariables false
namespace Go.Proofs.Ytgcidkcedfliiaa
open Go.RowKit

set_option maxRecDepth 100000 in
theorem specWM_no {lo hi : Nat} (s : Int) (a : Option Addr) (n c : Nat) (xss : List (List Int)) (k : Int) (w : World) (h : RdR lo hi w (.slice a n c) xss) (hn : xss.length = n) (hc : ¬ ccode s xss k 0 12 = 0) :
    Calls Try.prog 52 #[.agg #[.int .i64 s, .slice a n c], .int .i64 k] w fun e w' => e = .returned (.tuple #[.slice none 0 0, .int .i64 (ccode s xss k 0 12)]) ∧ Below w.heap.size w w' := by
  have HR := Lib.hid h
  have HC := Lib.hid (fun W' (h' : RdR lo hi W' (.slice a n c) xss) => l03Length s a n c xss k 0 W' h' hn)
  generalize ccode s xss k 0 12 = code at HC hc ⊢
  have hcb : (code != 0) = true := by simpa using hc
  clear hc h hn
  go_enter Try.func52, Try.ntmps52
  go_wp2_with fail
  refine calls_gen (fun W => Below w.heap.size w W) ((Below.refl _ _).alloc (Nat.le_refl _) _) ?_
  rintro W hB
  refine (HC.out W (HR.out.below hB)).mono ?_
  rintro e w1 ⟨rfl, b1⟩
  replace hB := hB.next b1
  clear b1 HC
  go_wp2
  go_ret2
  exact ⟨rfl, hB⟩

theorem specWM {lo hi : Nat} (s : Int) (a : Option Addr) (n c : Nat) (xss : List (List Int)) (k : Int) (w : World) (h : RdR lo hi w (.slice a n c) xss) (hn : xss.length = n) :
    Calls Try.prog 52 #[.agg #[.int .i64 s, .slice a n c], .int .i64 k] w fun e w' => ∃ a' c', e = .returned (.tuple #[.slice a' (wmOf s xss k).1.length c', .int .i64 (wmOf s xss k).2]) ∧ OwR w.heap.size w'.heap.size w' (.slice a' (wmOf s xss k).1.length c') (wmOf s xss k).1 ∧ Below w.heap.size w w' := by
  by_cases hc : ccode s xss k 0 12 = 0
  · obtain ⟨hg, h0, h1⟩ := ccode_ok hc
    have hs := grB_iff hg
    obtain ⟨S, rfl⟩ : ∃ S : Nat, s = (S : Int) := ⟨s.toNat, by omega⟩
    obtain ⟨q, rfl⟩ : ∃ q : Nat, k = (q : Int) := ⟨k.toNat, by omega⟩
    have e1 : wmOf (S : Int) xss (q : Int) = (wmRes S q (2 * n) (dirE (pairs xss)), 0) := by
      unfold wmOf; rw [if_pos hc, Int.toNat_natCast, Int.toNat_natCast, hn]
    refine (specWM_yes S a n c xss q w h hn hg (by omega)).mono fun e w' ⟨a', c', he, ho, hb⟩ => ⟨a', c', ?_, ?_, hb⟩
    · rw [e1, he]; simp only [wmRes_len]
    · rw [e1]; simp only [wmRes_len]; exact ho
  · refine (specWM_no s a n c xss k w h hn hc).mono fun e w' ⟨he, hb⟩ => ⟨none, 0, ?_, ?_, hb⟩
    · rw [he]; simp [wmOf, hc]
    · simp only [wmOf, hc]; exact OwR.nil (World.ownsRow_nil _ _ _ _) (Nat.le_refl _)

set_option maxRecDepth 100000 in
theorem implWM_no {lo hi : Nat} (s : Int) (a : Option Addr) (n c : Nat) (xss : List (List Int)) (k : Int) (w : World) (h : RdR lo hi w (.slice a n c) xss) (hn : xss.length = n) (hc : ¬ ccode s xss k 0 12 = 0) :
    Calls Try.prog 53 #[.agg #[.int .i64 s, .slice a n c], .int .i64 k] w fun e w' => e = .returned (.tuple #[.slice none 0 0, .int .i64 (ccode s xss k 0 12)]) ∧ Below w.heap.size w w' := by
  have HR := Lib.hid h
  have HC := Lib.hid (fun W' (h' : RdR lo hi W' (.slice a n c) xss) => checkLength s a n c xss k 0 W' h' hn)
  generalize ccode s xss k 0 12 = code at HC hc ⊢
  have hcb : (code != 0) = true := by simpa using hc
  clear hc h hn
  go_enter Try.func53, Try.ntmps53
  go_wp2_with fail
  refine calls_gen (fun W => Below w.heap.size w W) ((Below.refl _ _).alloc (Nat.le_refl _) _) ?_
  rintro W hB
  refine (HC.out W (HR.out.below hB)).mono ?_
  rintro e w1 ⟨rfl, b1⟩
  replace hB := hB.next b1
  clear b1 HC
  go_wp2
  go_ret2
  exact ⟨rfl, hB⟩

theorem implWM {lo hi : Nat} (s : Int) (a : Option Addr) (n c : Nat) (xss : List (List Int)) (k : Int) (w : World) (h : RdR lo hi w (.slice a n c) xss) (hn : xss.length = n) :
    Calls Try.prog 53 #[.agg #[.int .i64 s, .slice a n c], .int .i64 k] w fun e w' => ∃ a' c', e = .returned (.tuple #[.slice a' (wmOf s xss k).1.length c', .int .i64 (wmOf s xss k).2]) ∧ OwR w.heap.size w'.heap.size w' (.slice a' (wmOf s xss k).1.length c') (wmOf s xss k).1 ∧ Below w.heap.size w w' := by
  by_cases hc : ccode s xss k 0 12 = 0
  · obtain ⟨hg, h0, h1⟩ := ccode_ok hc
    have hs := grB_iff hg
    obtain ⟨S, rfl⟩ : ∃ S : Nat, s = (S : Int) := ⟨s.toNat, by omega⟩
    obtain ⟨q, rfl⟩ : ∃ q : Nat, k = (q : Int) := ⟨k.toNat, by omega⟩
    have e1 : wmOf (S : Int) xss (q : Int) = (wmRes S q (2 * n) (dirE (pairs xss)), 0) := by
      unfold wmOf; rw [if_pos hc, Int.toNat_natCast, Int.toNat_natCast, hn]
    refine (implWM_yes S a n c xss q w h hn hg (by omega)).mono fun e w' ⟨a', c', he, ho, hb⟩ => ⟨a', c', ?_, ?_, hb⟩
    · rw [e1, he]; simp only [wmRes_len]
    · rw [e1]; simp only [wmRes_len]; exact ho
  · refine (implWM_no s a n c xss k w h hn hc).mono fun e w' ⟨he, hb⟩ => ⟨none, 0, ?_, ?_, hb⟩
    · rw [he]; simp [wmOf, hc]
    · simp only [wmOf, hc]; exact OwR.nil (World.ownsRow_nil _ _ _ _) (Nat.le_refl _)

end Go.Proofs.Ytgcidkcedfliiaa
