/- ReciprocalOf, both sides. -/
import Derived.Test.YtolipjemabmlkaaEdF
import Derived.Test.YtolipjemabmlkaaFl
import Derived.Test.YtolipjemabmlkaaBk
import Derived.Test.YtolipjemabmlkaaEdgeMat
set_option linter.unusedSimpArgs false
set_option linter.unusedVariables false
set_option maxRecDepth 100000
namespace Go.Proofs.Ytolipjemabmlkaa
open Go.RowKit

theorem specBkD' {lo hi : Nat} (n : Nat) (A : Nat → Nat → Int) (a : Option Addr) (c : Nat) (w : World) (h : RdR lo hi w (.slice a n c) (tab n A)) (hn : n ≤ 20) (hf : fits A n) :
    Calls Try.prog 59 #[.slice a n c] w fun e w' => ∃ a' c', e = .returned (.slice a' (trim (dkL A n)).length c') ∧ OwI w.heap.size w'.heap.size w' (.slice a' (trim (dkL A n)).length c') (trim (dkL A n)) ∧ Below w.heap.size w w' := by
  have HD := specBk n A a c w h hn
  rw [nowB_dk n A hf] at HD
  exact HD

theorem dirE_end {es : List (Int × Int)} {B : Int} (h : ∀ e ∈ es, 0 ≤ e.1 ∧ e.1 < B ∧ 0 ≤ e.2 ∧ e.2 < B) : ∀ d ∈ dirE es, 0 ≤ d.2 ∧ d.2 < B := fun d hd => by
  unfold dirE at hd
  simp only [List.mem_flatMap, List.mem_cons, List.not_mem_nil, or_false] at hd
  obtain ⟨e, he, h1 | h1⟩ := hd
  · have := h e he; rw [h1]; exact ⟨this.2.2.1, this.2.2.2⟩
  · have := h e he; rw [h1]; exact ⟨this.1, this.2.1⟩
theorem edgeS_fits {s : Int} {xss : List (List Int)} (hg : grB s xss = true) (x : Nat → Int) (hx : ∀ c, (x c).natAbs ≤ 1) : fits (edgeS (dirE (pairs xss)) x) (2 * xss.length) := by
  have hs := grB_iff hg
  have hl : (dirE (pairs xss)).length = 2 * xss.length := by rw [dirE_len, pairs_len]
  have hl20 : (dirE (pairs xss)).length ≤ 20 := by omega
  rw [← hl]
  refine fits_like (edgeS_like hl20 (by omega) (fun i hi => ?_) hx) hl20
  have hm : (dirE (pairs xss)).getD i (0, 0) ∈ dirE (pairs xss) := by
    have : (dirE (pairs xss)).getD i (0, 0) = (dirE (pairs xss))[i] := by simp [List.getD, List.getElem?_eq_getElem hi]
    rw [this]; exact List.getElem_mem hi
  refine dirE_end (B := 8) (fun e he => ?_) _ hm
  simp only [pairs, List.mem_map] at he
  obtain ⟨r, hr, rfl⟩ := he
  have := grB_mem hg r hr
  simp only
  omega
theorem edgeS_one (ds : List (Int × Int)) : edgeS ds (fun _ => 1) = edgeM ds := by funext i j; unfold edgeS; rw [Int.mul_one]
theorem edge_fits {s : Int} {xss : List (List Int)} (hg : grB s xss = true) : fits (edgeM (dirE (pairs xss))) (2 * xss.length) := by
  rw [← edgeS_one]; exact edgeS_fits hg _ (fun _ => by decide)

/-- the reciprocal's numbers -/
def recL (xss : List (List Int)) : List Int := trim (dkL (edgeM (dirE (pairs xss))) (2 * xss.length))
def recOf (s : Int) (xss : List (List Int)) : List Int × Int := if grB s xss = true then (recL xss, 0) else ([], 1)
theorem recOf_no {s : Int} {xss : List (List Int)} (h : grB s xss = false) : recOf s xss = ([], 1) := by unfold recOf; rw [h]; rfl
theorem recOf_yes {s : Int} {xss : List (List Int)} (h : grB s xss = true) : recOf s xss = (recL xss, 0) := by unfold recOf; rw [if_pos h]

set_option maxHeartbeats 1600000 in
theorem implRec {lo hi : Nat} (s : Int) (a : Option Addr) (n c : Nat) (xss : List (List Int)) (w : World) (h : RdR lo hi w (.slice a n c) xss) (hn : xss.length = n) :
    Calls Try.prog 126 #[.agg #[.int .i64 s, .slice a n c]] w fun e w' => ∃ a' c', e = .returned (.tuple #[.slice a' (recOf s xss).1.length c', .int .i64 (recOf s xss).2]) ∧ OwI w.heap.size w'.heap.size w' (.slice a' (recOf s xss).1.length c') (recOf s xss).1 ∧ Below w.heap.size w w' := by
  have hb0 : ∀ o, Below w.heap.size w (w.alloc o) := fun o => (Below.refl _ _).alloc (Nat.le_refl _) o
  have HR := Lib.hid (fun W (hB : Below w.heap.size w W) => implEdgeMat s a n c xss W (h.below hB) hn)
  cases hg : grB s xss with
  | true =>
    have hg4 := grB_iff hg
    have he : edgeMatOf s xss = (tab (2 * xss.length) (edgeM (dirE (pairs xss))), 0) := by unfold edgeMatOf; rw [if_pos hg]
    rw [he] at HR
    rw [recOf_yes hg]
    obtain ⟨N, hN⟩ : ∃ N, N = 2 * xss.length := ⟨_, rfl⟩
    have HX := Lib.hid (show recL xss = trim (dkL (edgeM (dirE (pairs xss))) N) by rw [hN]; rfl)
    have HFT := Lib.hid (show fits (edgeM (dirE (pairs xss))) N by rw [hN]; exact edge_fits hg)
    rw [← hN] at HR
    have hN20 : N ≤ 20 := by omega
    rw [HX.out]
    generalize edgeM (dirE (pairs xss)) = A at HR HFT ⊢
    clear h hn hg hg4 he hN HX
    go_enter Try.func126, Try.ntmps126
    go_wp2_with fail
    refine calls_gen (fun W => Below w.heap.size w W) (hb0 _) ?_
    rintro W hB
    refine (HR.out W hB).mono ?_
    rintro e w1 ⟨a1, c1, rfl, o1, b1⟩
    simp only [tab_len] at o1
    simp only [tab_len]
    have HC1 := Lib.hid (detPoly N A a1 c1 w1 o1.rd hN20 HFT.out)
    have HB := Lib.hid (hB.next b1)
    clear hB o1 b1 HR
    go_wp2_with fail
    refine HC1.out.mono ?_
    rintro e w2 ⟨a2, c2, rfl, o2, b2⟩
    have HF := Lib.hid (⟨OwI.mono o2 HB.out.size (Nat.le_refl _), HB.out.next b2⟩ : _ ∧ _)
    clear o2 b2 HC1
    go_wp2
    go_ret2
    exact ⟨a2, c2, rfl, HF.out⟩
  | false =>
    have hno : edgeMatOf s xss = ([], 1) := by unfold edgeMatOf; rw [hg]; rfl
    rw [hno] at HR
    rw [recOf_no hg]
    clear h hn hg hno
    go_enter Try.func126, Try.ntmps126
    go_wp2_with fail
    refine calls_gen (fun W => Below w.heap.size w W) (hb0 _) ?_
    rintro W hB
    refine (HR.out W hB).mono ?_
    rintro e w1 ⟨a1, c1, rfl, o1, b1⟩
    replace hB := hB.next b1
    clear o1 b1 HR
    go_wp2
    go_ret2
    exact ⟨none, 0, rfl, OwI.nil' _ _ _, hB⟩

set_option maxHeartbeats 1600000 in
theorem l02Recip {lo hi : Nat} (s : Int) (a : Option Addr) (n c : Nat) (xss : List (List Int)) (w : World) (h : RdR lo hi w (.slice a n c) xss) (hn : xss.length = n) (hg : grB s xss = true) :
    Calls Try.prog 83 #[.agg #[.int .i64 s, .slice a n c]] w fun e w' => ∃ a' c', e = .returned (.slice a' (recL xss).length c') ∧ OwI w.heap.size w'.heap.size w' (.slice a' (recL xss).length c') (recL xss) ∧ Below w.heap.size w w' := by
  have hb0 : ∀ o, Below w.heap.size w (w.alloc o) := fun o => (Below.refl _ _).alloc (Nat.le_refl _) o
  have HR := Lib.hid (fun W (hB : Below w.heap.size w W) => l02Matrix s a n c xss W (h.below hB) hn hg)
  have hg4 := grB_iff hg
  obtain ⟨N, hN⟩ : ∃ N, N = 2 * n := ⟨_, rfl⟩
  have HX := Lib.hid (show recL xss = trim (dkL (edgeM (dirE (pairs xss))) N) by rw [hN, ← hn]; rfl)
  have HFT := Lib.hid (show fits (edgeM (dirE (pairs xss))) N by rw [hN, ← hn]; exact edge_fits hg)
  rw [← hN] at HR
  have hN20 : N ≤ 20 := by omega
  rw [HX.out]
  generalize edgeM (dirE (pairs xss)) = A at HR HFT ⊢
  clear h hn hg hg4 hN HX
  go_enter Try.func83, Try.ntmps83
  go_wp2_with fail
  refine calls_gen (fun W => Below w.heap.size w W) (hb0 _) ?_
  rintro W hB
  refine (HR.out W hB).mono ?_
  rintro e w1 ⟨a1, c1, rfl, o1, b1⟩
  have HC1 := Lib.hid (specBkD' N A a1 c1 w1 o1.rd hN20 HFT.out)
  have HB := Lib.hid (hB.next b1)
  clear hB o1 b1 HR
  go_wp2_with fail
  refine HC1.out.mono ?_
  rintro e w2 ⟨a2, c2, rfl, o2, b2⟩
  have HF := Lib.hid (⟨OwI.mono o2 HB.out.size (Nat.le_refl _), HB.out.next b2⟩ : _ ∧ _)
  clear o2 b2 HC1
  go_wp2
  go_ret
  exact ⟨a2, c2, rfl, HF.out⟩

end Go.Proofs.Ytolipjemabmlkaa
