/- SignedLaplacian, both sides. -/
import Derived.Test.YtmhnckjcpdnabaaSpSg
set_option linter.unusedSimpArgs false
set_option linter.unusedVariables false
set_option maxRecDepth 100000
namespace Go.Proofs.Ytmhnckjcpdnabaa
open Go.RowKit

def bdF (f : Nat → Nat → Int) (K : Int) : Prop := ∀ i j, -K ≤ f i j ∧ f i j ≤ K
def ad1 (f : Nat → Nat → Int) (i j : Nat) (y : Int) : Nat → Nat → Int := put f i j (f i j + y)
theorem ad1_bd {f : Nat → Nat → Int} {K : Int} (h : bdF f K) (i j : Nat) {y : Int} (hy : -1 ≤ y ∧ y ≤ 1) : bdF (ad1 f i j y) (K + 1) := by
  intro a b
  have h1 := h a b
  have h2 := h i j
  unfold ad1 put
  split <;> omega
theorem up1_ad {f : Nat → Nat → Int} {K : Int} (h : bdF f K) (hK : K ≤ 1000) (i j : Nat) : up1 f i j = ad1 f i j 1 := by
  have h2 := h i j
  unfold up1 ad1
  rw [IntWalk.wrap64_in _ (by omega)]
theorem sb1_ad {f : Nat → Nat → Int} {K : Int} (h : bdF f K) (hK : K ≤ 1000) (i j : Nat) {y : Int} (hy : -1 ≤ y ∧ y ≤ 1) : sb1 f i j y = ad1 f i j (-y) := by
  have h2 := h i j
  unfold sb1 ad1
  rw [IntWalk.wrap64_in _ (by omega)]
  congr 1
def ie (p : Prop) [Decidable p] : Int := if p then 1 else 0
theorem ad1_at (f : Nat → Nat → Int) (a b : Nat) (y : Int) (i j : Nat) : ad1 f a b y i j = f i j + y * ie (i = a ∧ j = b) := by
  unfold ad1 put ie
  by_cases h : i = a ∧ j = b
  · obtain ⟨rfl, rfl⟩ := h
    rw [if_pos ⟨rfl, rfl⟩, if_pos ⟨rfl, rfl⟩]; omega
  · rw [if_neg h, if_neg h]; omega
def sS (es : List (Int × Int)) (ys : List Int) : Nat → Nat → Nat → Int
  | 0, _, _ => 0
  | q + 1, i, j => sS es ys q i j + ys.getD q 0 * (ie (i = (es.getD q (0, 0)).1.toNat ∧ j = (es.getD q (0, 0)).2.toNat) + ie (i = (es.getD q (0, 0)).2.toNat ∧ j = (es.getD q (0, 0)).1.toNat))
def cD (es : List (Int × Int)) : Nat → Nat → Nat → Int
  | 0, _, _ => 0
  | q + 1, i, j => cD es q i j + (ie (i = (es.getD q (0, 0)).1.toNat ∧ j = (es.getD q (0, 0)).1.toNat) + ie (i = (es.getD q (0, 0)).2.toNat ∧ j = (es.getD q (0, 0)).2.toNat))
theorem slS_is {es : List (Int × Int)} {ys : List Int} (hy : ∀ q, -1 ≤ ys.getD q 0 ∧ ys.getD q 0 ≤ 1) : ∀ q, q ≤ 10 → bdF (slS es ys q) (4 * q) ∧ ∀ i j, slS es ys q i j = cD es q i j - sS es ys q i j := by
  intro q
  induction q with
  | zero => intro _; exact ⟨fun i j => by simp [slS, zeros], fun i j => by simp [slS, zeros, cD, sS]⟩
  | succ q ih =>
    intro hq
    obtain ⟨hb, he⟩ := ih (by omega)
    have hyq := hy q
    rw [slS_step]
    simp only [cD, sS]
    generalize (es.getD q (0, 0)).1.toNat = a
    generalize (es.getD q (0, 0)).2.toNat = b
    have e1 := up1_ad hb (by omega) a a
    have b1 := ad1_bd hb a a (y := 1) (by omega)
    have e2 := up1_ad b1 (by omega) b b
    have b2 := ad1_bd b1 b b (y := 1) (by omega)
    have e3 := sb1_ad b2 (by omega) a b hyq
    have b3 := ad1_bd b2 a b (y := -(ys.getD q 0)) (by omega)
    have e4 := sb1_ad b3 (by omega) b a hyq
    have b4 := ad1_bd b3 b a (y := -(ys.getD q 0)) (by omega)
    rw [e1, e2, e3, e4]
    refine ⟨fun i j => by have := b4 i j; omega, fun i j => ?_⟩
    rw [ad1_at, ad1_at, ad1_at, ad1_at, he]
    rw [Int.mul_add, Int.neg_mul, Int.neg_mul]
    generalize ys.getD q 0 * ie (i = a ∧ j = b) = p1
    generalize ys.getD q 0 * ie (i = b ∧ j = a) = p2
    omega
theorem smS_is {es : List (Int × Int)} {ys : List Int} {D : Nat → Nat → Int} (hD : bdF D 20) (hy : ∀ q, -1 ≤ ys.getD q 0 ∧ ys.getD q 0 ≤ 1) : ∀ q, q ≤ 10 → bdF (smS es ys D q) (20 + 2 * q) ∧ ∀ i j, smS es ys D q i j = D i j - sS es ys q i j := by
  intro q
  induction q with
  | zero => intro _; exact ⟨fun i j => by have := hD i j; simp only [smS]; omega, fun i j => by simp [smS, sS]⟩
  | succ q ih =>
    intro hq
    obtain ⟨hb, he⟩ := ih (by omega)
    have hyq := hy q
    rw [smS_step]
    simp only [sS]
    generalize (es.getD q (0, 0)).1.toNat = a
    generalize (es.getD q (0, 0)).2.toNat = b
    have e3 := sb1_ad hb (by omega) a b hyq
    have b3 := ad1_bd hb a b (y := -(ys.getD q 0)) (by omega)
    have e4 := sb1_ad b3 (by omega) b a hyq
    have b4 := ad1_bd b3 b a (y := -(ys.getD q 0)) (by omega)
    rw [e3, e4]
    refine ⟨fun i j => by have := b4 i j; omega, fun i j => ?_⟩
    rw [ad1_at, ad1_at, he]
    rw [Int.mul_add, Int.neg_mul, Int.neg_mul]
    generalize ys.getD q 0 * ie (i = a ∧ j = b) = p1
    generalize ys.getD q 0 * ie (i = b ∧ j = a) = p2
    omega
theorem cD_deg {s : Int} {xss : List (List Int)} (hg : grB s xss = true) (i j : Nat) : ∀ q, q ≤ xss.length → cD (pairs xss) q i j = if i = j then deg (xss.take q) (i : Int) else 0 := by
  intro q
  induction q with
  | zero => intro _; simp [cD, deg]
  | succ q ih =>
    intro hq
    have hg4 := (grB_iff hg).2.2.2 q (by omega)
    simp only [cD]
    rw [ih (by omega), pairs_getD, deg_step (by omega)]
    unfold dg ie one
    generalize (xss.getD q []).getD 0 0 = x at *
    generalize (xss.getD q []).getD 1 0 = y at *
    by_cases e : i = j
    · subst e
      rw [if_pos rfl, if_pos rfl]
      have h1 : (i = x.toNat ∧ i = x.toNat) ↔ (x == (i : Int)) = true := by simp; omega
      have h2 : (i = y.toNat ∧ i = y.toNat) ↔ (y == (i : Int)) = true := by simp; omega
      simp only [h1, h2]
    · rw [if_neg e, if_neg e, if_neg (by omega), if_neg (by omega)]; rfl
theorem sgl_eq {s : Int} {xss : List (List Int)} {ys : List Int} (hd : dblCode s xss ys = 0) : slS (pairs xss) ys xss.length = smS (pairs xss) ys (dgM xss) xss.length := by
  obtain ⟨hg, hyl, hys, _⟩ := dbl_ok hd
  have hg4 := grB_iff hg
  have hy : ∀ q, -1 ≤ ys.getD q 0 ∧ ys.getD q 0 ≤ 1 := by
    intro q
    by_cases h : q < ys.length
    · rcases sgB_iff (hys q h) with e | e <;> rw [e] <;> decide
    · have : ys.getD q 0 = 0 := by simp [List.getD, List.getElem?_eq_none (show ys.length ≤ q by omega)]
      rw [this]; decide
  have hD : bdF (dgM xss) 20 := by
    intro i j
    unfold dgM
    have := deg_bd xss (i : Int)
    split <;> omega
  have h1 := (slS_is (es := pairs xss) hy xss.length hg4.2.2.1).2
  have h2 := (smS_is (es := pairs xss) hD hy xss.length hg4.2.2.1).2
  funext i j
  rw [h1, h2, cD_deg hg i j _ (Nat.le_refl _), List.take_length]
  rfl
/-- the signed Laplacian rows -/
def sglOf (s : Int) (xss : List (List Int)) (ys : List Int) : List (List Int) × Int := if dblCode s xss ys = 0 then (tab s.toNat (smS (pairs xss) ys (dgM xss) xss.length), 0) else ([], dblCode s xss ys)
theorem sglOf_lens (s : Int) (xss : List (List Int)) (ys : List Int) : lens (sglOf s xss ys).1 ≤ 1000 := by
  unfold sglOf
  split
  · rename_i hd
    have h1 := grB_iff (dbl_ok hd).1
    simp only [tab_lens]
    have h2 : s.toNat ≤ 8 := by omega
    exact Nat.le_trans (Nat.mul_le_mul h2 h2) (by decide)
  · simp [lens]
theorem dblCode_I (s : Int) (xss : List (List Int)) (ys : List Int) : 0 ≤ dblCode s xss ys ∧ dblCode s xss ys ≤ 2 := by
  unfold dblCode; split <;> (try split) <;> omega

set_option maxHeartbeats 1600000 in
theorem implSgl {lo hi lo' hi' : Nat} (s : Int) (a : Option Addr) (n c : Nat) (xss : List (List Int)) (aS : Option Addr) (nS cS : Nat) (ys : List Int) (w : World) (h : RdR lo hi w (.slice a n c) xss) (hn : xss.length = n) (hS : RdI lo' hi' w (.slice aS nS cS) ys) (hnS : ys.length = nS) :
    Calls Try.prog 22 #[.agg #[.int .i64 s, .slice a n c], .slice aS nS cS] w fun e w' => ∃ a' c', e = .returned (.tuple #[.slice a' (sglOf s xss ys).1.length c', .int .i64 (sglOf s xss ys).2]) ∧ OwR w.heap.size w'.heap.size w' (.slice a' (sglOf s xss ys).1.length c') (sglOf s xss ys).1 ∧ Below w.heap.size w w' := by
  by_cases hd : dblCode s xss ys = 0
  · have hg4 := grB_iff (dbl_ok hd).1
    obtain ⟨S, rfl⟩ : ∃ S : Nat, s = (S : Int) := ⟨s.toNat, by omega⟩
    have e : sglOf (S : Int) xss ys = (tab S (smS (pairs xss) ys (dgM xss) xss.length), 0) := by unfold sglOf; rw [if_pos hd, Int.toNat_natCast]
    rw [e]
    simp only [tab_len]
    rw [← sgl_eq hd, hn]
    exact implSgl_yes S a n c xss aS nS cS ys w h hn hS hnS hd
  · have e : sglOf s xss ys = ([], dblCode s xss ys) := by unfold sglOf; rw [if_neg hd]
    rw [e]
    have hb0 : ∀ o, Below w.heap.size w (w.alloc o) := fun o => (Below.refl _ _).alloc (Nat.le_refl _) o
    have HI := Lib.hid (fun W (hB : Below w.heap.size w W) => checkSigns s a n c xss aS nS cS ys W (h.below hB) hn (hS.below hB) hnS)
    have hcb : (dblCode s xss ys == 0) = false := by simpa using hd
    have hcb2 : (dblCode s xss ys != 0) = true := by simpa using hd
    generalize dblCode s xss ys = cd at HI hcb hcb2 ⊢
    clear h hn hS hnS hd e
    go_enter Try.func22, Try.ntmps22
    go_wp2_with fail
    refine calls_gen (fun W => Below w.heap.size w W) (hb0 _) ?_
    rintro W hB
    refine (HI.out W hB).mono ?_
    rintro e w1 ⟨rfl, b1⟩
    replace hB := hB.next b1
    clear b1 HI
    go_wp2
    go_ret2
    exact ⟨none, 0, rfl, OwR.nil (World.ownsRow_nil _ _ _ _) (Nat.le_refl _), hB⟩

set_option maxHeartbeats 1600000 in
theorem specSgl {lo hi lo' hi' : Nat} (s : Int) (a : Option Addr) (n c : Nat) (xss : List (List Int)) (aS : Option Addr) (nS cS : Nat) (ys : List Int) (w : World) (h : RdR lo hi w (.slice a n c) xss) (hn : xss.length = n) (hS : RdI lo' hi' w (.slice aS nS cS) ys) (hnS : ys.length = nS) :
    Calls Try.prog 21 #[.agg #[.int .i64 s, .slice a n c], .slice aS nS cS] w fun e w' => ∃ a' c', e = .returned (.tuple #[.slice a' (sglOf s xss ys).1.length c', .int .i64 (sglOf s xss ys).2]) ∧ OwR w.heap.size w'.heap.size w' (.slice a' (sglOf s xss ys).1.length c') (sglOf s xss ys).1 ∧ Below w.heap.size w w' := by
  have hb0 : ∀ o, Below w.heap.size w (w.alloc o) := fun o => (Below.refl _ _).alloc (Nat.le_refl _) o
  have HI := Lib.hid (fun W (hB : Below w.heap.size w W) => l04Signs s a n c xss aS nS cS ys W (h.below hB) hn (hS.below hB) hnS)
  by_cases hd : dblCode s xss ys = 0
  · have hg4 := grB_iff (dbl_ok hd).1
    obtain ⟨S, rfl⟩ : ∃ S : Nat, s = (S : Int) := ⟨s.toNat, by omega⟩
    have e : sglOf (S : Int) xss ys = (tab S (smS (pairs xss) ys (dgM xss) n), 0) := by unfold sglOf; rw [if_pos hd, Int.toNat_natCast, hn]
    rw [e]
    simp only [tab_len]
    rw [hd] at HI
    have HR := Lib.hid (fun W (hB : Below w.heap.size w W) => l10Signed S a n c xss aS nS cS ys W (h.below hB) hn (hS.below hB) hnS hd)
    generalize smS (pairs xss) ys (dgM xss) n = F at HR ⊢
    clear h hn hS hnS hd e hg4
    go_enter Try.func21, Try.ntmps21
    go_wp2_with fail
    refine calls_gen (fun W => Below w.heap.size w W ∧ W.cell? ⟨w.heap.size, 0, none⟩ = some (.int .i64 (S : Int)) ∧ W.cell? ⟨w.heap.size, 1, none⟩ = some (.slice a n c)) ⟨hb0 _, by go_simp, by go_simp⟩ ?_
    rintro W ⟨hB, k0, k1⟩
    refine (HI.out W hB).mono ?_
    rintro e w1 ⟨rfl, b1⟩
    replace hB := hB.next b1
    replace k0 := b1.keep k0
    replace k1 := b1.keep k1
    clear b1 HI
    go_wp2_with fail
    refine (HR.out w1 hB).mono ?_
    rintro e w2 ⟨a2, c2, rfl, o2, b2⟩
    have HF := Lib.hid (⟨o2.mono hB.size (Nat.le_refl _), hB.next b2⟩ : _ ∧ _)
    clear o2 b2 hB k0 k1 HR
    go_wp2
    go_ret2
    exact ⟨a2, c2, rfl, HF.out⟩
  · have e : sglOf s xss ys = ([], dblCode s xss ys) := by unfold sglOf; rw [if_neg hd]
    rw [e]
    have hcb : (dblCode s xss ys == 0) = false := by simpa using hd
    have hcb2 : (dblCode s xss ys != 0) = true := by simpa using hd
    generalize dblCode s xss ys = cd at HI hcb hcb2 ⊢
    clear h hn hS hnS hd e
    go_enter Try.func21, Try.ntmps21
    go_wp2_with fail
    refine calls_gen (fun W => Below w.heap.size w W) (hb0 _) ?_
    rintro W hB
    refine (HI.out W hB).mono ?_
    rintro e w1 ⟨rfl, b1⟩
    replace hB := hB.next b1
    clear b1 HI
    go_wp2
    go_ret2
    exact ⟨none, 0, rfl, OwR.nil (World.ownsRow_nil _ _ _ _) (Nat.le_refl _), hB⟩
end Go.Proofs.Ytmhnckjcpdnabaa
