/- A prime, a graph and a number modulo it: the code of both sides. -/
import Derived.Test.YtolipjemabmlkaaPrimeB
import Derived.Test.YtolipjemabmlkaaCoreB
set_option linter.unusedSimpArgs false
set_option linter.unusedVariables false
namespace Go.Proofs.Ytolipjemabmlkaa
open Go.RowKit

def numCode (p s : Int) (xss : List (List Int)) (t : Int) : Int := if grB s xss then (if primeB p then (if inR t p then 0 else 2) else 2) else 1

set_option maxHeartbeats 800000 in
theorem checkResidue {lo hi : Nat} (p s : Int) (a : Option Addr) (n c : Nat) (xss : List (List Int)) (t : Int) (w : World) (h : RdR lo hi w (.slice a n c) xss) (hn : xss.length = n) :
    Calls Try.prog 70 #[.int .i64 p, .agg #[.int .i64 s, .slice a n c], .int .i64 t] w fun e w' => e = .returned (.int .i64 (numCode p s xss t)) ∧ Below w.heap.size w w' := by
  have hb0 : ∀ o, Below w.heap.size w (w.alloc o) := fun o => (Below.refl _ _).alloc (Nat.le_refl _) o
  have HN := Lib.hid hn
  clear hn
  obtain ⟨cd, hcd⟩ : ∃ cd, cd = numCode p s xss t := ⟨_, rfl⟩
  rw [← hcd]
  unfold numCode at hcd
  have HCD := Lib.hid hcd
  clear hcd
  go_enter Try.func70, Try.ntmps70
  go_wp2_with fail
  refine calls_gen (fun W => Below w.heap.size w W) (hb0 _) ?_
  intro W hB
  refine (implIsGraph s a n c xss W (h.below hB) HN.out).mono ?_
  cases hg : grB s xss with
  | false =>
    rintro e w1 ⟨rfl, b1⟩
    replace hB := hB.next b1
    go_wp2
    go_ret
    exact ⟨by rw [HCD.out, hg]; rfl, hB⟩
  | true =>
    rintro e w1 ⟨rfl, b1⟩
    replace hB := hB.next b1
    clear b1
    go_wp2_with fail
    refine (isPrimeUpTo p w1).mono ?_
    cases hp : primeB p with
    | false =>
      rintro e w2 ⟨rfl, q2⟩
      replace hB := hB.qt q2
      go_wp2
      go_ret
      exact ⟨by rw [HCD.out, hg, hp]; rfl, hB⟩
    | true =>
      rintro e w2 ⟨rfl, q2⟩
      replace hB := hB.qt q2
      clear q2
      cases hr : inR t p with
      | false =>
        go_wp2_with fail
        refine (isIndexV t p false hr _).mono ?_
        rintro e w2 ⟨rfl, q2⟩
        replace hB := hB.qt q2
        go_wp2
        go_ret
        exact ⟨by rw [HCD.out, hg, hp, hr]; rfl, hB⟩
      | true =>
        go_wp2_with fail
        refine (isIndexV t p true hr _).mono ?_
        rintro e w2 ⟨rfl, q2⟩
        replace hB := hB.qt q2
        go_wp2
        go_ret
        exact ⟨by rw [HCD.out, hg, hp, hr]; rfl, hB⟩

set_option maxHeartbeats 800000 in
theorem l06Number {lo hi : Nat} (p s : Int) (a : Option Addr) (n c : Nat) (xss : List (List Int)) (t : Int) (w : World) (h : RdR lo hi w (.slice a n c) xss) (hn : xss.length = n) :
    Calls Try.prog 67 #[.int .i64 p, .agg #[.int .i64 s, .slice a n c], .int .i64 t] w fun e w' => e = .returned (.int .i64 (numCode p s xss t)) ∧ Below w.heap.size w w' := by
  have hb0 : ∀ o, Below w.heap.size w (w.alloc o) := fun o => (Below.refl _ _).alloc (Nat.le_refl _) o
  have HN := Lib.hid hn
  clear hn
  obtain ⟨cd, hcd⟩ : ∃ cd, cd = numCode p s xss t := ⟨_, rfl⟩
  rw [← hcd]
  unfold numCode at hcd
  have HCD := Lib.hid hcd
  clear hcd
  go_enter Try.func67, Try.ntmps67
  go_wp2_with fail
  refine calls_gen (fun W => Below w.heap.size w W) (hb0 _) ?_
  intro W hB
  refine (l01Is s a n c xss W (h.below hB) HN.out).mono ?_
  cases hg : grB s xss with
  | false =>
    rintro e w1 ⟨rfl, b1⟩
    replace hB := hB.next b1
    go_wp2
    go_ret
    exact ⟨by rw [HCD.out, hg]; rfl, hB⟩
  | true =>
    rintro e w1 ⟨rfl, b1⟩
    replace hB := hB.next b1
    clear b1
    go_wp2_with fail
    refine (l06Prime p w1).mono ?_
    cases hp : primeB p with
    | false =>
      rintro e w2 ⟨rfl, q2⟩
      replace hB := hB.qt q2
      go_wp2
      go_ret
      exact ⟨by rw [HCD.out, hg, hp]; rfl, hB⟩
    | true =>
      obtain ⟨hp1, hp2⟩ := primeB_hd hp
      have hs1 : wrap64 (p - 1) = p - 1 := IntWalk.wrap64_in _ (by omega)
      have hs2 : IntKind.i64.wrap (p - 1) = p - 1 := IntWalk.i64_in _ (by clear hs1; omega)
      rintro e w2 ⟨rfl, q2⟩
      replace hB := hB.qt q2
      clear q2
      cases hr : inR t p with
      | false =>
        go_wp2_with fail
        refine (l01InV t p false hr _).mono ?_
        rintro e w2 ⟨rfl, q2⟩
        replace hB := hB.qt q2
        go_wp2
        go_ret
        exact ⟨by rw [HCD.out, hg, hp, hr]; rfl, hB⟩
      | true =>
        go_wp2_with fail
        refine (l01InV t p true hr _).mono ?_
        rintro e w2 ⟨rfl, q2⟩
        replace hB := hB.qt q2
        go_wp2
        go_ret
        exact ⟨by rw [HCD.out, hg, hp, hr]; rfl, hB⟩

end Go.Proofs.Ytolipjemabmlkaa
