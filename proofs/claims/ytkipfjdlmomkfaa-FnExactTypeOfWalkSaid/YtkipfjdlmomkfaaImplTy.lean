/- TypeOfWalk of the program. -/
import Derived.Test.YtkipfjdlmomkfaaPWEq
import Derived.Test.YtkipfjdlmomkfaaTypeL
set_option linter.unusedSimpArgs false
set_option linter.unusedVariables false
set_option maxRecDepth 100000
namespace Go.Proofs.Ytkipfjdlmomkfaa
open Go.RowKit

theorem path_in {S : Nat} {ts : List (List Int)} {ws : List Int} (h1 : 1 ≤ S) (h4 : S ≤ 4) (hp : ts.all (permB S) = true) (hw : ∀ j, j < ws.length → 0 ≤ ws.getD j 0 ∧ ws.getD j 0 < 2 * (ts.length : Int)) : ∀ k, k ≤ ws.length → ∀ i, i < S → ∃ A : Nat, (pathL ts ws k).getD i 0 = (A : Int) ∧ A < S
  | 0, _, i, hi => by
    rw [pathL_zero]
    have hi' : i = 0 ∨ i = 1 ∨ i = 2 ∨ i = 3 := by omega
    rcases hi' with rfl | rfl | rfl | rfl
    · exact ⟨0, rfl, hi⟩
    · exact ⟨1, rfl, hi⟩
    · exact ⟨2, rfl, hi⟩
    · exact ⟨3, rfl, hi⟩
  | k+1, h, i, hi => by
    obtain ⟨A, hA, hAS⟩ := path_in h1 h4 hp hw k (by omega) i hi
    obtain ⟨e0, e1⟩ := hw k (by omega)
    have hpl := perms4_len _ (path_perms (by omega) (by omega) hp hw k (by omega))
    rw [pathL_step (by omega), then_get (by omega), hA, Int.toNat_natCast]
    have hq : (ws.getD k 0 / 2).toNat < ts.length := by omega
    unfold alongL
    generalize (ws.getD k 0 / 2).toNat = q at *
    have hpt : permB S (ts.getD q []) = true := List.all_eq_true.1 hp _ (by simp [List.getD, List.getElem?_eq_getElem hq])
    split
    · obtain ⟨j, g1, g2, _⟩ := idx_ok h1 h4 hpt hAS
      exact ⟨j, g1, g2⟩
    · obtain ⟨B, _, g2, g3⟩ := along_get h1 h4 hpt hAS
      exact ⟨B, g3, g2⟩
theorem take_perm : ∀ P ∈ perms4, ∀ S ∈ ([1, 2, 3, 4] : List Nat), (∀ i, i < S → P.getD i 0 < (S : Int)) → permB S (P.take S) = true := by decide +kernel
theorem path_take {S : Nat} {s : Int} {xss : List (List Int)} {ts : List (List Int)} {ws : List Int} (h : pwCode s xss S ts ws = 0) : 1 ≤ S ∧ S ≤ 4 ∧ permB S ((pathL ts ws ws.length).take S) = true ∧ ((pathL ts ws ws.length).take S).length = S := by
  obtain ⟨hcv, hpos, hwb, _⟩ := pw_ok h
  obtain ⟨_, _, ⟨hs1, hs4⟩, htl, hpm⟩ := cvB_hd hcv
  obtain ⟨_, hwin⟩ := walkB_of hwb
  have hin : ∀ j, j < ws.length → 0 ≤ ws.getD j 0 ∧ ws.getD j 0 < 2 * (ts.length : Int) := fun j hj => by
    have := hwin j hj
    unfold inR at this
    rw [← htl] at this
    simp only [Bool.and_eq_true, decide_eq_true_eq] at this
    exact this
  have h1 : 1 ≤ S := by omega
  have h4 : S ≤ 4 := by omega
  have hP := path_perms hs1 hs4 hpm hin ws.length (Nat.le_refl _)
  refine ⟨h1, h4, take_perm _ hP S ?_ (fun i hi => ?_), ?_⟩
  · have hS : S = 1 ∨ S = 2 ∨ S = 3 ∨ S = 4 := by omega
    rcases hS with rfl | rfl | rfl | rfl <;> decide
  · obtain ⟨A, hA, hAS⟩ := path_in h1 h4 hpm hin ws.length (Nat.le_refl _) i hi
    omega
  · have := perms4_len _ hP
    rw [List.length_take]; omega

def tyOf (s : Int) (xss : List (List Int)) (sh : Int) (ts : List (List Int)) (ws : List Int) : List Int × Int :=
  if pwCode s xss sh ts ws = 0 then (typL ((pathL ts ws ws.length).take sh.toNat), 0) else ([], pwCode s xss sh ts ws)

set_option maxHeartbeats 1600000 in
theorem implTyL {lo hi lo' hi' lo1 hi1 : Nat} (s : Int) (a : Option Addr) (n c : Nat) (xss : List (List Int)) (sh : Int) (ta : Option Addr) (tn tc : Nat) (ts : List (List Int)) (a1 : Option Addr) (n1 c1 : Nat) (ws : List Int) (w : World)
    (h : RdR lo hi w (.slice a n c) xss) (hn : xss.length = n) (h' : RdR lo' hi' w (.slice ta tn tc) ts) (hn' : ts.length = tn) (h1 : RdI lo1 hi1 w (.slice a1 n1 c1) ws) (hl : ws.length = n1) :
    Calls Try.prog 32 #[.agg #[.int .i64 s, .slice a n c, .int .i64 sh, .slice ta tn tc], .slice a1 n1 c1] w fun e w' => ∃ a' c', e = .returned (.tuple #[.slice a' (tyOf s xss sh ts ws).1.length c', .int .i64 (tyOf s xss sh ts ws).2]) ∧ OwI w.heap.size w'.heap.size w' (.slice a' (tyOf s xss sh ts ws).1.length c') (tyOf s xss sh ts ws).1 ∧ Below w.heap.size w w' := by
  have hb0 : ∀ o, Below w.heap.size w (w.alloc o) := fun o => (Below.refl _ _).alloc (Nat.le_refl _) o
  have HCK := Lib.hid (fun W (hB : Below w.heap.size w W) => implPWL s a n c xss sh ta tn tc ts a1 n1 c1 ws W (h.below hB) hn (h'.below hB) hn' (h1.below hB) hl)
  by_cases hc : pwCode s xss sh ts ws = 0
  · obtain ⟨_, _, ⟨hs1, _⟩, _⟩ := cvB_hd (pw_ok hc).1
    obtain ⟨S, rfl⟩ : ∃ S : Nat, sh = S := ⟨sh.toNat, by omega⟩
    obtain ⟨g1, g2, g3, g4⟩ := path_take hc
    rw [pwOf_ok hc] at HCK
    have hty : tyOf s xss S ts ws = (typL ((pathL ts ws ws.length).take S), 0) := by unfold tyOf; rw [if_pos hc, Int.toNat_natCast]
    rw [hty]
    rw [Int.toNat_natCast] at HCK
    generalize (pathL ts ws ws.length).take S = P at *
    dsimp only at HCK ⊢
    rw [g4] at HCK
    clear h hn h' hn' h1 hl hc hty
    go_enter Try.func32, Try.ntmps32
    go_wp2_with fail
    refine calls_gen (fun W => Below w.heap.size w W) (hb0 _) ?_
    intro W hB
    refine (HCK.out W hB).mono ?_
    rintro e w1 ⟨a', c', rfl, o1, b1⟩
    replace hB := hB.next b1
    have HO := Lib.hid o1
    clear b1 o1
    go_wp2_with fail
    refine (typeOf a' S c' P w1 HO.out.rd g4 g1 g2 g3).mono ?_
    rintro e w2 ⟨a2, c2, rfl, o2, b2⟩
    have HF := Lib.hid (⟨o2, hB.next b2, hB.size⟩ : _ ∧ _ ∧ _)
    clear o2 b2 hB
    go_wp2
    go_ret2
    exact ⟨a2, c2, rfl, HF.out.1.mono HF.out.2.2 (Nat.le_refl _), HF.out.2.1⟩
  · have hty : tyOf s xss sh ts ws = ([], pwCode s xss sh ts ws) := by unfold tyOf; rw [if_neg hc]
    rw [hty]
    rw [pwOf_no hc] at HCK
    have hne : (pwCode s xss sh ts ws != 0) = true := by simpa using hc
    generalize pwCode s xss sh ts ws = cd at *
    dsimp only [List.length_nil] at HCK ⊢
    clear h hn h' hn' h1 hl hc hty
    go_enter Try.func32, Try.ntmps32
    go_wp2_with fail
    refine calls_gen (fun W => Below w.heap.size w W) (hb0 _) ?_
    intro W hB
    refine (HCK.out W hB).mono ?_
    rintro e w1 ⟨a', c', rfl, o1, b1⟩
    replace hB := hB.next b1
    clear b1 o1
    go_wp2
    go_ret2
    exact ⟨none, 0, rfl, OwI.nil' _ _ _, hB⟩

end Go.Proofs.Ytkipfjdlmomkfaa
