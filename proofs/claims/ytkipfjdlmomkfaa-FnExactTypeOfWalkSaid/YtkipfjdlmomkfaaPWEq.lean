/- PermutationOfWalk, both sides. -/
import Derived.Test.YtkipfjdlmomkfaaSpecPW
set_option linter.unusedSimpArgs false
set_option linter.unusedVariables false
set_option maxRecDepth 100000
namespace Go.Proofs.Ytkipfjdlmomkfaa
open Go.RowKit

def pwOf (s : Int) (xss : List (List Int)) (sh : Int) (ts : List (List Int)) (ws : List Int) : List Int × Int :=
  if pwCode s xss sh ts ws = 0 then ((pathL ts ws ws.length).take sh.toNat, 0) else ([], pwCode s xss sh ts ws)
theorem pwOf_ok {s : Int} {xss : List (List Int)} {sh : Int} {ts : List (List Int)} {ws : List Int} (h : pwCode s xss sh ts ws = 0) : pwOf s xss sh ts ws = ((pathL ts ws ws.length).take sh.toNat, 0) := by unfold pwOf; rw [if_pos h]
theorem pwOf_no {s : Int} {xss : List (List Int)} {sh : Int} {ts : List (List Int)} {ws : List Int} (h : pwCode s xss sh ts ws ≠ 0) : pwOf s xss sh ts ws = ([], pwCode s xss sh ts ws) := by unfold pwOf; rw [if_neg h]

set_option maxHeartbeats 1600000 in
theorem implPW_no {lo hi lo' hi' lo1 hi1 : Nat} (s : Int) (a : Option Addr) (n c : Nat) (xss : List (List Int)) (sh : Int) (ta : Option Addr) (tn tc : Nat) (ts : List (List Int)) (a1 : Option Addr) (n1 c1 : Nat) (ws : List Int) (w : World)
    (h : RdR lo hi w (.slice a n c) xss) (hn : xss.length = n) (h' : RdR lo' hi' w (.slice ta tn tc) ts) (hn' : ts.length = tn) (h1 : RdI lo1 hi1 w (.slice a1 n1 c1) ws) (hl : ws.length = n1) (hc : pwCode s xss sh ts ws ≠ 0) :
    Calls Try.prog 38 #[.agg #[.int .i64 s, .slice a n c, .int .i64 sh, .slice ta tn tc], .slice a1 n1 c1] w fun e w' => e = .returned (.tuple #[.slice none 0 0, .int .i64 (pwCode s xss sh ts ws)]) ∧ Below w.heap.size w w' := by
  have hb0 : ∀ o, Below w.heap.size w (w.alloc o) := fun o => (Below.refl _ _).alloc (Nat.le_refl _) o
  have HCK := Lib.hid (fun W (hB : Below w.heap.size w W) => checkClosedWalk s a n c xss sh ta tn tc ts a1 n1 c1 ws W (h.below hB) hn (h'.below hB) hn' (h1.below hB) hl)
  have hne : (pwCode s xss sh ts ws != 0) = true := by simpa using hc
  generalize pwCode s xss sh ts ws = cd at *
  clear h hn h' hn' h1 hl hc
  go_enter Try.func38, Try.ntmps38
  go_wp2_with fail
  refine calls_gen (fun W => Below w.heap.size w W) (hb0 _) ?_
  intro W hB
  refine (HCK.out W hB).mono ?_
  rintro e w1 ⟨rfl, b1⟩
  replace hB := hB.next b1
  clear b1
  go_wp2
  go_ret2
  exact ⟨rfl, hB⟩

set_option maxHeartbeats 3200000 in
theorem l04Walk_no {lo hi lo' hi' lo1 hi1 : Nat} (s : Int) (a : Option Addr) (n c : Nat) (xss : List (List Int)) (sh : Int) (ta : Option Addr) (tn tc : Nat) (ts : List (List Int)) (a1 : Option Addr) (n1 c1 : Nat) (ws : List Int) (w : World)
    (h : RdR lo hi w (.slice a n c) xss) (hn : xss.length = n) (h' : RdR lo' hi' w (.slice ta tn tc) ts) (hn' : ts.length = tn) (h1 : RdI lo1 hi1 w (.slice a1 n1 c1) ws) (hl : ws.length = n1) (hc : pwCode s xss sh ts ws ≠ 0) :
    Calls Try.prog 67 #[.agg #[.int .i64 s, .slice a n c, .int .i64 sh, .slice ta tn tc], .slice a1 n1 c1] w fun e w' => e = .returned (.tuple #[.slice none 0 0, .int .i64 (pwCode s xss sh ts ws)]) ∧ Below w.heap.size w w' := by
  have hb0 : ∀ o, Below w.heap.size w (w.alloc o) := fun o => (Below.refl _ _).alloc (Nat.le_refl _) o
  obtain ⟨cd, hcd⟩ : ∃ cd, cd = pwCode s xss sh ts ws := ⟨_, rfl⟩
  rw [← hcd] at hc ⊢
  unfold pwCode at hcd
  have hlen1 := h1.1
  rw [hl] at hlen1
  have HL := Lib.hid hl
  have HN := Lib.hid hn
  have HN' := Lib.hid hn'
  have HR := Lib.hid h
  have HR' := Lib.hid h'
  have HW := Lib.hid h1
  have HNE := Lib.hid hc
  clear h h' h1 hl hn hn' hc
  go_enter Try.func67, Try.ntmps67
  go_wp2_with fail
  refine calls_gen (fun W => Below w.heap.size w W ∧ W.cell? ⟨w.heap.size, 0, none⟩ = some (.int .i64 s) ∧ W.cell? ⟨w.heap.size, 1, none⟩ = some (.slice a n c)) ⟨hb0 _, by go_simp, by go_simp⟩ ?_
  rintro W ⟨hB, k0, k1⟩
  refine (l04Is s a n c xss sh ta tn tc ts W (HR.out.below hB) HN.out (HR'.out.below hB) HN'.out).mono ?_
  rintro e w1 ⟨rfl, b1⟩
  replace k0 := b1.keep k0
  replace k1 := b1.keep k1
  replace hB := hB.next b1
  clear b1
  cases hcv : cvB s xss sh ts with
  | false =>
    rw [hcv, if_neg (by simp)] at hcd
    subst hcd
    go_wp2
    go_ret2
    exact ⟨rfl, hB⟩
  | true =>
  rw [hcv, if_pos rfl, HL.out, HN.out] at hcd
  have hgr := (cvB_hd hcv).1
  have hn10 : n ≤ 10 := by have := grB_iff hgr; have := HN.out; omega
  have HGR := Lib.hid hgr
  clear hcv hgr
  by_cases hz : n1 = 0
  case pos =>
    have hcd2 : cd = 2 := by rw [hcd, hz]; rfl
    have hb : ((n1 : Int) == 0) = true := by rw [hz]; rfl
    clear hcd
    subst hcd2
    go_wp2
    go_ret2
    exact ⟨rfl, hB⟩
  have hb : ((n1 : Int) == 0) = false := by simp; omega
  have h0 : 0 < n1 := by omega
  rw [decide_eq_true h0, Bool.true_and] at hcd
  have HCD := Lib.hid hcd
  clear hz hcd
  cases hw : walkB n ws with
  | false =>
    have hcd := HCD.out
    rw [hw, if_neg (by simp)] at hcd
    subst hcd
    have HWB := Lib.hid hw
    clear hw
    go_wp2_with (go_at_call 104; refine (l02Directed s a n c a1 n1 c1 ws _ (HW.out.below hB) HL.out hn10 hlen1).mono ?_; rw [HWB.out]; rintro e w2 ⟨rfl, b2⟩; replace hB := hB.next b2)
    go_ret2
    exact ⟨rfl, hB⟩
  | true =>
    have HWB := Lib.hid hw
    have hc2 : cd = if closedB (dirE (pairs xss)) ws then 0 else 5 := by have := HCD.out; rw [hw, if_pos rfl] at this; exact this
    cases hcl : closedB (dirE (pairs xss)) ws with
    | true => rw [hcl, if_pos rfl] at hc2; exact absurd hc2 HNE.out
    | false =>
      rw [hcl, if_neg (by simp)] at hc2
      have HCL := Lib.hid hcl
      clear hw HCD HNE hcl
      subst hc2
      go_wp2_with (first | (go_at_call 104; refine (l02Directed s a n c a1 n1 c1 ws _ (HW.out.below hB) HL.out hn10 hlen1).mono ?_; rw [HWB.out]; rintro e w2 ⟨rfl, b2⟩; replace hB := hB.next b2; replace k0 := b2.keep k0; replace k1 := b2.keep k1; clear b2) | (go_at_call 105; refine (l02Closed s a n c xss a1 n1 c1 ws _ (HR.out.below hB) HN.out HGR.out (HW.out.below hB) HL.out HWB.out).mono ?_; rw [HCL.out]; rintro e V ⟨rfl, b3⟩; replace hB := hB.next b3))
      go_ret2
      exact ⟨rfl, hB⟩

/-- an answer that is a list and a code -/
def LstA (w : World) (p : List Int × Int) (e : Ending) (w' : World) : Prop :=
  ∃ a' c', e = .returned (.tuple #[.slice a' p.1.length c', .int .i64 p.2]) ∧ OwI w.heap.size w'.heap.size w' (.slice a' p.1.length c') p.1 ∧ Below w.heap.size w w'

theorem l04Walk {lo hi lo' hi' lo1 hi1 : Nat} (s : Int) (a : Option Addr) (n c : Nat) (xss : List (List Int)) (sh : Int) (ta : Option Addr) (tn tc : Nat) (ts : List (List Int)) (a1 : Option Addr) (n1 c1 : Nat) (ws : List Int) (w : World)
    (h : RdR lo hi w (.slice a n c) xss) (hn : xss.length = n) (h' : RdR lo' hi' w (.slice ta tn tc) ts) (hn' : ts.length = tn) (h1 : RdI lo1 hi1 w (.slice a1 n1 c1) ws) (hl : ws.length = n1) :
    Calls Try.prog 67 #[.agg #[.int .i64 s, .slice a n c, .int .i64 sh, .slice ta tn tc], .slice a1 n1 c1] w fun e w' => LstA w (pwOf s xss sh ts ws) e w' := by
  by_cases hc : pwCode s xss sh ts ws = 0
  · rw [pwOf_ok hc]
    obtain ⟨_, _, ⟨hs1, _⟩, _⟩ := cvB_hd (pw_ok hc).1
    obtain ⟨S, rfl⟩ : ∃ S : Nat, sh = S := ⟨sh.toNat, by omega⟩
    exact l04Walk_yes s a n c xss S ta tn tc ts a1 n1 c1 ws w h hn h' hn' h1 hl hc
  · rw [pwOf_no hc]
    exact (l04Walk_no s a n c xss sh ta tn tc ts a1 n1 c1 ws w h hn h' hn' h1 hl hc).mono fun e w' ⟨he, hb⟩ => ⟨none, 0, he, OwI.nil' _ _ _, hb⟩
theorem implPW {lo hi lo' hi' lo1 hi1 : Nat} (s : Int) (a : Option Addr) (n c : Nat) (xss : List (List Int)) (sh : Int) (ta : Option Addr) (tn tc : Nat) (ts : List (List Int)) (a1 : Option Addr) (n1 c1 : Nat) (ws : List Int) (w : World)
    (h : RdR lo hi w (.slice a n c) xss) (hn : xss.length = n) (h' : RdR lo' hi' w (.slice ta tn tc) ts) (hn' : ts.length = tn) (h1 : RdI lo1 hi1 w (.slice a1 n1 c1) ws) (hl : ws.length = n1) :
    Calls Try.prog 38 #[.agg #[.int .i64 s, .slice a n c, .int .i64 sh, .slice ta tn tc], .slice a1 n1 c1] w fun e w' => LstA w (pwOf s xss sh ts ws) e w' := by
  by_cases hc : pwCode s xss sh ts ws = 0
  · rw [pwOf_ok hc]
    obtain ⟨_, _, ⟨hs1, _⟩, _⟩ := cvB_hd (pw_ok hc).1
    obtain ⟨S, rfl⟩ : ∃ S : Nat, sh = S := ⟨sh.toNat, by omega⟩
    exact implPW_yes s a n c xss S ta tn tc ts a1 n1 c1 ws w h hn h' hn' h1 hl hc
  · rw [pwOf_no hc]
    exact (implPW_no s a n c xss sh ta tn tc ts a1 n1 c1 ws w h hn h' hn' h1 hl hc).mono fun e w' ⟨he, hb⟩ => ⟨none, 0, he, OwI.nil' _ _ _, hb⟩

theorem implPWL {lo hi lo' hi' lo1 hi1 : Nat} (s : Int) (a : Option Addr) (n c : Nat) (xss : List (List Int)) (sh : Int) (ta : Option Addr) (tn tc : Nat) (ts : List (List Int)) (a1 : Option Addr) (n1 c1 : Nat) (ws : List Int) (w : World)
    (h : RdR lo hi w (.slice a n c) xss) (hn : xss.length = n) (h' : RdR lo' hi' w (.slice ta tn tc) ts) (hn' : ts.length = tn) (h1 : RdI lo1 hi1 w (.slice a1 n1 c1) ws) (hl : ws.length = n1) :
    Calls Try.prog 38 #[.agg #[.int .i64 s, .slice a n c, .int .i64 sh, .slice ta tn tc], .slice a1 n1 c1] w fun e w' => ∃ a' c', e = .returned (.tuple #[.slice a' (pwOf s xss sh ts ws).1.length c', .int .i64 (pwOf s xss sh ts ws).2]) ∧ OwI w.heap.size w'.heap.size w' (.slice a' (pwOf s xss sh ts ws).1.length c') (pwOf s xss sh ts ws).1 ∧ Below w.heap.size w w' :=
  implPW s a n c xss sh ta tn tc ts a1 n1 c1 ws w h hn h' hn' h1 hl

set_option maxHeartbeats 1600000 in
theorem specPWL {lo hi lo' hi' lo1 hi1 : Nat} (s : Int) (a : Option Addr) (n c : Nat) (xss : List (List Int)) (sh : Int) (ta : Option Addr) (tn tc : Nat) (ts : List (List Int)) (a1 : Option Addr) (n1 c1 : Nat) (ws : List Int) (w : World)
    (h : RdR lo hi w (.slice a n c) xss) (hn : xss.length = n) (h' : RdR lo' hi' w (.slice ta tn tc) ts) (hn' : ts.length = tn) (h1 : RdI lo1 hi1 w (.slice a1 n1 c1) ws) (hl : ws.length = n1) :
    Calls Try.prog 37 #[.agg #[.int .i64 s, .slice a n c, .int .i64 sh, .slice ta tn tc], .slice a1 n1 c1] w fun e w' => ∃ a' c', e = .returned (.tuple #[.slice a' (pwOf s xss sh ts ws).1.length c', .int .i64 (pwOf s xss sh ts ws).2]) ∧ OwI w.heap.size w'.heap.size w' (.slice a' (pwOf s xss sh ts ws).1.length c') (pwOf s xss sh ts ws).1 ∧ Below w.heap.size w w' := by
  have hb0 : ∀ o, Below w.heap.size w (w.alloc o) := fun o => (Below.refl _ _).alloc (Nat.le_refl _) o
  have HCK := Lib.hid (fun W (hB : Below w.heap.size w W) => l04Walk s a n c xss sh ta tn tc ts a1 n1 c1 ws W (h.below hB) hn (h'.below hB) hn' (h1.below hB) hl)
  unfold LstA at HCK
  obtain ⟨p, hp⟩ : ∃ p, p = pwOf s xss sh ts ws := ⟨_, rfl⟩
  rw [← hp] at HCK ⊢
  obtain ⟨p1, p2⟩ := p
  dsimp only at HCK ⊢
  clear h hn h' hn' h1 hl hp
  go_enter Try.func37, Try.ntmps37
  go_wp2_with fail
  refine calls_gen (fun W => Below w.heap.size w W) (hb0 _) ?_
  intro W hB
  refine (HCK.out W hB).mono ?_
  rintro e w1 ⟨a', c', rfl, o1, b1⟩
  have HF := Lib.hid (⟨o1, hB.next b1, hB.size⟩ : _ ∧ _ ∧ _)
  clear o1 b1 hB
  go_wp2
  go_ret2
  exact ⟨a', c', rfl, HF.out.1.mono HF.out.2.2 (Nat.le_refl _), HF.out.2.1⟩

end Go.Proofs.Ytkipfjdlmomkfaa
