/- Merged: WalkL, Wk, Next, SpecWalkL, SpecWk, SpecWk2, Before, SlCmp (the plain kit of these proofs). -/
import Derived.Test.YtnblhkhdilkbeaaCoreA
import Derived.Test.YtnblhkhdilkbeaaCoreB
import Derived.Deep.RegionHeld3
import Derived.StillTailTactics
import Derived.Laws.AppendOwnNone
set_option linter.unusedSimpArgs false
set_option linter.unusedVariables false
/- Lists of directed edges: the program's check. -/
namespace Go.Proofs.Ytnblhkhdilkbeaa
open Go.RowKit

theorem RdI.at {lo hi : Nat} {w : World} {a : Option Addr} {n c : Nat} {xs : List Int} (h : RdI lo hi w (.slice a n c) xs) (hn : xs.length = n) : ∀ j, j < n → ∃ b off, a = some ⟨b, off, none⟩ ∧ w.cell? ⟨b, off + j, none⟩ = some (.int .i64 (xs.getD j 0)) := by
  intro j hj
  obtain ⟨_, _, ⟨a', c', rfl, _⟩ | ⟨b, off, c', hv, _, _, _, hc⟩⟩ := h
  · simp at hn; omega
  · simp only [Value.slice.injEq] at hv
    exact ⟨b, off, hv.1, hc j (by omega)⟩

/-- at most 20 directed edges of a graph of n edges -/
def walkB (n : Nat) (ws : List Int) : Bool := decide (ws.length ≤ 20) && ws.all (fun e => inR e (2 * (n : Int)))
theorem walkB_of {n : Nat} {ws : List Int} (h : walkB n ws = true) : ws.length ≤ 20 ∧ ∀ j, j < ws.length → inR (ws.getD j 0) (2 * (n : Int)) = true := by
  simp only [walkB, Bool.and_eq_true, decide_eq_true_eq, List.all_eq_true] at h
  refine ⟨h.1, fun j hj => ?_⟩
  have e : ws.getD j 0 = ws[j] := by simp [List.getD, List.getElem?_eq_getElem hj]
  rw [e]
  exact h.2 _ (List.getElem_mem hj)
theorem walkB_long {n : Nat} {ws : List Int} (h : ¬ ws.length ≤ 20) : walkB n ws = false := by simp [walkB, h]
theorem walkB_bad {n : Nat} {ws : List Int} {j : Nat} (hj : j < ws.length) (h : inR (ws.getD j 0) (2 * (n : Int)) = false) : walkB n ws = false := by
  by_cases e : walkB n ws = true
  · have := (walkB_of e).2 j hj
    rw [h] at this; cases this
  · simpa using e
theorem walkB_good {n : Nat} {ws : List Int} (hl : ws.length ≤ 20) (h : ∀ j, j < ws.length → inR (ws.getD j 0) (2 * (n : Int)) = true) : walkB n ws = true := by
  simp only [walkB, Bool.and_eq_true, decide_eq_true_eq, List.all_eq_true]
  refine ⟨hl, fun e he => ?_⟩
  obtain ⟨j, hj, rfl⟩ := List.getElem_of_mem he
  have := h j hj
  simpa [List.getD, List.getElem?_eq_getElem hj] using this

end Go.Proofs.Ytnblhkhdilkbeaa

/- Walks without turning back: plain mathematics. -/
namespace Go.Proofs.Ytnblhkhdilkbeaa
open Go.RowKit

/-- a list of at least 1, at most 12 directed edges, each one a straight step behind the one before -/
def wkB (ds : List (Int × Int)) (ws : List Int) : Bool :=
  decide (1 ≤ ws.length) && decide (ws.length ≤ 12) && ((List.range ws.length).all (fun i => decide (0 ≤ ws.getD i 0 ∧ ws.getD i 0 < ds.length)) && (List.range (ws.length - 1)).all (fun i => stepQ ds (ws.getD i 0) (ws.getD (i+1) 0)))
theorem wkB_iff {ds : List (Int × Int)} {ws : List Int} : wkB ds ws = true ↔ 1 ≤ ws.length ∧ ws.length ≤ 12 ∧ (∀ i, i < ws.length → 0 ≤ ws.getD i 0 ∧ ws.getD i 0 < ds.length) ∧ ∀ i, i + 1 < ws.length → stepQ ds (ws.getD i 0) (ws.getD (i+1) 0) = true := by
  unfold wkB
  simp only [Bool.and_eq_true, decide_eq_true_eq, List.all_eq_true, List.mem_range]
  constructor
  · rintro ⟨⟨h1, h2⟩, h3, h4⟩
    exact ⟨h1, h2, h3, fun i hi => h4 i (by omega)⟩
  · rintro ⟨h1, h2, h3, h4⟩
    exact ⟨⟨h1, h2⟩, h3, fun i hi => h4 i (by omega)⟩
theorem wkB_len {ds : List (Int × Int)} {ws : List Int} (h : ¬ (1 ≤ ws.length ∧ ws.length ≤ 12)) : wkB ds ws = false := by
  cases e : wkB ds ws with
  | false => rfl
  | true => exact absurd ⟨(wkB_iff.1 e).1, (wkB_iff.1 e).2.1⟩ h
theorem wkB_out {ds : List (Int × Int)} {ws : List Int} {i : Nat} (hi : i < ws.length) (h : ¬ (0 ≤ ws.getD i 0 ∧ ws.getD i 0 < ds.length)) : wkB ds ws = false := by
  cases e : wkB ds ws with
  | false => rfl
  | true => exact absurd ((wkB_iff.1 e).2.2.1 i hi) h
theorem wkB_gap {ds : List (Int × Int)} {ws : List Int} {i : Nat} (hi : i + 1 < ws.length) (h : stepQ ds (ws.getD i 0) (ws.getD (i+1) 0) = false) : wkB ds ws = false := by
  cases e : wkB ds ws with
  | false => rfl
  | true => have := (wkB_iff.1 e).2.2.2 i hi; rw [h] at this; cases this
theorem stepQ_in {ds : List (Int × Int)} {x y : Int} (h : stepQ ds x y = true) : 0 ≤ x ∧ x < ds.length ∧ 0 ≤ y ∧ y < ds.length := by
  unfold stepQ at h
  simp only [Bool.and_eq_true, decide_eq_true_eq] at h
  exact h.1
/-- the first one is a directed edge, and there is a step each time -/
theorem wkB_good {ds : List (Int × Int)} {ws : List Int} (h1 : 1 ≤ ws.length) (h2 : ws.length ≤ 12) (h3 : 0 ≤ ws.getD 0 0 ∧ ws.getD 0 0 < ds.length) (h4 : ∀ i, i + 1 < ws.length → stepQ ds (ws.getD i 0) (ws.getD (i+1) 0) = true) : wkB ds ws = true := by
  refine wkB_iff.2 ⟨h1, h2, fun i hi => ?_, h4⟩
  cases i with
  | zero => exact h3
  | succ i => have := stepQ_in (h4 i hi); omega
/-- the code of a graph and a list -/
def wcode (s : Int) (xss : List (List Int)) (ws : List Int) : Int :=
  if grB s xss = true then (if wkB (dirE (pairs xss)) ws = true then 0 else 2) else 1
/-- a walk is closed -/
def clB (ds : List (Int × Int)) (ws : List Int) : Bool := stepQ ds (ws.getD (ws.length - 1) 0) (ws.getD 0 0)

/-- the number of the reverse -/
theorem rv_even (m : Nat) (h : m < 10) : rv (2 * (m : Int)) = 2 * (m : Int) + 1 := by
  have : ∀ m : Fin 10, rv (2 * ((m.1 : Nat) : Int)) = 2 * ((m.1 : Nat) : Int) + 1 := by decide
  exact this ⟨m, h⟩
theorem rv_odd (m : Nat) (h : m < 10) : rv (2 * (m : Int) + 1) = 2 * (m : Int) := by
  have : ∀ m : Fin 10, rv (2 * ((m.1 : Nat) : Int) + 1) = 2 * ((m.1 : Nat) : Int) := by decide
  exact this ⟨m, h⟩
theorem rv_is (x : Int) (h0 : 0 ≤ x) (h1 : x < 20) : rv x = x / 2 * 2 + 1 - x % 2 := by
  obtain ⟨m, hm⟩ : ∃ m : Nat, x = 2 * (m : Int) ∨ x = 2 * (m : Int) + 1 := ⟨(x / 2).toNat, by omega⟩
  rcases hm with rfl | rfl
  · rw [rv_even m (by omega)]; omega
  · rw [rv_odd m (by omega)]; omega
theorem rv_half (x y : Int) (h0 : 0 ≤ x) (h1 : x < 20) (hy : 0 ≤ y) : (y = rv x) ↔ (x / 2 = y / 2 ∧ x ≠ y) := by
  rw [rv_is x h0 h1]; omega

/-- the edge matrix -/
def edgeM (ds : List (Int × Int)) : Nat → Nat → Int := fun i j => if stepQ ds i j = true then 1 else 0

end Go.Proofs.Ytnblhkhdilkbeaa

/- Steps of the model. -/
namespace Go.Proofs.Ytnblhkhdilkbeaa
open Go.RowKit

theorem stepQ_at {ds : List (Int × Int)} {x y : Int} (hx : 0 ≤ x ∧ x < ds.length) (hy : 0 ≤ y ∧ y < ds.length) : stepQ ds x y = ((ds.getD x.toNat (0, 0)).2 == (ds.getD y.toNat (0, 0)).1 && y != rv x) := by
  unfold stepQ
  rw [decide_eq_true (by omega), Bool.true_and]

set_option maxRecDepth 100000 in
set_option maxHeartbeats 1600000 in
theorem l03Next {lo hi : Nat} (s : Int) (a : Option Addr) (n c : Nat) (xss : List (List Int)) (w : World) (h : RdR lo hi w (.slice a n c) xss) (hn : xss.length = n) (hg : grB s xss = true) (x y : Int) (hx0 : 0 ≤ x) (hx1 : x < 2 * (n : Int)) (hy0 : 0 ≤ y) (hy1 : y < 2 * (n : Int)) :
    Calls Try.prog 132 #[.agg #[.int .i64 s, .slice a n c], .int .i64 x, .int .i64 y] w fun e w' => e = .returned (.bool (stepQ (dirE (pairs xss)) x y)) ∧ Below w.heap.size w w' := by
  have hn10 : n ≤ 10 := by have := grB_iff hg; omega
  have HE1 := Lib.hid (fun W' (h' : RdR lo hi W' (.slice a n c) xss) => l01Ends s a n c xss W' h' hn hg x hx0 hx1)
  have HE2 := Lib.hid (fun W' (h' : RdR lo hi W' (.slice a n c) xss) => l01Ends s a n c xss W' h' hn hg y hy0 hy1)
  have hdl : (dirE (pairs xss)).length = 2 * n := by rw [dirE_len, pairs_len, hn]
  have hst := stepQ_at (ds := dirE (pairs xss)) (x := x) (y := y) ⟨hx0, by omega⟩ ⟨hy0, by omega⟩
  have hrv := rv_half x y hx0 (by omega) hy0
  generalize dirE (pairs xss) = ds at HE1 HE2 hst hdl ⊢
  obtain ⟨x0, hx0'⟩ : ∃ z, z = (ds.getD x.toNat (0, 0)).1 := ⟨_, rfl⟩
  obtain ⟨x1', hx1'⟩ : ∃ z, z = (ds.getD x.toNat (0, 0)).2 := ⟨_, rfl⟩
  obtain ⟨y0, hy0'⟩ : ∃ z, z = (ds.getD y.toNat (0, 0)).1 := ⟨_, rfl⟩
  obtain ⟨y1', hy1'⟩ : ∃ z, z = (ds.getD y.toNat (0, 0)).2 := ⟨_, rfl⟩
  rw [← hx0', ← hx1'] at HE1
  rw [← hy0', ← hy1'] at HE2
  rw [← hx1', ← hy0'] at hst
  obtain ⟨q, hq⟩ : ∃ q, q = stepQ ds x y := ⟨_, rfl⟩
  rw [← hq] at hst ⊢
  have HST := Lib.hid hst
  have HRV := Lib.hid hrv
  have HR := Lib.hid h
  clear hx0' hx1' hy0' hy1' hq hst hrv hdl h hn hg
  go_enter Try.func132, Try.ntmps132
  go_wp2_with fail
  refine calls_gen (fun W => Below w.heap.size w W ∧ W.cell? ⟨w.heap.size, 0, none⟩ = some (.int .i64 s) ∧ W.cell? ⟨w.heap.size, 1, none⟩ = some (.slice a n c)) ⟨(Below.refl _ _).alloc (Nat.le_refl _) _, by go_simp, by go_simp⟩ ?_
  rintro W ⟨hB, k0, k1⟩
  refine (HE1.out W (HR.out.below hB)).mono ?_
  rintro e w1 ⟨rfl, b1⟩
  replace hB := hB.next b1
  replace k0 := b1.keep k0
  replace k1 := b1.keep k1
  clear b1
  go_wp2_with fail
  refine (HE2.out w1 (HR.out.below hB)).mono ?_
  rintro e w2 ⟨rfl, b2⟩
  replace hB := hB.next b2
  clear b2 k0 k1
  by_cases e1 : x1' = y0
  · have e1b : (x1' == y0) = true := by simpa using e1
    have hst := HST.out
    rw [e1b, Bool.true_and] at hst
    by_cases e2 : x / 2 = y / 2
    · have e2b : (x / 2 == y / 2) = true := by simpa using e2
      have e2c : (x / 2 != y / 2) = false := by simpa using e2
      by_cases e3 : x = y
      · have e3b : (x == y) = true := by simpa using e3
        have hv : q = true := by
          rw [hst]
          have := HRV.out
          simp only [bne_iff_ne, ne_eq]
          omega
        have HV := Lib.hid hv
        clear hst hv e1 e2 e3
        go_wp2
        go_ret
        exact ⟨by rw [HV.out]; rfl, hB⟩
      · have e3b : (x == y) = false := by simpa using e3
        have hv : q = false := by
          rw [hst]
          have := HRV.out.2 ⟨e2, e3⟩
          simp [this]
        have HV := Lib.hid hv
        clear hst hv e1 e2 e3
        go_wp2
        go_ret
        exact ⟨by rw [HV.out]; rfl, hB⟩
    · have e2b : (x / 2 == y / 2) = false := by simpa using e2
      have e2c : (x / 2 != y / 2) = true := by simpa using e2
      have hv : q = true := by
        rw [hst]
        have := HRV.out
        simp only [bne_iff_ne, ne_eq]
        omega
      have HV := Lib.hid hv
      clear hst hv e1 e2
      go_wp2
      go_ret
      exact ⟨by rw [HV.out]; rfl, hB⟩
  · have e1b : (x1' == y0) = false := by simpa using e1
    have hst := HST.out
    rw [e1b, Bool.false_and] at hst
    have HV := Lib.hid hst
    clear hst e1
    go_wp2
    go_ret
    exact ⟨by rw [HV.out]; rfl, hB⟩

end Go.Proofs.Ytnblhkhdilkbeaa

/- Lists of directed edges: the model's check. -/
namespace Go.Proofs.Ytnblhkhdilkbeaa
open Go.RowKit

theorem l01InV (x N : Int) (b : Bool) (h : inR x N = b) (w : World) :
    Calls Try.prog 54 #[.int .i64 x, .int .i64 0, .int .i64 (N - 1)] w fun e w' => e = .returned (.bool b) ∧ Qt w w' := by
  have e1 : inR x N = (decide (0 ≤ x) && decide (x ≤ N - 1)) := by
    unfold inR
    congr 1
    simp; omega
  rw [← h, e1]
  exact l01In x 0 (N - 1) w

theorem walkB_end {n : Nat} {ws : List Int} (h : ∀ j, j < ws.length → inR (ws.getD j 0) (2 * (n : Int)) = true) : walkB n ws = decide ((ws.length : Int) ≤ 20) := by
  by_cases hl : ws.length ≤ 20
  · rw [walkB_good hl h]; symm; exact decide_eq_true (by omega)
  · rw [walkB_long hl]; symm; exact decide_eq_false (by omega)

end Go.Proofs.Ytnblhkhdilkbeaa

/- Walks of the model: is a list a walk; the codes. -/
namespace Go.Proofs.Ytnblhkhdilkbeaa
open Go.RowKit

end Go.Proofs.Ytnblhkhdilkbeaa

/- Walks of the model: codes, closed ones, reversed ones. -/
namespace Go.Proofs.Ytnblhkhdilkbeaa
open Go.RowKit

def isWalkOf (s : Int) (xss : List (List Int)) (ws : List Int) : Bool × Int := if grB s xss = true then (wkB (dirE (pairs xss)) ws, 0) else (false, 1)
def isClosedOf (s : Int) (xss : List (List Int)) (ws : List Int) : Bool × Int := if wcode s xss ws = 0 then (clB (dirE (pairs xss)) ws, 0) else (false, wcode s xss ws)
def revW (ws : List Int) : List Int := (List.range ws.length).map (fun j => rv (ws.getD (ws.length - 1 - j) 0))
def revOf (s : Int) (xss : List (List Int)) (ws : List Int) : List Int × Int := if wcode s xss ws = 0 then (revW ws, 0) else ([], wcode s xss ws)
theorem revW_len (ws : List Int) : (revW ws).length = ws.length := by simp [revW]
theorem wcode_ok {s : Int} {xss : List (List Int)} {ws : List Int} (h : wcode s xss ws = 0) : grB s xss = true ∧ wkB (dirE (pairs xss)) ws = true := by
  unfold wcode at h
  cases hg : grB s xss <;> cases hw : wkB (dirE (pairs xss)) ws <;> simp [hg, hw] at h ⊢

end Go.Proofs.Ytnblhkhdilkbeaa

/- Lexicographic order of lists of one length, by the model. -/
namespace Go.Proofs.Ytnblhkhdilkbeaa
open Go.RowKit

/-- of the m places from k on, the first where they differ says it -/
def bef (xs ys : List Int) : Nat → Nat → Bool
  | 0, _ => false
  | m + 1, k => if xs.getD k 0 = ys.getD k 0 then bef xs ys m (k + 1) else decide (xs.getD k 0 < ys.getD k 0)
/-- turned by so many -/
def turnL (ws : List Int) (k : Nat) : List Int := ws.drop k ++ ws.take k
theorem turnL_len (ws : List Int) (k : Nat) : (turnL ws k).length = ws.length := by simp [turnL]; omega

end Go.Proofs.Ytnblhkhdilkbeaa

/- slices.Compare of two lists of one length. -/
namespace Go.Proofs.Ytnblhkhdilkbeaa
open Go.RowKit

def cmpI (x y : Int) : Int := if x < y then -1 else if y < x then 1 else 0
/-- of the m places from k on, the first where they differ says it -/
def cmpL (xs ys : List Int) : Nat → Nat → Int
  | 0, _ => 0
  | m + 1, k => if xs.getD k 0 = ys.getD k 0 then cmpL xs ys m (k + 1) else cmpI (xs.getD k 0) (ys.getD k 0)
theorem cmpL_bef (xs ys : List Int) (m : Nat) : ∀ k, cmpL xs ys m k < 0 ↔ bef xs ys m k = true := by
  induction m with
  | zero => intro k; simp [cmpL, bef]
  | succ m ih =>
    intro k
    simp only [cmpL, bef]
    by_cases e : xs.getD k 0 = ys.getD k 0
    · rw [if_pos e, if_pos e]; exact ih _
    · rw [if_neg e, if_neg e, decide_eq_true_eq]
      unfold cmpI
      by_cases h1 : xs.getD k 0 < ys.getD k 0
      · rw [if_pos h1]; exact ⟨fun _ => h1, fun _ => by decide⟩
      · rw [if_neg h1, if_pos (by omega)]; exact ⟨fun h => absurd h (by decide), fun h => absurd h h1⟩

theorem isNaN (x : Int) (w : World) :
    Calls Try.prog 145 #[.int .i64 x] w fun e w' => e = .returned (.bool false) ∧ Qt w w' := by
  go_enter Try.func145, Try.ntmps145
  go_wp2
  go_ret
  exact ⟨rfl, Qt.refl _⟩

set_option maxRecDepth 100000 in
set_option maxHeartbeats 1600000 in
theorem cmpCompare (x y : Int) (w : World) :
    Calls Try.prog 126 #[.int .i64 x, .int .i64 y] w fun e w' => e = .returned (.int .i64 (cmpI x y)) ∧ Qt w w' := by
  obtain ⟨P, hP⟩ : ∃ P, P = cmpI x y := ⟨_, rfl⟩
  rw [← hP]
  unfold cmpI at hP
  go_enter Try.func126, Try.ntmps126
  go_wp2_with fail
  refine (isNaN x _).mono ?_
  rintro e w1 ⟨rfl, q1⟩
  go_wp2_with fail
  refine (isNaN y _).mono ?_
  rintro e w2 ⟨rfl, q2⟩
  have HQ := Lib.hid (q1.trans q2)
  clear q1 q2
  by_cases h1 : x < y
  · rw [if_pos h1] at hP
    subst hP
    have d1 : decide (x < y) = true := by simpa using h1
    go_wp2
    go_ret
    exact ⟨rfl, HQ.out⟩
  · rw [if_neg h1] at hP
    have g1 : y ≤ x := by omega
    by_cases h2 : y < x
    · rw [if_pos h2] at hP
      subst hP
      go_wp2
      go_ret
      exact ⟨rfl, HQ.out⟩
    · rw [if_neg h2] at hP
      have g2 : x ≤ y := by omega
      subst hP
      go_wp2
      go_ret
      exact ⟨rfl, HQ.out⟩

set_option maxRecDepth 100000 in
set_option maxHeartbeats 1600000 in
theorem slCompare {lo hi lo1 hi1 : Nat} (a : Option Addr) (n c : Nat) (xs : List Int) (a1 : Option Addr) (c1 : Nat) (ys : List Int) (w : World) (h : RdI lo hi w (.slice a n c) xs) (hl : xs.length = n) (h1 : RdI lo1 hi1 w (.slice a1 n c1) ys) (hl1 : ys.length = n) (hn : n ≤ 1000) :
    Calls Try.prog 86 #[.slice a n c, .slice a1 n c1] w fun e w' => e = .returned (.int .i64 (cmpL xs ys n 0)) ∧ Qt w w' := by
  have HX := Lib.hid (fun W' (h' : RdI lo hi W' (.slice a n c) xs) => h'.at hl)
  have HY := Lib.hid (fun W' (h' : RdI lo1 hi1 W' (.slice a1 n c1) ys) => h'.at hl1)
  have H0 := Lib.hid h
  have H1 := Lib.hid h1
  obtain ⟨R, hR⟩ : ∃ R, R = cmpL xs ys n 0 := ⟨_, rfl⟩
  rw [← hR]
  have HP0 := Lib.hid hR.symm
  clear h h1 hl hl1 hR
  go_enter Try.func86, Try.ntmps86
  go_wp2
  go_loopw [11] (fun y wr => ∃ k m : Nat, k + m = n ∧ y = .int .i64 k ∧ Hid (cmpL xs ys m k = R) ∧ Qt w wr) (fun y _ => n - (intOf y).toNat)
  case atStart => exact ⟨0, n, by omega, rfl, HP0, Qt.refl _⟩
  case round =>
    clear HP0
    obtain ⟨k, m, hkm, rfl, HB, hq⟩ := hrel
    cases m with
    | zero =>
      obtain rfl : k = n := by omega
      have hb : (0 : Int) = R := HB.out
      subst hb
      clear HB
      go_wp2
      go_ret
      exact ⟨rfl, hq⟩
    | succ m =>
      have hks : k < n := by omega
      have hb := HB.out
      obtain ⟨b, off, rfl, g0⟩ := HX.out wr (H0.out.qt hq) k hks
      obtain ⟨b1, off1, rfl, g1⟩ := HY.out wr (H1.out.qt hq) k hks
      simp only [cmpL] at hb
      generalize xs.getD k 0 = x at g0 hb
      generalize ys.getD k 0 = y at g1 hb
      have hi0 : (0 : Int) ≤ (k : Int) := by omega
      have hi1 : (k : Int) < (n : Int) := by omega
      have HKM := Lib.hid hkm
      have HQ := Lib.hid hq
      have hkn : ¬ (n : Int) ≤ (k : Int) := by omega
      by_cases e : x = y
      · rw [if_pos e] at hb
        have HF := Lib.hid hb
        have hcc : cmpI x y = 0 := by subst e; simp [cmpI]
        clear hkm hb HB hq e
        go_wp2_with fail
        refine (cmpCompare x y _).mono ?_
        rw [hcc]
        clear hcc
        rintro e w2 ⟨rfl, q2⟩
        have HQ2 := Lib.hid (HQ.out.trans q2)
        clear q2 g0 g1
        go_wp2
        go_roundw
        case rel => exact ⟨k+1, m, by have := HKM.out; omega, by go_num, HF, HQ2.out⟩
        case measure => simp [intOf]; omega
      · rw [if_neg e] at hb
        have hcn : ¬ cmpI x y = 0 := by
          unfold cmpI
          by_cases h1 : x < y
          · rw [if_pos h1]; decide
          · rw [if_neg h1, if_pos (by omega)]; decide
        have hcc := cmpCompare x y
        generalize cmpI x y = z at hcc hcn hb
        have hcb : (z != 0) = true := by simpa using hcn
        have HCC := Lib.hid hcc
        clear hkm HB hq e hcc hcn
        subst hb
        go_wp2_with fail
        refine (HCC.out _).mono ?_
        rintro e w2 ⟨rfl, q2⟩
        have HQ2 := Lib.hid (HQ.out.trans q2)
        clear q2 g0 g1
        go_wp2
        go_ret
        exact ⟨rfl, HQ2.out⟩

theorem eqNil (ad : Addr) (n cap : Nat) (w : World) : Sem.run Try.prog (binOp BinOp.eql 25 (.slice (some ad) n cap) (.slice none 0 0)) w = .ok (Value.bool false) w := by kernel_rfl

theorem slClone (n cap : Nat) (ad : Addr) (xs : List Int) (w : World) (hn : n ≤ 17592186044416) (hx : xs.length = n)
    (hc : ∀ j u, (xs.map (Value.int .i64))[j]? = some u → w.cell? (ad.add j) = some u) :
    Calls Try.prog 99 #[.slice (some ad) n cap] w fun e w' => ∃ v, e = .returned v ∧ w'.ownsRow w.heap.size 2 1 v n (xs.map (Value.int .i64)) ∧ Below w.heap.size w w' := by
  obtain ⟨i0, hi', z0, z1, z2⟩ := info_parts Try.info2
  have HC := Lib.hid hc
  have HX := Lib.hid hx
  clear hc hx
  have hown : (w.alloc (.cells #[] 2)).ownsRow w.heap.size 2 1 (.slice (some ⟨w.heap.size, 0, none⟩) 0 0) 0 [] := World.ownsRow_lit w #[] 0 (Nat.le_refl _) (by unfold maxLen; omega) rfl
  have hnil := eqNil
  go_enter Try.func99, Try.ntmps99
  go_wp2_with (at_builtin; refine wpList_append_own _ rfl _ _ 25 rfl w.heap.size 2 i0 (.int .i64 0) 1 8 Try.underlying25 hi' z0 z1 z2 rfl (by decide) _ _ _ rfl hown ad n cap (xs.map (Value.int .i64)) rfl ?c0 ?c1 ?c2 ?c3 ?c4 ?c5 ?_)
  case c0 => rw [List.length_map, HX.out]; omega
  case c1 =>
    intro j u hj
    have h1 := HC.out j u hj
    have hb := World.block_lt_of_cell? w _ h1
    exact (World.cell?_of_block (w := w) (Below.heap_alloc w _ _ hb)).trans h1
  case c2 => intro u hu; simp at hu; obtain ⟨x, _, rfl⟩ := hu; rfl
  case c3 => unfold maxLen; omega
  case c4 => omega
  case c5 => simp
  intro v3 w3 hown3 hgr _
  have hb : Below w.heap.size w w3 := ((Below.refl w.heap.size w).alloc (Nat.le_refl _) (.cells #[] 2)).grown hgr (by simp) (fun k hk => by have := (hown.lt k hk).1; omega)
  clear hgr hown
  go_wp2
  go_ret
  exact ⟨_, rfl, hown3, hb⟩

end Go.Proofs.Ytnblhkhdilkbeaa
