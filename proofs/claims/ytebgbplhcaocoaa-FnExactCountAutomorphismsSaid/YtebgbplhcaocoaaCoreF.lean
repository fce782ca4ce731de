/- Merged: WalkL, Wk, Next, SpecWalkL, SpecWk, SpecWk2, Before, SlCmp (the plain kit of these proofs). -/
import Derived.Test.YtebgbplhcaocoaaCoreA
import Derived.Test.YtebgbplhcaocoaaCoreB
import Derived.Deep.RegionHeld3
import Derived.StillTailTactics
import Derived.Laws.AppendOwnNone
set_option linter.unusedSimpArgs false
set_option linter.unusedVariables false
/- Lists of directed edges: the program's check. -/
namespace Go.Proofs.Ytebgbplhcaocoaa
open Go.RowKit

theorem RdI.at {lo hi : Nat} {w : World} {a : Option Addr} {n c : Nat} {xs : List Int} (h : RdI lo hi w (.slice a n c) xs) (hn : xs.length = n) : ∀ j, j < n → ∃ b off, a = some ⟨b, off, none⟩ ∧ w.cell? ⟨b, off + j, none⟩ = some (.int .i64 (xs.getD j 0)) := by
  intro j hj
  obtain ⟨_, _, ⟨a', c', rfl, _⟩ | ⟨b, off, c', hv, _, _, _, hc⟩⟩ := h
  · simp at hn; omega
  · simp only [Value.slice.injEq] at hv
    exact ⟨b, off, hv.1, hc j (by omega)⟩

/-- at most 20 directed edges of a graph of n edges -/
def walkB (n : Nat) (ws : List Int) : Bool := decide (ws.length ≤ 20) && ws.all (fun e => inR e (2 * (n : Int)))
theorem walkB_of {n : Nat} {ws : List Int} (h : walkB n ws = true) : ws.length ≤ 20 ∧ ∀ j, j < ws.length → inR (ws.getD j 0) (2 * (n : Int)) = true := by
  simp only [walkB, Bool.and_eq_true, decide_eq_true_eq, List.all_eq_true] at h
  refine ⟨h.1, fun j hj => ?_⟩
  have e : ws.getD j 0 = ws[j] := by simp [List.getD, List.getElem?_eq_getElem hj]
  rw [e]
  exact h.2 _ (List.getElem_mem hj)
theorem walkB_long {n : Nat} {ws : List Int} (h : ¬ ws.length ≤ 20) : walkB n ws = false := by simp [walkB, h]
theorem walkB_bad {n : Nat} {ws : List Int} {j : Nat} (hj : j < ws.length) (h : inR (ws.getD j 0) (2 * (n : Int)) = false) : walkB n ws = false := by
  by_cases e : walkB n ws = true
  · have := (walkB_of e).2 j hj
    rw [h] at this; cases this
  · simpa using e
theorem walkB_good {n : Nat} {ws : List Int} (hl : ws.length ≤ 20) (h : ∀ j, j < ws.length → inR (ws.getD j 0) (2 * (n : Int)) = true) : walkB n ws = true := by
  simp only [walkB, Bool.and_eq_true, decide_eq_true_eq, List.all_eq_true]
  refine ⟨hl, fun e he => ?_⟩
  obtain ⟨j, hj, rfl⟩ := List.getElem_of_mem he
  have := h j hj
  simpa [List.getD, List.getElem?_eq_getElem hj] using this

end Go.Proofs.Ytebgbplhcaocoaa

/- Walks without turning back: plain mathematics. -/
namespace Go.Proofs.Ytebgbplhcaocoaa
open Go.RowKit

/-- a list of at least 1, at most 12 directed edges, each one a straight step behind the one before -/
def wkB (ds : List (Int × Int)) (ws : List Int) : Bool :=
  decide (1 ≤ ws.length) && decide (ws.length ≤ 12) && ((List.range ws.length).all (fun i => decide (0 ≤ ws.getD i 0 ∧ ws.getD i 0 < ds.length)) && (List.range (ws.length - 1)).all (fun i => stepQ ds (ws.getD i 0) (ws.getD (i+1) 0)))
theorem wkB_iff {ds : List (Int × Int)} {ws : List Int} : wkB ds ws = true ↔ 1 ≤ ws.length ∧ ws.length ≤ 12 ∧ (∀ i, i < ws.length → 0 ≤ ws.getD i 0 ∧ ws.getD i 0 < ds.length) ∧ ∀ i, i + 1 < ws.length → stepQ ds (ws.getD i 0) (ws.getD (i+1) 0) = true := by
  unfold wkB
  simp only [Bool.and_eq_true, decide_eq_true_eq, List.all_eq_true, List.mem_range]
  constructor
  · rintro ⟨⟨h1, h2⟩, h3, h4⟩
    exact ⟨h1, h2, h3, fun i hi => h4 i (by omega)⟩
  · rintro ⟨h1, h2, h3, h4⟩
    exact ⟨⟨h1, h2⟩, h3, fun i hi => h4 i (by omega)⟩
theorem wkB_len {ds : List (Int × Int)} {ws : List Int} (h : ¬ (1 ≤ ws.length ∧ ws.length ≤ 12)) : wkB ds ws = false := by
  cases e : wkB ds ws with
  | false => rfl
  | true => exact absurd ⟨(wkB_iff.1 e).1, (wkB_iff.1 e).2.1⟩ h
theorem wkB_out {ds : List (Int × Int)} {ws : List Int} {i : Nat} (hi : i < ws.length) (h : ¬ (0 ≤ ws.getD i 0 ∧ ws.getD i 0 < ds.length)) : wkB ds ws = false := by
  cases e : wkB ds ws with
  | false => rfl
  | true => exact absurd ((wkB_iff.1 e).2.2.1 i hi) h
theorem wkB_gap {ds : List (Int × Int)} {ws : List Int} {i : Nat} (hi : i + 1 < ws.length) (h : stepQ ds (ws.getD i 0) (ws.getD (i+1) 0) = false) : wkB ds ws = false := by
  cases e : wkB ds ws with
  | false => rfl
  | true => have := (wkB_iff.1 e).2.2.2 i hi; rw [h] at this; cases this
theorem stepQ_in {ds : List (Int × Int)} {x y : Int} (h : stepQ ds x y = true) : 0 ≤ x ∧ x < ds.length ∧ 0 ≤ y ∧ y < ds.length := by
  unfold stepQ at h
  simp only [Bool.and_eq_true, decide_eq_true_eq] at h
  exact h.1
/-- the first one is a directed edge, and there is a step each time -/
theorem wkB_good {ds : List (Int × Int)} {ws : List Int} (h1 : 1 ≤ ws.length) (h2 : ws.length ≤ 12) (h3 : 0 ≤ ws.getD 0 0 ∧ ws.getD 0 0 < ds.length) (h4 : ∀ i, i + 1 < ws.length → stepQ ds (ws.getD i 0) (ws.getD (i+1) 0) = true) : wkB ds ws = true := by
  refine wkB_iff.2 ⟨h1, h2, fun i hi => ?_, h4⟩
  cases i with
  | zero => exact h3
  | succ i => have := stepQ_in (h4 i hi); omega
/-- the code of a graph and a list -/
def wcode (s : Int) (xss : List (List Int)) (ws : List Int) : Int :=
  if grB s xss = true then (if wkB (dirE (pairs xss)) ws = true then 0 else 2) else 1
/-- a walk is closed -/
def clB (ds : List (Int × Int)) (ws : List Int) : Bool := stepQ ds (ws.getD (ws.length - 1) 0) (ws.getD 0 0)

/-- the number of the reverse -/
theorem rv_even (m : Nat) (h : m < 10) : rv (2 * (m : Int)) = 2 * (m : Int) + 1 := by
  have : ∀ m : Fin 10, rv (2 * ((m.1 : Nat) : Int)) = 2 * ((m.1 : Nat) : Int) + 1 := by decide
  exact this ⟨m, h⟩
theorem rv_odd (m : Nat) (h : m < 10) : rv (2 * (m : Int) + 1) = 2 * (m : Int) := by
  have : ∀ m : Fin 10, rv (2 * ((m.1 : Nat) : Int) + 1) = 2 * ((m.1 : Nat) : Int) := by decide
  exact this ⟨m, h⟩
theorem rv_is (x : Int) (h0 : 0 ≤ x) (h1 : x < 20) : rv x = x / 2 * 2 + 1 - x % 2 := by
  obtain ⟨m, hm⟩ : ∃ m : Nat, x = 2 * (m : Int) ∨ x = 2 * (m : Int) + 1 := ⟨(x / 2).toNat, by omega⟩
  rcases hm with rfl | rfl
  · rw [rv_even m (by omega)]; omega
  · rw [rv_odd m (by omega)]; omega
theorem rv_half (x y : Int) (h0 : 0 ≤ x) (h1 : x < 20) (hy : 0 ≤ y) : (y = rv x) ↔ (x / 2 = y / 2 ∧ x ≠ y) := by
  rw [rv_is x h0 h1]; omega

/-- the edge matrix -/
def edgeM (ds : List (Int × Int)) : Nat → Nat → Int := fun i j => if stepQ ds i j = true then 1 else 0

end Go.Proofs.Ytebgbplhcaocoaa

/- Steps of the model. -/
namespace Go.Proofs.Ytebgbplhcaocoaa
open Go.RowKit

theorem stepQ_at {ds : List (Int × Int)} {x y : Int} (hx : 0 ≤ x ∧ x < ds.length) (hy : 0 ≤ y ∧ y < ds.length) : stepQ ds x y = ((ds.getD x.toNat (0, 0)).2 == (ds.getD y.toNat (0, 0)).1 && y != rv x) := by
  unfold stepQ
  rw [decide_eq_true (by omega), Bool.true_and]

set_option maxRecDepth 100000 in
set_option maxHeartbeats 1600000 in
theorem l03Next {lo hi : Nat} (s : Int) (a : Option Addr) (n c : Nat) (xss : List (List Int)) (w : World) (h : RdR lo hi w (.slice a n c) xss) (hn : xss.length = n) (hg : grB s xss = true) (x y : Int) (hx0 : 0 ≤ x) (hx1 : x < 2 * (n : Int)) (hy0 : 0 ≤ y) (hy1 : y < 2 * (n : Int)) :
    Calls Try.prog 66 #[.agg #[.int .i64 s, .slice a n c], .int .i64 x, .int .i64 y] w fun e w' => e = .returned (.bool (stepQ (dirE (pairs xss)) x y)) ∧ Below w.heap.size w w' := by
  have hn10 : n ≤ 10 := by have := grB_iff hg; omega
  have HE1 := Lib.hid (fun W' (h' : RdR lo hi W' (.slice a n c) xss) => l01Ends s a n c xss W' h' hn hg x hx0 hx1)
  have HE2 := Lib.hid (fun W' (h' : RdR lo hi W' (.slice a n c) xss) => l01Ends s a n c xss W' h' hn hg y hy0 hy1)
  have hdl : (dirE (pairs xss)).length = 2 * n := by rw [dirE_len, pairs_len, hn]
  have hst := stepQ_at (ds := dirE (pairs xss)) (x := x) (y := y) ⟨hx0, by omega⟩ ⟨hy0, by omega⟩
  have hrv := rv_half x y hx0 (by omega) hy0
  generalize dirE (pairs xss) = ds at HE1 HE2 hst hdl ⊢
  obtain ⟨x0, hx0'⟩ : ∃ z, z = (ds.getD x.toNat (0, 0)).1 := ⟨_, rfl⟩
  obtain ⟨x1', hx1'⟩ : ∃ z, z = (ds.getD x.toNat (0, 0)).2 := ⟨_, rfl⟩
  obtain ⟨y0, hy0'⟩ : ∃ z, z = (ds.getD y.toNat (0, 0)).1 := ⟨_, rfl⟩
  obtain ⟨y1', hy1'⟩ : ∃ z, z = (ds.getD y.toNat (0, 0)).2 := ⟨_, rfl⟩
  rw [← hx0', ← hx1'] at HE1
  rw [← hy0', ← hy1'] at HE2
  rw [← hx1', ← hy0'] at hst
  obtain ⟨q, hq⟩ : ∃ q, q = stepQ ds x y := ⟨_, rfl⟩
  rw [← hq] at hst ⊢
  have HST := Lib.hid hst
  have HRV := Lib.hid hrv
  have HR := Lib.hid h
  clear hx0' hx1' hy0' hy1' hq hst hrv hdl h hn hg
  go_enter Try.func66, Try.ntmps66
  go_wp2_with fail
  refine calls_gen (fun W => Below w.heap.size w W ∧ W.cell? ⟨w.heap.size, 0, none⟩ = some (.int .i64 s) ∧ W.cell? ⟨w.heap.size, 1, none⟩ = some (.slice a n c)) ⟨(Below.refl _ _).alloc (Nat.le_refl _) _, by go_simp, by go_simp⟩ ?_
  rintro W ⟨hB, k0, k1⟩
  refine (HE1.out W (HR.out.below hB)).mono ?_
  rintro e w1 ⟨rfl, b1⟩
  replace hB := hB.next b1
  replace k0 := b1.keep k0
  replace k1 := b1.keep k1
  clear b1
  go_wp2_with fail
  refine (HE2.out w1 (HR.out.below hB)).mono ?_
  rintro e w2 ⟨rfl, b2⟩
  replace hB := hB.next b2
  clear b2 k0 k1
  by_cases e1 : x1' = y0
  · have e1b : (x1' == y0) = true := by simpa using e1
    have hst := HST.out
    rw [e1b, Bool.true_and] at hst
    by_cases e2 : x / 2 = y / 2
    · have e2b : (x / 2 == y / 2) = true := by simpa using e2
      have e2c : (x / 2 != y / 2) = false := by simpa using e2
      by_cases e3 : x = y
      · have e3b : (x == y) = true := by simpa using e3
        have hv : q = true := by
          rw [hst]
          have := HRV.out
          simp only [bne_iff_ne, ne_eq]
          omega
        have HV := Lib.hid hv
        clear hst hv e1 e2 e3
        go_wp2
        go_ret
        exact ⟨by rw [HV.out]; rfl, hB⟩
      · have e3b : (x == y) = false := by simpa using e3
        have hv : q = false := by
          rw [hst]
          have := HRV.out.2 ⟨e2, e3⟩
          simp [this]
        have HV := Lib.hid hv
        clear hst hv e1 e2 e3
        go_wp2
        go_ret
        exact ⟨by rw [HV.out]; rfl, hB⟩
    · have e2b : (x / 2 == y / 2) = false := by simpa using e2
      have e2c : (x / 2 != y / 2) = true := by simpa using e2
      have hv : q = true := by
        rw [hst]
        have := HRV.out
        simp only [bne_iff_ne, ne_eq]
        omega
      have HV := Lib.hid hv
      clear hst hv e1 e2
      go_wp2
      go_ret
      exact ⟨by rw [HV.out]; rfl, hB⟩
  · have e1b : (x1' == y0) = false := by simpa using e1
    have hst := HST.out
    rw [e1b, Bool.false_and] at hst
    have HV := Lib.hid hst
    clear hst e1
    go_wp2
    go_ret
    exact ⟨by rw [HV.out]; rfl, hB⟩

end Go.Proofs.Ytebgbplhcaocoaa

/- Lists of directed edges: the model's check. -/
namespace Go.Proofs.Ytebgbplhcaocoaa
open Go.RowKit

theorem l01InV (x N : Int) (b : Bool) (h : inR x N = b) (w : World) :
    Calls Try.prog 65 #[.int .i64 x, .int .i64 0, .int .i64 (N - 1)] w fun e w' => e = .returned (.bool b) ∧ Qt w w' := by
  have e1 : inR x N = (decide (0 ≤ x) && decide (x ≤ N - 1)) := by
    unfold inR
    congr 1
    simp; omega
  rw [← h, e1]
  exact l01In x 0 (N - 1) w

theorem walkB_end {n : Nat} {ws : List Int} (h : ∀ j, j < ws.length → inR (ws.getD j 0) (2 * (n : Int)) = true) : walkB n ws = decide ((ws.length : Int) ≤ 20) := by
  by_cases hl : ws.length ≤ 20
  · rw [walkB_good hl h]; symm; exact decide_eq_true (by omega)
  · rw [walkB_long hl]; symm; exact decide_eq_false (by omega)

end Go.Proofs.Ytebgbplhcaocoaa

/- Walks of the model: is a list a walk; the codes. -/
namespace Go.Proofs.Ytebgbplhcaocoaa
open Go.RowKit

set_option maxRecDepth 100000 in
set_option maxHeartbeats 6400000 in
theorem l03Is {lo hi lo1 hi1 : Nat} (s : Int) (a : Option Addr) (n c : Nat) (xss : List (List Int)) (a1 : Option Addr) (n1 c1 : Nat) (ws : List Int) (w : World) (h : RdR lo hi w (.slice a n c) xss) (hn : xss.length = n) (hg : grB s xss = true) (h1 : RdI lo1 hi1 w (.slice a1 n1 c1) ws) (hl : ws.length = n1) :
    Calls Try.prog 161 #[.agg #[.int .i64 s, .slice a n c], .slice a1 n1 c1] w fun e w' => e = .returned (.bool (wkB (dirE (pairs xss)) ws)) ∧ Below w.heap.size w w' := by
  have hb1 : n1 ≤ 17592186044416 := by rw [← hl]; exact h1.1
  have hn10 : n ≤ 10 := by have := grB_iff hg; omega
  have HL := Lib.hid hl
  have HC := Lib.hid (h1.at hl)
  have HR := Lib.hid h
  have HNX := Lib.hid (fun W' (h' : RdR lo hi W' (.slice a n c) xss) x y i0 i1 j0 j1 => l03Next s a n c xss W' h' hn hg x y i0 i1 j0 j1)
  obtain ⟨ds, hds⟩ : ∃ ds, ds = dirE (pairs xss) := ⟨_, rfl⟩
  have HDL := Lib.hid (show ds.length = 2 * n by rw [hds, dirE_len, pairs_len, hn])
  rw [← hds] at HNX ⊢
  clear hl h1 h hn hg hds
  by_cases hlen : 1 ≤ n1 ∧ n1 ≤ 12
  · obtain ⟨hz1, hz2⟩ := hlen
    have hm2 : IntKind.i64.wrap (2 * (n : Int)) = 2 * (n : Int) := IntWalk.i64_in _ (by omega)
    have hm2' : wrap64 (2 * (n : Int)) = 2 * (n : Int) := IntWalk.wrap64_in _ (by omega)
    go_enter Try.func161, Try.ntmps161
    go_wp2
    have hB0 := (Below.refl w.heap.size w).alloc (Nat.le_refl _) (.cells #[.int .i64 s, .slice a n c] 28)
    have k0 : (w.alloc (.cells #[.int .i64 s, .slice a n c] 28)).cell? ⟨w.heap.size, 0, none⟩ = some (.int .i64 s) := by go_simp
    have k1 : (w.alloc (.cells #[.int .i64 s, .slice a n c] 28)).cell? ⟨w.heap.size, 1, none⟩ = some (.slice a n c) := by go_simp
    obtain ⟨B, hBB⟩ : ∃ B, B = w.heap.size := ⟨_, rfl⟩
    have HF := Lib.hid (⟨k0, k1, hB0⟩ : _ ∧ _ ∧ _)
    rw [← hBB] at k0 k1 ⊢
    have HB := Lib.hid hBB
    clear k0 k1 hB0 hBB
    go_loopw [5] (fun i wr => ∃ q : Nat, q ≤ n1 ∧ i = .int .i64 q ∧ Hid (∀ j, j < q → 0 ≤ ws.getD j 0 ∧ ws.getD j 0 < 2 * (n : Int)) ∧ wr.cell? ⟨B, 0, none⟩ = some (.int .i64 s) ∧ wr.cell? ⟨B, 1, none⟩ = some (.slice a n c) ∧ Below w.heap.size w wr) (fun i _ => n1 - (intOf i).toNat)
    case atStart => exact ⟨0, Nat.zero_le _, rfl, Lib.hid (fun j hj => by omega), by rw [HB.out]; exact HF.out.1, by rw [HB.out]; exact HF.out.2.1, HF.out.2.2⟩
    case round =>
      obtain ⟨q, hq, rfl, HG, k0, k1, hB⟩ := hrel
      by_cases hlq : q < n1
      · obtain ⟨b, off, rfl, g0⟩ := HC.out q hlq
        replace g0 := hB.keep g0
        obtain ⟨x, hx⟩ : ∃ x, x = ws.getD q 0 := ⟨_, rfl⟩
        rw [← hx] at g0
        have HX := Lib.hid hx
        clear hx
        have hsub : IntKind.i64.wrap (2 * (n : Int) - 1) = 2 * (n : Int) - 1 := IntWalk.i64_in _ (by omega)
        have hsub' : wrap64 (2 * (n : Int) - 1) = 2 * (n : Int) - 1 := IntWalk.wrap64_in _ (by omega)
        cases hr : inR x (2 * (n : Int)) with
        | true =>
          have HR' := Lib.hid hr
          have hrr : 0 ≤ x ∧ x < 2 * (n : Int) := by unfold inR at hr; simpa using hr
          have hall : Hid (∀ j, j < q + 1 → 0 ≤ ws.getD j 0 ∧ ws.getD j 0 < 2 * (n : Int)) := Lib.hid (fun j hj => by
            by_cases e : j < q
            · exact HG.out j e
            · obtain rfl : j = q := by omega
              rw [← HX.out]; exact hrr)
          clear hr hrr
          go_wp2
          go_quiet ((go_at_call 65; exact Calls.quiet_of (l01InV _ _ true HR'.out _)))
          go_wp2
          go_roundw
          case rel => exact ⟨q+1, by omega, by go_num, hall, by go_simp, by go_simp, hB.drewN _⟩
          case measure => simp [intOf]; omega
        | false =>
          have HR' := Lib.hid hr
          have hrr : ¬ (0 ≤ x ∧ x < 2 * (n : Int)) := by unfold inR at hr; simpa using hr
          have hwb := wkB_out (ds := ds) (ws := ws) (i := q) (by rw [HL.out]; exact hlq) (by rw [← HX.out, HDL.out]; exact hrr)
          have HW := Lib.hid hwb
          clear hr hrr hwb
          go_wp2
          go_quiet ((go_at_call 65; exact Calls.quiet_of (l01InV _ _ false HR'.out _)))
          go_wp2
          go_ret
          exact ⟨by rw [HW.out]; rfl, hB.drewN _⟩
      · obtain rfl : q = n1 := by omega
        clear HF
        have HKK := Lib.hid (⟨k0, k1, hB⟩ : _ ∧ _ ∧ _)
        have HB := Lib.hid HB.out
        have hsz := wr.heap.size
        go_wp2
        go_loopw [6] (fun i wr' => ∃ p : Nat, p + 1 ≤ q ∧ i = .int .i64 ((p + 1 : Nat) : Int) ∧ Hid (∀ j, j < p → stepQ ds (ws.getD j 0) (ws.getD (j+1) 0) = true) ∧ wr'.cell? ⟨B, 0, none⟩ = some (.int .i64 s) ∧ wr'.cell? ⟨B, 1, none⟩ = some (.slice a n c) ∧ Below w.heap.size w wr') (fun i _ => q + 1 - (intOf i).toNat)
        case atStart => exact ⟨0, by omega, rfl, Lib.hid (fun j hj => by omega), HKK.out⟩
        case round =>
          rename_i hrel
          obtain ⟨p, hp, rfl, HP, k0, k1, hB⟩ := hrel
          clear HKK
          by_cases hlp : p + 1 < q
          · obtain ⟨b, off, rfl, g0⟩ := HC.out p (by omega)
            obtain ⟨b', off', hbb, g1⟩ := HC.out (p+1) hlp
            obtain ⟨rfl, rfl⟩ : b' = b ∧ off' = off := by simp at hbb; exact ⟨hbb.1.symm, hbb.2.symm⟩
            replace g0 := hB.keep g0
            replace g1 := hB.keep g1
            obtain ⟨ix0, ix1⟩ := HG.out p (by omega)
            obtain ⟨iy0, iy1⟩ := HG.out (p+1) hlp
            obtain ⟨x, hx⟩ : ∃ x, x = ws.getD p 0 := ⟨_, rfl⟩
            obtain ⟨y, hy⟩ : ∃ y, y = ws.getD (p+1) 0 := ⟨_, rfl⟩
            rw [← hx] at g0 ix0 ix1
            rw [← hy] at g1 iy0 iy1
            obtain ⟨v, hv⟩ : ∃ v, v = stepQ ds x y := ⟨_, rfl⟩
            have HN1 : Hid (∀ W', RdR lo hi W' (.slice a n c) xss → Calls Try.prog 66 #[.agg #[.int .i64 s, .slice a n c], .int .i64 x, .int .i64 y] W' fun e w' => e = .returned (.bool v) ∧ Below W'.heap.size W' w') := Lib.hid (fun W' h' => by rw [hv]; exact HNX.out W' h' x y ix0 ix1 iy0 iy1)
            have HV := Lib.hid (show v = stepQ ds (ws.getD p 0) (ws.getD (p+1) 0) by rw [hv, hx, hy])
            clear hx hy hv ix0 ix1 iy0 iy1 hbb
            have hs1 : wrap64 ((p : Int) + 1 - 1) = (p : Int) := by rw [Int.add_sub_cancel]; exact IntWalk.wrap64_in _ (by omega)
            have hs2 : IntKind.i64.wrap ((p : Int) + 1 - 1) = (p : Int) := by rw [Int.add_sub_cancel]; exact IntWalk.i64_in _ (by omega)
            have hs3 : ((p : Int) + 1).toNat = p + 1 := by omega
            have hs4 : IntKind.i64.wrap (p : Int) = (p : Int) := IntWalk.i64_in _ (by omega)
            have hs5 : wrap64 (p : Int) = (p : Int) := IntWalk.wrap64_in _ (by omega)
            have hi0 : (0 : Int) ≤ (p : Int) := by omega
            have hi1 : (p : Int) < (q : Int) := by omega
            have hi2 : (0 : Int) ≤ (p : Int) + 1 := by omega
            have hi3 : (p : Int) + 1 < (q : Int) := by omega
            go_wp2
            go_region_held3 (fun W' => Below wr.heap.size wr W' ∧ W'.cell? ⟨B, 0, none⟩ = some (.int .i64 s) ∧ W'.cell? ⟨B, 1, none⟩ = some (.slice a n c) ∧ W'.cell? ⟨b', off' + p, none⟩ = some (.int .i64 x) ∧ W'.cell? ⟨b', off' + (p + 1), none⟩ = some (.int .i64 y))
              (first | (exact ⟨(Below.refl _ _).drew, k0, k1, g0, g1⟩) | (go_split_ands; exact ⟨Below.next (by assumption) b5, b5.keep (by assumption), b5.keep (by assumption), b5.keep (by assumption), b5.keep (by assumption)⟩))
              (first | (go_at_call 66; go_split_ands; refine (HN1.out _ (HR.out.below (hB.next (by assumption)))).mono ?_; rintro e w5 ⟨rfl, b5⟩))
            go_split_ands
            have bS : Below wr.heap.size wr w5 := by assumption
            clear b5
            replace k0 := bS.keep k0
            replace k1 := bS.keep k1
            replace hB := hB.next bS
            clear bS g0 g1
            cases v with
            | true =>
              have hall : Hid (∀ j, j < p + 1 → stepQ ds (ws.getD j 0) (ws.getD (j+1) 0) = true) := Lib.hid (fun j hj => by
                by_cases e : j < p
                · exact HP.out j e
                · obtain rfl : j = p := by omega
                  exact HV.out.symm)
              go_wp2
              go_roundw
              case rel => exact ⟨p+1, by omega, by go_num, hall, k0, k1, hB⟩
              case measure => simp [intOf]; omega
            | false =>
              have hwb := wkB_gap (ds := ds) (ws := ws) (i := p) (by rw [HL.out]; exact hlp) HV.out.symm
              have HW := Lib.hid hwb
              clear hwb
              go_wp2
              go_ret
              exact ⟨by rw [HW.out]; rfl, hB⟩
          · obtain rfl : q = p + 1 := by omega
            have hwb := wkB_good (ds := ds) (ws := ws) (by rw [HL.out]; omega) (by rw [HL.out]; exact hz2) (by have := HG.out 0 (by omega); have := HDL.out; omega) (fun j hj => HP.out j (by rw [HL.out] at hj; omega))
            have HW := Lib.hid hwb
            clear hwb
            go_wp2
            go_ret
            exact ⟨by rw [HW.out]; rfl, hB⟩
  · have hwb := wkB_len (ds := ds) (ws := ws) (by rw [HL.out]; exact hlen)
    have HW := Lib.hid hwb
    clear hwb
    by_cases hz : n1 < 1
    · obtain rfl : n1 = 0 := by omega
      go_enter Try.func161, Try.ntmps161
      go_wp2
      go_ret
      exact ⟨by rw [HW.out]; rfl, (Below.refl _ _).alloc (Nat.le_refl _) _⟩
    · have hz1 : 1 ≤ n1 := by omega
      have hz2 : 12 < n1 := by omega
      go_enter Try.func161, Try.ntmps161
      go_wp2
      go_ret
      exact ⟨by rw [HW.out]; rfl, (Below.refl _ _).alloc (Nat.le_refl _) _⟩

end Go.Proofs.Ytebgbplhcaocoaa

/- Walks of the model: codes, closed ones, reversed ones. -/
namespace Go.Proofs.Ytebgbplhcaocoaa
open Go.RowKit

def isWalkOf (s : Int) (xss : List (List Int)) (ws : List Int) : Bool × Int := if grB s xss = true then (wkB (dirE (pairs xss)) ws, 0) else (false, 1)
def isClosedOf (s : Int) (xss : List (List Int)) (ws : List Int) : Bool × Int := if wcode s xss ws = 0 then (clB (dirE (pairs xss)) ws, 0) else (false, wcode s xss ws)
def revW (ws : List Int) : List Int := (List.range ws.length).map (fun j => rv (ws.getD (ws.length - 1 - j) 0))
def revOf (s : Int) (xss : List (List Int)) (ws : List Int) : List Int × Int := if wcode s xss ws = 0 then (revW ws, 0) else ([], wcode s xss ws)
theorem revW_len (ws : List Int) : (revW ws).length = ws.length := by simp [revW]
theorem wcode_ok {s : Int} {xss : List (List Int)} {ws : List Int} (h : wcode s xss ws = 0) : grB s xss = true ∧ wkB (dirE (pairs xss)) ws = true := by
  unfold wcode at h
  cases hg : grB s xss <;> cases hw : wkB (dirE (pairs xss)) ws <;> simp [hg, hw] at h ⊢

set_option maxRecDepth 100000 in
set_option maxHeartbeats 1600000 in
theorem l03Code {lo hi lo1 hi1 : Nat} (s : Int) (a : Option Addr) (n c : Nat) (xss : List (List Int)) (a1 : Option Addr) (n1 c1 : Nat) (ws : List Int) (w : World) (h : RdR lo hi w (.slice a n c) xss) (hn : xss.length = n) (h1 : RdI lo1 hi1 w (.slice a1 n1 c1) ws) (hl : ws.length = n1) :
    Calls Try.prog 111 #[.agg #[.int .i64 s, .slice a n c], .slice a1 n1 c1] w fun e w' => e = .returned (.int .i64 (wcode s xss ws)) ∧ Below w.heap.size w w' := by
  have HIS := Lib.hid (fun W' (h' : RdR lo hi W' (.slice a n c) xss) (h1' : RdI lo1 hi1 W' (.slice a1 n1 c1) ws) hg => l03Is s a n c xss a1 n1 c1 ws W' h' hn hg h1' hl)
  have HI := Lib.hid (fun W' (h : RdR lo hi W' (.slice a n c) xss) => l01Is s a n c xss W' h hn)
  have HR := Lib.hid h
  have H1 := Lib.hid h1
  obtain ⟨P, hP⟩ : ∃ P, P = wcode s xss ws := ⟨_, rfl⟩
  rw [← hP]
  unfold wcode at hP
  clear hn hl h h1
  go_enter Try.func111, Try.ntmps111
  go_wp2_with fail
  refine calls_gen (fun W => Below w.heap.size w W ∧ W.cell? ⟨w.heap.size, 0, none⟩ = some (.int .i64 s) ∧ W.cell? ⟨w.heap.size, 1, none⟩ = some (.slice a n c)) ⟨(Below.refl _ _).alloc (Nat.le_refl _) _, by go_simp, by go_simp⟩ ?_
  rintro W ⟨hB, k0, k1⟩
  refine (HI.out W (HR.out.below hB)).mono ?_
  cases hg : grB s xss with
  | false =>
    rw [hg, if_neg (by simp)] at hP
    rintro e w1 ⟨rfl, b1⟩
    replace hB := hB.next b1
    clear k0 k1 b1
    subst hP
    go_wp2
    go_ret
    exact ⟨rfl, hB⟩
  | true =>
    rw [hg, if_pos rfl] at hP
    have HG := Lib.hid hg
    have HPP := Lib.hid hP
    clear hg hP
    rintro e w1 ⟨rfl, b1⟩
    replace hB := hB.next b1
    replace k0 := b1.keep k0
    replace k1 := b1.keep k1
    clear b1
    go_wp2_with fail
    refine (HIS.out w1 (HR.out.below hB) (H1.out.below hB) HG.out).mono ?_
    have hP := HPP.out
    clear HPP
    cases hw : wkB (dirE (pairs xss)) ws with
    | false =>
      rw [hw, if_neg (by simp)] at hP
      rintro e w2 ⟨rfl, b2⟩
      replace hB := hB.next b2
      clear k0 k1 b2
      subst hP
      go_wp2
      go_ret
      exact ⟨rfl, hB⟩
    | true =>
      rw [hw, if_pos rfl] at hP
      rintro e w2 ⟨rfl, b2⟩
      replace hB := hB.next b2
      clear k0 k1 b2
      subst hP
      go_wp2
      go_ret
      exact ⟨rfl, hB⟩

set_option maxRecDepth 100000 in
set_option maxHeartbeats 1600000 in
theorem l03Closed {lo hi lo1 hi1 : Nat} (s : Int) (a : Option Addr) (n c : Nat) (xss : List (List Int)) (a1 : Option Addr) (n1 c1 : Nat) (ws : List Int) (w : World) (h : RdR lo hi w (.slice a n c) xss) (hn : xss.length = n) (hg : grB s xss = true) (h1 : RdI lo1 hi1 w (.slice a1 n1 c1) ws) (hl : ws.length = n1) (hw : wkB (dirE (pairs xss)) ws = true) :
    Calls Try.prog 112 #[.agg #[.int .i64 s, .slice a n c], .slice a1 n1 c1] w fun e w' => e = .returned (.bool (clB (dirE (pairs xss)) ws)) ∧ Below w.heap.size w w' := by
  have hdl : (dirE (pairs xss)).length = 2 * n := by rw [dirE_len, pairs_len, hn]
  obtain ⟨hz1, hz2, hin, _⟩ := wkB_iff.1 hw
  rw [hl] at hz1 hz2 hin
  have hin0 := hin 0 (by omega)
  have hinl := hin (n1 - 1) (by omega)
  rw [hdl] at hin0 hinl
  unfold clB
  rw [hl]
  obtain ⟨b, off, rfl, g0⟩ := (h1.at hl) (n1 - 1) (by omega)
  obtain ⟨b', off', hbb, g1⟩ := (h1.at hl) 0 (by omega)
  obtain ⟨rfl, rfl⟩ : b' = b ∧ off' = off := by simp at hbb; exact ⟨hbb.1.symm, hbb.2.symm⟩
  generalize ws.getD (n1 - 1) 0 = x at g0 hinl ⊢
  generalize ws.getD 0 0 = y at g1 hin0 ⊢
  have HN1 := Lib.hid (fun W' (h' : RdR lo hi W' (.slice a n c) xss) => l03Next s a n c xss W' h' hn hg x y hinl.1 (by omega) hin0.1 (by omega))
  have HR := Lib.hid h
  generalize stepQ (dirE (pairs xss)) x y = v at HN1 ⊢
  clear hin hin0 hinl hbb hw hl h1 h hn hg hdl
  have hs1 : wrap64 ((n1 : Int) - 1) = (n1 : Int) - 1 := IntWalk.wrap64_in _ (by omega)
  have hs2 : IntKind.i64.wrap ((n1 : Int) - 1) = (n1 : Int) - 1 := IntWalk.i64_in _ (by omega)
  have hs3 : ((n1 : Int) - 1).toNat = n1 - 1 := by omega
  have hi0 : (0 : Int) ≤ (n1 : Int) - 1 := by omega
  have hi1 : (n1 : Int) - 1 < (n1 : Int) := by omega
  have hi2 : (0 : Int) < (n1 : Int) := by omega
  have hi3 : (1 : Int) ≤ (n1 : Int) := by omega
  have hi4 : 0 < n1 := by omega
  rw [Nat.add_zero] at g1
  go_enter Try.func112, Try.ntmps112
  go_wp2
  have hB := (Below.refl w.heap.size w).alloc (Nat.le_refl _) (.cells #[.int .i64 s, .slice a n c] 28)
  have k0 : (w.alloc (.cells #[.int .i64 s, .slice a n c] 28)).cell? ⟨w.heap.size, 0, none⟩ = some (.int .i64 s) := by go_simp
  have k1 : (w.alloc (.cells #[.int .i64 s, .slice a n c] 28)).cell? ⟨w.heap.size, 1, none⟩ = some (.slice a n c) := by go_simp
  replace g0 := hB.keep g0
  replace g1 := hB.keep g1
  generalize w.alloc (.cells #[.int .i64 s, .slice a n c] 28) = W at hB k0 k1 g0 g1 ⊢
  obtain ⟨B, hB0⟩ : ∃ B, B = w.heap.size := ⟨_, rfl⟩
  rw [← hB0] at k0 k1 ⊢
  have HB := Lib.hid hB
  clear hB hB0
  go_region_held3 (fun W' => Below W.heap.size W W' ∧ W'.cell? ⟨B, 0, none⟩ = some (.int .i64 s) ∧ W'.cell? ⟨B, 1, none⟩ = some (.slice a n c) ∧ W'.cell? ⟨b', off' + (n1 - 1), none⟩ = some (.int .i64 x) ∧ W'.cell? ⟨b', off', none⟩ = some (.int .i64 y))
    (first | (exact ⟨(Below.refl _ _).drew, k0, k1, g0, g1⟩) | (go_split_ands; exact ⟨Below.next (by assumption) b5, b5.keep (by assumption), b5.keep (by assumption), b5.keep (by assumption), b5.keep (by assumption)⟩))
    (first | (go_at_call 66; go_split_ands; refine (HN1.out _ (HR.out.below (HB.out.next (by assumption)))).mono ?_; rintro e w5 ⟨rfl, b5⟩))
  go_split_ands
  have bS : Below W.heap.size W w5 := by assumption
  go_wp2
  go_ret
  exact ⟨rfl, HB.out.next bS⟩


end Go.Proofs.Ytebgbplhcaocoaa

/- Lexicographic order of lists of one length, by the model. -/
namespace Go.Proofs.Ytebgbplhcaocoaa
open Go.RowKit

/-- of the m places from k on, the first where they differ says it -/
def bef (xs ys : List Int) : Nat → Nat → Bool
  | 0, _ => false
  | m + 1, k => if xs.getD k 0 = ys.getD k 0 then bef xs ys m (k + 1) else decide (xs.getD k 0 < ys.getD k 0)
/-- turned by so many -/
def turnL (ws : List Int) (k : Nat) : List Int := ws.drop k ++ ws.take k
theorem turnL_len (ws : List Int) (k : Nat) : (turnL ws k).length = ws.length := by simp [turnL]; omega

set_option maxRecDepth 100000 in
set_option maxHeartbeats 1600000 in
theorem l03Before {lo hi lo1 hi1 : Nat} (a : Option Addr) (n c : Nat) (xs : List Int) (a1 : Option Addr) (c1 : Nat) (ys : List Int) (w : World) (h : RdI lo hi w (.slice a n c) xs) (hl : xs.length = n) (h1 : RdI lo1 hi1 w (.slice a1 n c1) ys) (hl1 : ys.length = n) (hn : n ≤ 1000) :
    Calls Try.prog 163 #[.slice a n c, .slice a1 n c1] w fun e w' => e = .returned (.bool (bef xs ys n 0)) ∧ Qt w w' := by
  have HX := Lib.hid (fun W' (h' : RdI lo hi W' (.slice a n c) xs) => h'.at hl)
  have HY := Lib.hid (fun W' (h' : RdI lo1 hi1 W' (.slice a1 n c1) ys) => h'.at hl1)
  have H0 := Lib.hid h
  have H1 := Lib.hid h1
  obtain ⟨R, hR⟩ : ∃ R, R = bef xs ys n 0 := ⟨_, rfl⟩
  rw [← hR]
  have HP0 := Lib.hid hR.symm
  clear h h1 hl hl1 hR
  go_enter Try.func163, Try.ntmps163
  go_wp2
  go_loopw [5] (fun y wr => ∃ k m : Nat, k + m = n ∧ y = .int .i64 k ∧ Hid (bef xs ys m k = R) ∧ Qt w wr) (fun y _ => n - (intOf y).toNat)
  case atStart => exact ⟨0, n, by omega, rfl, HP0, Qt.refl _⟩
  case round =>
    clear HP0
    obtain ⟨k, m, hkm, rfl, HB, hq⟩ := hrel
    cases m with
    | zero =>
      obtain rfl : k = n := by omega
      have hb : false = R := HB.out
      subst hb
      clear HB
      go_wp2
      go_ret
      exact ⟨rfl, hq⟩
    | succ m =>
      have hks : k < n := by omega
      have hb := HB.out
      obtain ⟨b, off, rfl, g0⟩ := HX.out wr (H0.out.qt hq) k hks
      obtain ⟨b1, off1, rfl, g1⟩ := HY.out wr (H1.out.qt hq) k hks
      simp only [bef] at hb
      generalize xs.getD k 0 = x at g0 hb
      generalize ys.getD k 0 = y at g1 hb
      have hi0 : (0 : Int) ≤ (k : Int) := by omega
      have hi1 : (k : Int) < (n : Int) := by omega
      have HKM := Lib.hid hkm
      have HQ := Lib.hid hq
      by_cases e : x = y
      · rw [if_pos e] at hb
        have HF := Lib.hid hb
        clear hkm hb HB hq
        subst e
        go_wp2
        go_region
        all_goals
          go_wp2
          go_roundw
          case rel => exact ⟨k+1, m, by have := HKM.out; omega, by go_num, HF, by first | exact HQ.out | exact HQ.out.drew⟩
          case measure => simp [intOf]; omega
      · rw [if_neg e] at hb
        have d0 : (x != y) = true := by simpa using e
        have d1 : (x == y) = false := by simpa using e
        clear hkm HB hq
        subst hb
        go_wp2
        go_region
        all_goals
          go_wp2
          go_region
        all_goals
          go_wp2
          go_ret
          refine ⟨rfl, ?_⟩
          first | exact HQ.out | exact HQ.out.drew | exact HQ.out.drew.drew

end Go.Proofs.Ytebgbplhcaocoaa

/- slices.Compare of two lists of one length. -/
namespace Go.Proofs.Ytebgbplhcaocoaa
open Go.RowKit

def cmpI (x y : Int) : Int := if x < y then -1 else if y < x then 1 else 0
/-- of the m places from k on, the first where they differ says it -/
def cmpL (xs ys : List Int) : Nat → Nat → Int
  | 0, _ => 0
  | m + 1, k => if xs.getD k 0 = ys.getD k 0 then cmpL xs ys m (k + 1) else cmpI (xs.getD k 0) (ys.getD k 0)
theorem cmpL_bef (xs ys : List Int) (m : Nat) : ∀ k, cmpL xs ys m k < 0 ↔ bef xs ys m k = true := by
  induction m with
  | zero => intro k; simp [cmpL, bef]
  | succ m ih =>
    intro k
    simp only [cmpL, bef]
    by_cases e : xs.getD k 0 = ys.getD k 0
    · rw [if_pos e, if_pos e]; exact ih _
    · rw [if_neg e, if_neg e, decide_eq_true_eq]
      unfold cmpI
      by_cases h1 : xs.getD k 0 < ys.getD k 0
      · rw [if_pos h1]; exact ⟨fun _ => h1, fun _ => by decide⟩
      · rw [if_neg h1, if_pos (by omega)]; exact ⟨fun h => absurd h (by decide), fun h => absurd h h1⟩

theorem isNaN (x : Int) (w : World) :
    Calls Try.prog 177 #[.int .i64 x] w fun e w' => e = .returned (.bool false) ∧ Qt w w' := by
  go_enter Try.func177, Try.ntmps177
  go_wp2
  go_ret
  exact ⟨rfl, Qt.refl _⟩

set_option maxRecDepth 100000 in
set_option maxHeartbeats 1600000 in
theorem cmpCompare (x y : Int) (w : World) :
    Calls Try.prog 142 #[.int .i64 x, .int .i64 y] w fun e w' => e = .returned (.int .i64 (cmpI x y)) ∧ Qt w w' := by
  obtain ⟨P, hP⟩ : ∃ P, P = cmpI x y := ⟨_, rfl⟩
  rw [← hP]
  unfold cmpI at hP
  go_enter Try.func142, Try.ntmps142
  go_wp2_with fail
  refine (isNaN x _).mono ?_
  rintro e w1 ⟨rfl, q1⟩
  go_wp2_with fail
  refine (isNaN y _).mono ?_
  rintro e w2 ⟨rfl, q2⟩
  have HQ := Lib.hid (q1.trans q2)
  clear q1 q2
  by_cases h1 : x < y
  · rw [if_pos h1] at hP
    subst hP
    have d1 : decide (x < y) = true := by simpa using h1
    go_wp2
    go_ret
    exact ⟨rfl, HQ.out⟩
  · rw [if_neg h1] at hP
    have g1 : y ≤ x := by omega
    by_cases h2 : y < x
    · rw [if_pos h2] at hP
      subst hP
      go_wp2
      go_ret
      exact ⟨rfl, HQ.out⟩
    · rw [if_neg h2] at hP
      have g2 : x ≤ y := by omega
      subst hP
      go_wp2
      go_ret
      exact ⟨rfl, HQ.out⟩

set_option maxRecDepth 100000 in
set_option maxHeartbeats 1600000 in
theorem slCompare {lo hi lo1 hi1 : Nat} (a : Option Addr) (n c : Nat) (xs : List Int) (a1 : Option Addr) (c1 : Nat) (ys : List Int) (w : World) (h : RdI lo hi w (.slice a n c) xs) (hl : xs.length = n) (h1 : RdI lo1 hi1 w (.slice a1 n c1) ys) (hl1 : ys.length = n) (hn : n ≤ 1000) :
    Calls Try.prog 94 #[.slice a n c, .slice a1 n c1] w fun e w' => e = .returned (.int .i64 (cmpL xs ys n 0)) ∧ Qt w w' := by
  have HX := Lib.hid (fun W' (h' : RdI lo hi W' (.slice a n c) xs) => h'.at hl)
  have HY := Lib.hid (fun W' (h' : RdI lo1 hi1 W' (.slice a1 n c1) ys) => h'.at hl1)
  have H0 := Lib.hid h
  have H1 := Lib.hid h1
  obtain ⟨R, hR⟩ : ∃ R, R = cmpL xs ys n 0 := ⟨_, rfl⟩
  rw [← hR]
  have HP0 := Lib.hid hR.symm
  clear h h1 hl hl1 hR
  go_enter Try.func94, Try.ntmps94
  go_wp2
  go_loopw [11] (fun y wr => ∃ k m : Nat, k + m = n ∧ y = .int .i64 k ∧ Hid (cmpL xs ys m k = R) ∧ Qt w wr) (fun y _ => n - (intOf y).toNat)
  case atStart => exact ⟨0, n, by omega, rfl, HP0, Qt.refl _⟩
  case round =>
    clear HP0
    obtain ⟨k, m, hkm, rfl, HB, hq⟩ := hrel
    cases m with
    | zero =>
      obtain rfl : k = n := by omega
      have hb : (0 : Int) = R := HB.out
      subst hb
      clear HB
      go_wp2
      go_ret
      exact ⟨rfl, hq⟩
    | succ m =>
      have hks : k < n := by omega
      have hb := HB.out
      obtain ⟨b, off, rfl, g0⟩ := HX.out wr (H0.out.qt hq) k hks
      obtain ⟨b1, off1, rfl, g1⟩ := HY.out wr (H1.out.qt hq) k hks
      simp only [cmpL] at hb
      generalize xs.getD k 0 = x at g0 hb
      generalize ys.getD k 0 = y at g1 hb
      have hi0 : (0 : Int) ≤ (k : Int) := by omega
      have hi1 : (k : Int) < (n : Int) := by omega
      have HKM := Lib.hid hkm
      have HQ := Lib.hid hq
      have hkn : ¬ (n : Int) ≤ (k : Int) := by omega
      by_cases e : x = y
      · rw [if_pos e] at hb
        have HF := Lib.hid hb
        have hcc : cmpI x y = 0 := by subst e; simp [cmpI]
        clear hkm hb HB hq e
        go_wp2_with fail
        refine (cmpCompare x y _).mono ?_
        rw [hcc]
        clear hcc
        rintro e w2 ⟨rfl, q2⟩
        have HQ2 := Lib.hid (HQ.out.trans q2)
        clear q2 g0 g1
        go_wp2
        go_roundw
        case rel => exact ⟨k+1, m, by have := HKM.out; omega, by go_num, HF, HQ2.out⟩
        case measure => simp [intOf]; omega
      · rw [if_neg e] at hb
        have hcn : ¬ cmpI x y = 0 := by
          unfold cmpI
          by_cases h1 : x < y
          · rw [if_pos h1]; decide
          · rw [if_neg h1, if_pos (by omega)]; decide
        have hcc := cmpCompare x y
        generalize cmpI x y = z at hcc hcn hb
        have hcb : (z != 0) = true := by simpa using hcn
        have HCC := Lib.hid hcc
        clear hkm HB hq e hcc hcn
        subst hb
        go_wp2_with fail
        refine (HCC.out _).mono ?_
        rintro e w2 ⟨rfl, q2⟩
        have HQ2 := Lib.hid (HQ.out.trans q2)
        clear q2 g0 g1
        go_wp2
        go_ret
        exact ⟨rfl, HQ2.out⟩

theorem eqNil (ad : Addr) (n cap : Nat) (w : World) : Sem.run Try.prog (binOp BinOp.eql 37 (.slice (some ad) n cap) (.slice none 0 0)) w = .ok (Value.bool false) w := by kernel_rfl

theorem slClone (n cap : Nat) (ad : Addr) (xs : List Int) (w : World) (hn : n ≤ 17592186044416) (hx : xs.length = n)
    (hc : ∀ j u, (xs.map (Value.int .i64))[j]? = some u → w.cell? (ad.add j) = some u) :
    Calls Try.prog 117 #[.slice (some ad) n cap] w fun e w' => ∃ v, e = .returned v ∧ w'.ownsRow w.heap.size 2 1 v n (xs.map (Value.int .i64)) ∧ Below w.heap.size w w' := by
  obtain ⟨i0, hi', z0, z1, z2⟩ := info_parts Try.info2
  have HC := Lib.hid hc
  have HX := Lib.hid hx
  clear hc hx
  have hown : (w.alloc (.cells #[] 2)).ownsRow w.heap.size 2 1 (.slice (some ⟨w.heap.size, 0, none⟩) 0 0) 0 [] := World.ownsRow_lit w #[] 0 (Nat.le_refl _) (by unfold maxLen; omega) rfl
  have hnil := eqNil
  go_enter Try.func117, Try.ntmps117
  go_wp2_with (at_builtin; refine wpList_append_own _ rfl _ _ 37 rfl w.heap.size 2 i0 (.int .i64 0) 1 8 Try.underlying37 hi' z0 z1 z2 rfl (by decide) _ _ _ rfl hown ad n cap (xs.map (Value.int .i64)) rfl ?c0 ?c1 ?c2 ?c3 ?c4 ?c5 ?_)
  case c0 => rw [List.length_map, HX.out]; omega
  case c1 =>
    intro j u hj
    have h1 := HC.out j u hj
    have hb := World.block_lt_of_cell? w _ h1
    exact (World.cell?_of_block (w := w) (Below.heap_alloc w _ _ hb)).trans h1
  case c2 => intro u hu; simp at hu; obtain ⟨x, _, rfl⟩ := hu; rfl
  case c3 => unfold maxLen; omega
  case c4 => omega
  case c5 => simp
  intro v3 w3 hown3 hgr _
  have hb : Below w.heap.size w w3 := ((Below.refl w.heap.size w).alloc (Nat.le_refl _) (.cells #[] 2)).grown hgr (by simp) (fun k hk => by have := (hown.lt k hk).1; omega)
  clear hgr hown
  go_wp2
  go_ret
  exact ⟨_, rfl, hown3, hb⟩

end Go.Proofs.Ytebgbplhcaocoaa
