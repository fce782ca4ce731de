/- Merged: WalkL, Wk, Next, SpecWalkL, SpecWk, SpecWk2, Before, SlCmp (the plain kit of these proofs). -/
import Derived.Test.YtnblhkhdilkbeaaDoorCoreA
import Derived.Test.YtnblhkhdilkbeaaDoorCoreB
import Derived.Deep.RegionHeld3
import Derived.StillTailTactics
import Derived.Laws.AppendOwnNone
set_option linter.unusedSimpArgs false
set_option linter.unusedVariables false
/- Lists of directed edges: the program's check. -/
namespace Go.Proofs.YtnblhkhdilkbeaaDoor
open Go.RowKit

theorem RdI.at {lo hi : Nat} {w : World} {a : Option Addr} {n c : Nat} {xs : List Int} (h : RdI lo hi w (.slice a n c) xs) (hn : xs.length = n) : ∀ j, j < n → ∃ b off, a = some ⟨b, off, none⟩ ∧ w.cell? ⟨b, off + j, none⟩ = some (.int .i64 (xs.getD j 0)) := by
  intro j hj
  obtain ⟨_, _, ⟨a', c', rfl, _⟩ | ⟨b, off, c', hv, _, _, _, hc⟩⟩ := h
  · simp at hn; omega
  · simp only [Value.slice.injEq] at hv
    exact ⟨b, off, hv.1, hc j (by omega)⟩

/-- at most 20 directed edges of a graph of n edges -/
def walkB (n : Nat) (ws : List Int) : Bool := decide (ws.length ≤ 20) && ws.all (fun e => inR e (2 * (n : Int)))
theorem walkB_of {n : Nat} {ws : List Int} (h : walkB n ws = true) : ws.length ≤ 20 ∧ ∀ j, j < ws.length → inR (ws.getD j 0) (2 * (n : Int)) = true := by
  simp only [walkB, Bool.and_eq_true, decide_eq_true_eq, List.all_eq_true] at h
  refine ⟨h.1, fun j hj => ?_⟩
  have e : ws.getD j 0 = ws[j] := by simp [List.getD, List.getElem?_eq_getElem hj]
  rw [e]
  exact h.2 _ (List.getElem_mem hj)
theorem walkB_long {n : Nat} {ws : List Int} (h : ¬ ws.length ≤ 20) : walkB n ws = false := by simp [walkB, h]
theorem walkB_bad {n : Nat} {ws : List Int} {j : Nat} (hj : j < ws.length) (h : inR (ws.getD j 0) (2 * (n : Int)) = false) : walkB n ws = false := by
  by_cases e : walkB n ws = true
  · have := (walkB_of e).2 j hj
    rw [h] at this; cases this
  · simpa using e
theorem walkB_good {n : Nat} {ws : List Int} (hl : ws.length ≤ 20) (h : ∀ j, j < ws.length → inR (ws.getD j 0) (2 * (n : Int)) = true) : walkB n ws = true := by
  simp only [walkB, Bool.and_eq_true, decide_eq_true_eq, List.all_eq_true]
  refine ⟨hl, fun e he => ?_⟩
  obtain ⟨j, hj, rfl⟩ := List.getElem_of_mem he
  have := h j hj
  simpa [List.getD, List.getElem?_eq_getElem hj] using this

end Go.Proofs.YtnblhkhdilkbeaaDoor

/- Walks without turning back: plain mathematics. -/
namespace Go.Proofs.YtnblhkhdilkbeaaDoor
open Go.RowKit

/-- a list of at least 1, at most 12 directed edges, each one a straight step behind the one before -/
def wkB (ds : List (Int × Int)) (ws : List Int) : Bool :=
  decide (1 ≤ ws.length) && decide (ws.length ≤ 12) && ((List.range ws.length).all (fun i => decide (0 ≤ ws.getD i 0 ∧ ws.getD i 0 < ds.length)) && (List.range (ws.length - 1)).all (fun i => stepQ ds (ws.getD i 0) (ws.getD (i+1) 0)))
theorem wkB_iff {ds : List (Int × Int)} {ws : List Int} : wkB ds ws = true ↔ 1 ≤ ws.length ∧ ws.length ≤ 12 ∧ (∀ i, i < ws.length → 0 ≤ ws.getD i 0 ∧ ws.getD i 0 < ds.length) ∧ ∀ i, i + 1 < ws.length → stepQ ds (ws.getD i 0) (ws.getD (i+1) 0) = true := by
  unfold wkB
  simp only [Bool.and_eq_true, decide_eq_true_eq, List.all_eq_true, List.mem_range]
  constructor
  · rintro ⟨⟨h1, h2⟩, h3, h4⟩
    exact ⟨h1, h2, h3, fun i hi => h4 i (by omega)⟩
  · rintro ⟨h1, h2, h3, h4⟩
    exact ⟨⟨h1, h2⟩, h3, fun i hi => h4 i (by omega)⟩
theorem wkB_len {ds : List (Int × Int)} {ws : List Int} (h : ¬ (1 ≤ ws.length ∧ ws.length ≤ 12)) : wkB ds ws = false := by
  cases e : wkB ds ws with
  | false => rfl
  | true => exact absurd ⟨(wkB_iff.1 e).1, (wkB_iff.1 e).2.1⟩ h
theorem wkB_out {ds : List (Int × Int)} {ws : List Int} {i : Nat} (hi : i < ws.length) (h : ¬ (0 ≤ ws.getD i 0 ∧ ws.getD i 0 < ds.length)) : wkB ds ws = false := by
  cases e : wkB ds ws with
  | false => rfl
  | true => exact absurd ((wkB_iff.1 e).2.2.1 i hi) h
theorem wkB_gap {ds : List (Int × Int)} {ws : List Int} {i : Nat} (hi : i + 1 < ws.length) (h : stepQ ds (ws.getD i 0) (ws.getD (i+1) 0) = false) : wkB ds ws = false := by
  cases e : wkB ds ws with
  | false => rfl
  | true => have := (wkB_iff.1 e).2.2.2 i hi; rw [h] at this; cases this
theorem stepQ_in {ds : List (Int × Int)} {x y : Int} (h : stepQ ds x y = true) : 0 ≤ x ∧ x < ds.length ∧ 0 ≤ y ∧ y < ds.length := by
  unfold stepQ at h
  simp only [Bool.and_eq_true, decide_eq_true_eq] at h
  exact h.1
/-- the first one is a directed edge, and there is a step each time -/
theorem wkB_good {ds : List (Int × Int)} {ws : List Int} (h1 : 1 ≤ ws.length) (h2 : ws.length ≤ 12) (h3 : 0 ≤ ws.getD 0 0 ∧ ws.getD 0 0 < ds.length) (h4 : ∀ i, i + 1 < ws.length → stepQ ds (ws.getD i 0) (ws.getD (i+1) 0) = true) : wkB ds ws = true := by
  refine wkB_iff.2 ⟨h1, h2, fun i hi => ?_, h4⟩
  cases i with
  | zero => exact h3
  | succ i => have := stepQ_in (h4 i hi); omega
/-- the code of a graph and a list -/
def wcode (s : Int) (xss : List (List Int)) (ws : List Int) : Int :=
  if grB s xss = true then (if wkB (dirE (pairs xss)) ws = true then 0 else 2) else 1
/-- a walk is closed -/
def clB (ds : List (Int × Int)) (ws : List Int) : Bool := stepQ ds (ws.getD (ws.length - 1) 0) (ws.getD 0 0)

/-- the number of the reverse -/
theorem rv_even (m : Nat) (h : m < 10) : rv (2 * (m : Int)) = 2 * (m : Int) + 1 := by
  have : ∀ m : Fin 10, rv (2 * ((m.1 : Nat) : Int)) = 2 * ((m.1 : Nat) : Int) + 1 := by decide
  exact this ⟨m, h⟩
theorem rv_odd (m : Nat) (h : m < 10) : rv (2 * (m : Int) + 1) = 2 * (m : Int) := by
  have : ∀ m : Fin 10, rv (2 * ((m.1 : Nat) : Int) + 1) = 2 * ((m.1 : Nat) : Int) := by decide
  exact this ⟨m, h⟩
theorem rv_is (x : Int) (h0 : 0 ≤ x) (h1 : x < 20) : rv x = x / 2 * 2 + 1 - x % 2 := by
  obtain ⟨m, hm⟩ : ∃ m : Nat, x = 2 * (m : Int) ∨ x = 2 * (m : Int) + 1 := ⟨(x / 2).toNat, by omega⟩
  rcases hm with rfl | rfl
  · rw [rv_even m (by omega)]; omega
  · rw [rv_odd m (by omega)]; omega
theorem rv_half (x y : Int) (h0 : 0 ≤ x) (h1 : x < 20) (hy : 0 ≤ y) : (y = rv x) ↔ (x / 2 = y / 2 ∧ x ≠ y) := by
  rw [rv_is x h0 h1]; omega

/-- the edge matrix -/
def edgeM (ds : List (Int × Int)) : Nat → Nat → Int := fun i j => if stepQ ds i j = true then 1 else 0

end Go.Proofs.YtnblhkhdilkbeaaDoor

/- Steps of the model. -/
namespace Go.Proofs.YtnblhkhdilkbeaaDoor
open Go.RowKit

theorem stepQ_at {ds : List (Int × Int)} {x y : Int} (hx : 0 ≤ x ∧ x < ds.length) (hy : 0 ≤ y ∧ y < ds.length) : stepQ ds x y = ((ds.getD x.toNat (0, 0)).2 == (ds.getD y.toNat (0, 0)).1 && y != rv x) := by
  unfold stepQ
  rw [decide_eq_true (by omega), Bool.true_and]

end Go.Proofs.YtnblhkhdilkbeaaDoor

/- Lists of directed edges: the model's check. -/
namespace Go.Proofs.YtnblhkhdilkbeaaDoor
open Go.RowKit

theorem l01InV (x N : Int) (b : Bool) (h : inR x N = b) (w : World) :
    Calls Tryd.prog 49 #[.int .i64 x, .int .i64 0, .int .i64 (N - 1)] w fun e w' => e = .returned (.bool b) ∧ Qt w w' := by
  have e1 : inR x N = (decide (0 ≤ x) && decide (x ≤ N - 1)) := by
    unfold inR
    congr 1
    simp; omega
  rw [← h, e1]
  exact l01In x 0 (N - 1) w

theorem walkB_end {n : Nat} {ws : List Int} (h : ∀ j, j < ws.length → inR (ws.getD j 0) (2 * (n : Int)) = true) : walkB n ws = decide ((ws.length : Int) ≤ 20) := by
  by_cases hl : ws.length ≤ 20
  · rw [walkB_good hl h]; symm; exact decide_eq_true (by omega)
  · rw [walkB_long hl]; symm; exact decide_eq_false (by omega)

end Go.Proofs.YtnblhkhdilkbeaaDoor

/- Walks of the model: is a list a walk; the codes. -/
namespace Go.Proofs.YtnblhkhdilkbeaaDoor
open Go.RowKit

end Go.Proofs.YtnblhkhdilkbeaaDoor

/- Walks of the model: codes, closed ones, reversed ones. -/
namespace Go.Proofs.YtnblhkhdilkbeaaDoor
open Go.RowKit

def isWalkOf (s : Int) (xss : List (List Int)) (ws : List Int) : Bool × Int := if grB s xss = true then (wkB (dirE (pairs xss)) ws, 0) else (false, 1)
def isClosedOf (s : Int) (xss : List (List Int)) (ws : List Int) : Bool × Int := if wcode s xss ws = 0 then (clB (dirE (pairs xss)) ws, 0) else (false, wcode s xss ws)
def revW (ws : List Int) : List Int := (List.range ws.length).map (fun j => rv (ws.getD (ws.length - 1 - j) 0))
def revOf (s : Int) (xss : List (List Int)) (ws : List Int) : List Int × Int := if wcode s xss ws = 0 then (revW ws, 0) else ([], wcode s xss ws)
theorem revW_len (ws : List Int) : (revW ws).length = ws.length := by simp [revW]
theorem wcode_ok {s : Int} {xss : List (List Int)} {ws : List Int} (h : wcode s xss ws = 0) : grB s xss = true ∧ wkB (dirE (pairs xss)) ws = true := by
  unfold wcode at h
  cases hg : grB s xss <;> cases hw : wkB (dirE (pairs xss)) ws <;> simp [hg, hw] at h ⊢

end Go.Proofs.YtnblhkhdilkbeaaDoor

/- Lexicographic order of lists of one length, by the model. -/
namespace Go.Proofs.YtnblhkhdilkbeaaDoor
open Go.RowKit

/-- of the m places from k on, the first where they differ says it -/
def bef (xs ys : List Int) : Nat → Nat → Bool
  | 0, _ => false
  | m + 1, k => if xs.getD k 0 = ys.getD k 0 then bef xs ys m (k + 1) else decide (xs.getD k 0 < ys.getD k 0)
/-- turned by so many -/
def turnL (ws : List Int) (k : Nat) : List Int := ws.drop k ++ ws.take k
theorem turnL_len (ws : List Int) (k : Nat) : (turnL ws k).length = ws.length := by simp [turnL]; omega

end Go.Proofs.YtnblhkhdilkbeaaDoor

/- slices.Compare of two lists of one length. -/
namespace Go.Proofs.YtnblhkhdilkbeaaDoor
open Go.RowKit

def cmpI (x y : Int) : Int := if x < y then -1 else if y < x then 1 else 0
/-- of the m places from k on, the first where they differ says it -/
def cmpL (xs ys : List Int) : Nat → Nat → Int
  | 0, _ => 0
  | m + 1, k => if xs.getD k 0 = ys.getD k 0 then cmpL xs ys m (k + 1) else cmpI (xs.getD k 0) (ys.getD k 0)
theorem cmpL_bef (xs ys : List Int) (m : Nat) : ∀ k, cmpL xs ys m k < 0 ↔ bef xs ys m k = true := by
  induction m with
  | zero => intro k; simp [cmpL, bef]
  | succ m ih =>
    intro k
    simp only [cmpL, bef]
    by_cases e : xs.getD k 0 = ys.getD k 0
    · rw [if_pos e, if_pos e]; exact ih _
    · rw [if_neg e, if_neg e, decide_eq_true_eq]
      unfold cmpI
      by_cases h1 : xs.getD k 0 < ys.getD k 0
      · rw [if_pos h1]; exact ⟨fun _ => h1, fun _ => by decide⟩
      · rw [if_neg h1, if_pos (by omega)]; exact ⟨fun h => absurd h (by decide), fun h => absurd h h1⟩

theorem eqNil (ad : Addr) (n cap : Nat) (w : World) : Sem.run Tryd.prog (binOp BinOp.eql 25 (.slice (some ad) n cap) (.slice none 0 0)) w = .ok (Value.bool false) w := by kernel_rfl

theorem slClone (n cap : Nat) (ad : Addr) (xs : List Int) (w : World) (hn : n ≤ 17592186044416) (hx : xs.length = n)
    (hc : ∀ j u, (xs.map (Value.int .i64))[j]? = some u → w.cell? (ad.add j) = some u) :
    Calls Tryd.prog 99 #[.slice (some ad) n cap] w fun e w' => ∃ v, e = .returned v ∧ w'.ownsRow w.heap.size 2 1 v n (xs.map (Value.int .i64)) ∧ Below w.heap.size w w' := by
  obtain ⟨i0, hi', z0, z1, z2⟩ := info_parts Tryd.info2
  have HC := Lib.hid hc
  have HX := Lib.hid hx
  clear hc hx
  have hown : (w.alloc (.cells #[] 2)).ownsRow w.heap.size 2 1 (.slice (some ⟨w.heap.size, 0, none⟩) 0 0) 0 [] := World.ownsRow_lit w #[] 0 (Nat.le_refl _) (by unfold maxLen; omega) rfl
  have hnil := eqNil
  go_enter Tryd.func99, Tryd.ntmps99
  go_wp2_with (at_builtin; refine wpList_append_own _ rfl _ _ 25 rfl w.heap.size 2 i0 (.int .i64 0) 1 8 Tryd.underlying25 hi' z0 z1 z2 rfl (by decide) _ _ _ rfl hown ad n cap (xs.map (Value.int .i64)) rfl ?c0 ?c1 ?c2 ?c3 ?c4 ?c5 ?_)
  case c0 => rw [List.length_map, HX.out]; omega
  case c1 =>
    intro j u hj
    have h1 := HC.out j u hj
    have hb := World.block_lt_of_cell? w _ h1
    exact (World.cell?_of_block (w := w) (Below.heap_alloc w _ _ hb)).trans h1
  case c2 => intro u hu; simp at hu; obtain ⟨x, _, rfl⟩ := hu; rfl
  case c3 => unfold maxLen; omega
  case c4 => omega
  case c5 => simp
  intro v3 w3 hown3 hgr _
  have hb : Below w.heap.size w w3 := ((Below.refl w.heap.size w).alloc (Nat.le_refl _) (.cells #[] 2)).grown hgr (by simp) (fun k hk => by have := (hown.lt k hk).1; omega)
  clear hgr hown
  go_wp2
  go_ret
  exact ⟨_, rfl, hown3, hb⟩

end Go.Proofs.YtnblhkhdilkbeaaDoor
