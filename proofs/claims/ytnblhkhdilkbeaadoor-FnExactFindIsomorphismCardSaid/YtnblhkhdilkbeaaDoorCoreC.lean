/- Merged: MatZ, SpecMat, SpecProd, SpecCnt, SpecStc, SpecLen, SpecRows, SpecCl, SpecWM (the plain kit of these proofs). -/
import Derived.Test.YtnblhkhdilkbeaaDoorCoreG
import Derived.Test.YtnblhkhdilkbeaaDoorCoreF
import Derived.Test.YtnblhkhdilkbeaaDoorCoreB
import Derived.Test.YtnblhkhdilkbeaaDoorCoreD
import Derived.Deep.RegionHeld3
import Derived.StillTailTactics
import Derived.Test.YtnblhkhdilkbeaaDoorCoreA
set_option linter.unusedSimpArgs false
set_option linter.unusedVariables false
/- Powers of square tables without wrapping, and their bounds: plain mathematics. -/
namespace Go.Proofs.YtnblhkhdilkbeaaDoor
open Go.RowKit

def dotZ (u v : Nat → Int) : Nat → Int
  | 0 => 0
  | k + 1 => dotZ u v k + u k * v k
def pwZ (N : Nat) (M : Nat → Nat → Int) : Nat → Nat → Nat → Int
  | 0 => unitM
  | k + 1 => fun i j => dotZ (pwZ N M k i) (fun r => M r j) N
def bnd : Nat → Int
  | 0 => 1
  | k + 1 => 20 * bnd k
theorem bnd_pos (k : Nat) : 1 ≤ bnd k := by
  induction k with
  | zero => decide
  | succ k ih => simp only [bnd]; omega
theorem bnd_mono {k q : Nat} (h : k ≤ q) : bnd k ≤ bnd q := by
  induction q with
  | zero =>
    obtain rfl : k = 0 := by omega
    exact Int.le_refl _
  | succ q ih =>
    by_cases e : k = q + 1
    · subst e; exact Int.le_refl _
    · have := ih (by omega)
      have := bnd_pos q
      simp only [bnd]; omega
theorem bnd_12 : bnd 12 = 4096000000000000 := by decide
theorem bnd_le {k : Nat} (h : k ≤ 12) : bnd k ≤ 4096000000000000 := by rw [← bnd_12]; exact bnd_mono h
theorem mul01 {x y B : Int} (hx : 0 ≤ x ∧ x ≤ B) (hy : y = 0 ∨ y = 1) : 0 ≤ x * y ∧ x * y ≤ B := by
  rcases hy with rfl | rfl
  · rw [Int.mul_zero]; omega
  · rw [Int.mul_one]; exact hx
theorem dotZ_bd {u v : Nat → Int} {B : Int} (hu : ∀ r, 0 ≤ u r ∧ u r ≤ B) (hv : ∀ r, v r = 0 ∨ v r = 1) (k : Nat) : 0 ≤ dotZ u v k ∧ dotZ u v k ≤ k * B := by
  induction k with
  | zero => simp [dotZ]
  | succ k ih =>
    have h := mul01 (hu k) (hv k)
    have hB : 0 ≤ B := by have := hu 0; omega
    simp only [dotZ]
    have e : ((k + 1 : Nat) : Int) * B = (k : Int) * B + B := by rw [Int.natCast_add, Int.add_mul]; simp
    rw [e]
    omega
theorem kB {k : Nat} {B : Int} (hk : k ≤ 20) (hB : 0 ≤ B) : (k : Int) * B ≤ 20 * B := Int.mul_le_mul_of_nonneg_right (by omega) hB
theorem pwZ_bd {N : Nat} {M : Nat → Nat → Int} (hN : N ≤ 20) (hM : ∀ i j, M i j = 0 ∨ M i j = 1) (k : Nat) : ∀ i j, 0 ≤ pwZ N M k i j ∧ pwZ N M k i j ≤ bnd k := by
  induction k with
  | zero =>
    intro i j
    simp only [pwZ, unitM, bnd]
    split <;> omega
  | succ k ih =>
    intro i j
    have h := dotZ_bd (u := pwZ N M k i) (v := fun r => M r j) (fun r => ih i r) (fun r => hM r j) N
    have hp := bnd_pos k
    have := kB hN (show (0 : Int) ≤ bnd k by omega)
    simp only [pwZ, bnd]
    omega
/-- within the bounds nothing is wrapped -/
theorem dotW_dotZ {u v : Nat → Int} {B : Int} (hu : ∀ r, 0 ≤ u r ∧ u r ≤ B) (hv : ∀ r, v r = 0 ∨ v r = 1) (hB : B ≤ 4096000000000000) (k : Nat) (hk : k ≤ 20) : dotW u v k = dotZ u v k := by
  induction k with
  | zero => rfl
  | succ k ih =>
    have h := mul01 (hu k) (hv k)
    have h2 := dotZ_bd hu hv k
    have hB0 : 0 ≤ B := by have := hu 0; omega
    have h3 := kB (show k ≤ 20 by omega) hB0
    simp only [dotW, dotZ]
    rw [ih (by omega), wrap_of (show I64 (u k * v k) by unfold I64; omega), wrap_of (by unfold I64; omega)]
def pwW (N : Nat) (M : Nat → Nat → Int) : Nat → Nat → Nat → Int
  | 0 => unitM
  | k + 1 => mulM N (pwW N M k) M
theorem pwW_pwZ {N : Nat} {M : Nat → Nat → Int} (hN : N ≤ 20) (hM : ∀ i j, M i j = 0 ∨ M i j = 1) (k : Nat) (hk : k ≤ 13) : pwW N M k = pwZ N M k := by
  induction k with
  | zero => rfl
  | succ k ih =>
    funext i j
    simp only [pwW, pwZ, mulM]
    rw [ih (by omega)]
    exact dotW_dotZ (fun r => pwZ_bd hN hM k i r) (fun r => hM r j) (bnd_le (by omega)) N hN
def trZ (A : Nat → Nat → Int) : Nat → Int
  | 0 => 0
  | i + 1 => trZ A i + A i i
theorem trZ_bd {A : Nat → Nat → Int} {B : Int} (hA : ∀ i j, 0 ≤ A i j ∧ A i j ≤ B) (k : Nat) : 0 ≤ trZ A k ∧ trZ A k ≤ k * B := by
  induction k with
  | zero => simp [trZ]
  | succ k ih =>
    have h := hA k k
    have e : ((k + 1 : Nat) : Int) * B = (k : Int) * B + B := by rw [Int.natCast_add, Int.add_mul]; simp
    simp only [trZ]
    rw [e]; omega
theorem trW_trZ {A : Nat → Nat → Int} {B : Int} (hA : ∀ i j, 0 ≤ A i j ∧ A i j ≤ B) (hB : B ≤ 4096000000000000) (k : Nat) (hk : k ≤ 20) : trW A k = trZ A k := by
  induction k with
  | zero => rfl
  | succ k ih =>
    have h := hA k k
    have h2 := trZ_bd hA k
    have h3 := kB (show k ≤ 20 by omega) (show (0 : Int) ≤ B by omega)
    simp only [trW, trZ]
    rw [ih (by omega), wrap_of (by unfold I64; omega)]
/-- the closed number of k -/
def clN (N : Nat) (M : Nat → Nat → Int) (k : Nat) : Int := trZ (pwZ N M k) N
theorem clN_bd {N : Nat} {M : Nat → Nat → Int} (hN : N ≤ 20) (hM : ∀ i j, M i j = 0 ∨ M i j = 1) {k : Nat} (hk : k ≤ 12) : 0 ≤ clN N M k ∧ clN N M k ≤ 81920000000000000 := by
  have h := trZ_bd (pwZ_bd hN hM k) N
  have h2 := kB hN (show (0 : Int) ≤ bnd k by have := bnd_pos k; omega)
  have h3 := bnd_le hk
  unfold clN
  omega
theorem clN_trW {N : Nat} {M : Nat → Nat → Int} (hN : N ≤ 20) (hM : ∀ i j, M i j = 0 ∨ M i j = 1) {k : Nat} (hk : k ≤ 12) : trW (pwW N M k) N = clN N M k := by
  rw [pwW_pwZ hN hM k (by omega)]
  exact trW_trZ (pwZ_bd hN hM k) (bnd_le hk) N hN

end Go.Proofs.YtnblhkhdilkbeaaDoor

/- The rows of the edge matrix, by the model. -/
namespace Go.Proofs.YtnblhkhdilkbeaaDoor
open Go.RowKit

theorem edgeM_I64 (ds : List (Int × Int)) (i j : Nat) : I64 (edgeM ds i j) := by unfold edgeM; split <;> (unfold I64; omega)
/-- a row of it, up to f -/
def rowTo (g : Nat → Int) (N f : Nat) : List Value := (List.range N).map (fun q => Value.int .i64 (if q < f then g q else 0))
theorem rowTo_zero (g : Nat → Int) (N : Nat) : (madeCells #[Value.int .i64 0] N).toList = rowTo g N 0 := by
  rw [toList_madeCells_one]
  apply List.ext_getElem
  · simp [rowTo]
  · intro j h1 h2
    simp [rowTo]
theorem rowTo_all (g : Nat → Int) (N : Nat) : rowTo g N N = ((List.range N).map g).map (Value.int .i64) := by
  unfold rowTo
  rw [List.map_map]
  refine List.map_congr_left fun j hj => ?_
  rw [if_pos (by simpa using hj)]
  rfl
theorem rowTo_put (g : Nat → Int) {N f : Nat} (hf : f < N) (x : Int) (h : g f = x) : (rowTo g N f).set f (.int .i64 x) = rowTo g N (f+1) := by
  apply List.ext_getElem
  · simp [rowTo]
  · intro j h1 h2
    rw [List.getElem_set]
    by_cases e : f = j
    · subst e; simp [rowTo, h]
    · rw [if_neg e]
      have : (j < f) ↔ (j < f + 1) := by omega
      simp [rowTo, this]
theorem rowTo_skip (g : Nat → Int) {N f : Nat} (h : g f = 0) : rowTo g N f = rowTo g N (f+1) := by
  unfold rowTo
  refine List.map_congr_left fun j hj => ?_
  by_cases e : j = f
  · subst e; simp [h]
  · have : (j < f) ↔ (j < f + 1) := by omega
    simp [this]
theorem rowTo_get (g : Nat → Int) {N f j : Nat} (hj : j < N) : (rowTo g N f)[j]? = some (.int .i64 (if j < f then g j else 0)) := by
  simp [rowTo, hj]

end Go.Proofs.YtnblhkhdilkbeaaDoor

/- Products of square rows, by the model. -/
namespace Go.Proofs.YtnblhkhdilkbeaaDoor
open Go.RowKit

/-- a row of the product, the first j products added up; of the next ones, those below k -/
def prow (A B : Nat → Nat → Int) (i N j k : Nat) : List Value := (List.range N).map (fun q => Value.int .i64 (if q < k then dotW (A i) (fun r => B r q) (j + 1) else dotW (A i) (fun r => B r q) j))
theorem prow_zero (A B : Nat → Nat → Int) (i N : Nat) : (madeCells #[Value.int .i64 0] N).toList = prow A B i N 0 0 := by
  rw [toList_madeCells_one]
  apply List.ext_getElem
  · simp [prow]
  · intro j h1 h2
    simp [prow, dotW]
theorem prow_skip (A B : Nat → Nat → Int) (i N j : Nat) (h : A i j = 0) : prow A B i N j 0 = prow A B i N (j + 1) 0 := by
  unfold prow
  refine List.map_congr_left fun q hq => ?_
  simp only [Nat.not_lt_zero, if_false]
  rw [dotW_skip h]
theorem prow_next (A B : Nat → Nat → Int) (i N j : Nat) : prow A B i N j N = prow A B i N (j + 1) 0 := by
  unfold prow
  refine List.map_congr_left fun q hq => ?_
  rw [if_pos (by simpa using hq)]
  simp
theorem prow_get (A B : Nat → Nat → Int) {i N j k : Nat} (hk : k < N) : (prow A B i N j k)[k]? = some (.int .i64 (dotW (A i) (fun r => B r k) j)) := by
  simp [prow, hk]
theorem prow_put (A B : Nat → Nat → Int) {i N j k : Nat} (hk : k < N) : (prow A B i N j k).set k (.int .i64 (wrap64 (dotW (A i) (fun r => B r k) j + wrap64 (A i j * B j k)))) = prow A B i N j (k + 1) := by
  apply List.ext_getElem
  · simp [prow]
  · intro q h1 h2
    rw [List.getElem_set]
    by_cases e : k = q
    · subst e; simp [prow, dotW]
    · rw [if_neg e]
      have : (q < k) ↔ (q < k + 1) := by omega
      simp [prow, this]
theorem prow_all (A B : Nat → Nat → Int) (i N : Nat) : prow A B i N N 0 = ((List.range N).map (mulM N A B i)).map (Value.int .i64) := by
  unfold prow
  rw [List.map_map]
  refine List.map_congr_left fun q hq => ?_
  simp [mulM]
theorem mulM_I64 (N : Nat) (A B : Nat → Nat → Int) (i j : Nat) : I64 (mulM N A B i j) := dotW_I64 _ _ _

end Go.Proofs.YtnblhkhdilkbeaaDoor

/- Straight counts of the model. -/
namespace Go.Proofs.YtnblhkhdilkbeaaDoor
open Go.RowKit

/-- the traces of the powers 1 to k -/
def cnts (N : Nat) (M : Nat → Nat → Int) (k : Nat) : List Int := (List.range k).map (fun q => trW (powM N M q) N)
def cntV (N : Nat) (M : Nat → Nat → Int) (k : Nat) : List Value := (cnts N M k).map (Value.int .i64)
theorem cnts_len (N : Nat) (M : Nat → Nat → Int) (k : Nat) : (cnts N M k).length = k := by simp [cnts]
theorem cntV_step (N : Nat) (M : Nat → Nat → Int) (k : Nat) : cntV N M (k+1) = cntV N M k ++ [.int .i64 (trW (powM N M k) N)] := by simp [cntV, cnts, List.range_succ]
theorem cnts_I64 (N : Nat) (M : Nat → Nat → Int) (k : Nat) : ∀ x ∈ cnts N M k, I64 x := by
  intro x hx
  simp only [cnts, List.mem_map] at hx
  obtain ⟨q, _, rfl⟩ := hx
  exact trW_I64 _ _

end Go.Proofs.YtnblhkhdilkbeaaDoor

/- Codes of a graph and a number, by the model; StraightCounts of the model. -/
namespace Go.Proofs.YtnblhkhdilkbeaaDoor
open Go.RowKit

/-- the code of a graph and a number in a range -/
def ccode (s : Int) (xss : List (List Int)) (k low top : Int) : Int := if grB s xss = true then (if low ≤ k ∧ k ≤ top then 0 else 2) else 1
theorem ccode_ok {s : Int} {xss : List (List Int)} {k low top : Int} (h : ccode s xss k low top = 0) : grB s xss = true ∧ low ≤ k ∧ k ≤ top := by
  unfold ccode at h
  by_cases h1 : grB s xss = true
  · rw [if_pos h1] at h
    by_cases h2 : low ≤ k ∧ k ≤ top
    · exact ⟨h1, h2⟩
    · rw [if_neg h2] at h; omega
  · rw [if_neg h1] at h; omega
def stcOf (s : Int) (xss : List (List Int)) (k : Int) : List Int × Int := if ccode s xss k 1 10 = 0 then (cnts (2 * xss.length) (edgeM (dirE (pairs xss))) k.toNat, 0) else ([], ccode s xss k 1 10)

end Go.Proofs.YtnblhkhdilkbeaaDoor

/- Codes of a graph and a length, by the model. -/
namespace Go.Proofs.YtnblhkhdilkbeaaDoor
open Go.RowKit

end Go.Proofs.YtnblhkhdilkbeaaDoor

/- Numbers of walks of the model: l03Rows. -/
namespace Go.Proofs.YtnblhkhdilkbeaaDoor
open Go.RowKit

theorem edgeM_01 (ds : List (Int × Int)) (i j : Nat) : edgeM ds i j = 0 ∨ edgeM ds i j = 1 := by
  unfold edgeM
  split
  · exact .inr rfl
  · exact .inl rfl
/-- the next row on the way: the first b terms, and for the numbers below c one more -/
def nxt (u : Nat → Int) (M : Nat → Nat → Int) (b c : Nat) (j : Nat) : Int := dotZ u (fun r => M r j) b + (if j < c then u b * M b j else 0)
def nrow (u : Nat → Int) (M : Nat → Nat → Int) (N b c : Nat) : List Value := (List.range N).map (fun j => Value.int .i64 (nxt u M b c j))
def urow (u : Nat → Int) (N : Nat) : List Value := (List.range N).map (fun j => Value.int .i64 (u j))
theorem urow_get (u : Nat → Int) {N j : Nat} (h : j < N) : (urow u N)[j]? = some (.int .i64 (u j)) := by simp [urow, h]
theorem nrow_zero (u : Nat → Int) (M : Nat → Nat → Int) (N : Nat) : (madeCells #[Value.int .i64 0] N).toList = nrow u M N 0 0 := by
  rw [toList_madeCells_one]
  apply List.ext_getElem
  · simp [nrow]
  · intro j h1 h2
    simp [nrow, nxt, dotZ]
theorem nrow_next (u : Nat → Int) (M : Nat → Nat → Int) (N b : Nat) : nrow u M N b N = nrow u M N (b + 1) 0 := by
  unfold nrow
  refine List.map_congr_left fun j hj => ?_
  have : j < N := by simpa using hj
  simp [nxt, this, dotZ]
theorem nrow_skip (u : Nat → Int) (M : Nat → Nat → Int) (N b c : Nat) (h : u b = 0) : nrow u M N b c = nrow u M N (b + 1) 0 := by
  unfold nrow
  refine List.map_congr_left fun j hj => ?_
  simp [nxt, dotZ, h]
theorem nrow_no (u : Nat → Int) (M : Nat → Nat → Int) (N b c : Nat) (h : M b c = 0) : nrow u M N b c = nrow u M N b (c + 1) := by
  unfold nrow
  refine List.map_congr_left fun j hj => ?_
  by_cases e : j = c
  · subst e; simp [nxt, h]
  · have : (j < c) ↔ (j < c + 1) := by omega
    simp [nxt, this]
theorem nrow_get (u : Nat → Int) (M : Nat → Nat → Int) {N b c : Nat} (h : c < N) : (nrow u M N b c)[c]? = some (.int .i64 (dotZ u (fun r => M r c) b)) := by
  simp [nrow, nxt, h]
theorem nrow_yes (u : Nat → Int) (M : Nat → Nat → Int) {N b c : Nat} (hc : c < N) (h : M b c = 1) : (nrow u M N b c).set c (.int .i64 (dotZ u (fun r => M r c) b + u b)) = nrow u M N b (c + 1) := by
  apply List.ext_getElem
  · simp [nrow]
  · intro j h1 h2
    rw [List.getElem_set]
    by_cases e : c = j
    · subst e; simp [nrow, nxt, h]
    · rw [if_neg e]
      have : (j < c) ↔ (j < c + 1) := by omega
      simp [nrow, nxt, this]
theorem nrow_all (N : Nat) (M : Nat → Nat → Int) (i a : Nat) : nrow (pwZ N M i a) M N N 0 = urow (pwZ N M (i + 1) a) N := by
  unfold nrow urow
  refine List.map_congr_left fun j hj => ?_
  simp [nxt, pwZ]
theorem urow_unit {N a : Nat} (M : Nat → Nat → Int) (ha : a < N) : ((madeCells #[Value.int .i64 0] N).toList).set a (.int .i64 1) = urow (pwZ N M 0 a) N := by
  rw [toList_madeCells_one]
  apply List.ext_getElem
  · simp [urow]
  · intro j h1 h2
    rw [List.getElem_set]
    by_cases e : a = j
    · subst e; simp [urow, pwZ, unitM]
    · simp [urow, pwZ, unitM, e]
theorem zero_get {N a : Nat} (ha : a < N) : ((madeCells #[Value.int .i64 0] N).toList)[a]? = some (.int .i64 0) := by
  rw [toList_madeCells_one]; simp [ha]

end Go.Proofs.YtnblhkhdilkbeaaDoor

/- Closed numbers of the model. -/
namespace Go.Proofs.YtnblhkhdilkbeaaDoor
open Go.RowKit

end Go.Proofs.YtnblhkhdilkbeaaDoor

/- WalkMatrix of the model. -/
namespace Go.Proofs.YtnblhkhdilkbeaaDoor
open Go.RowKit

/-- the numbers of the walks from the directed edge a, added up by their last edges below b -/
def wmI (P : Nat → Nat → Int) (ds : List (Int × Int)) (a : Nat) (f : Nat → Nat → Int) : Nat → Nat → Nat → Int
  | 0 => f
  | b + 1 => put (wmI P ds a f b) (ds.getD a (0, 0)).1.toNat (ds.getD b (0, 0)).2.toNat (wrap64 (wmI P ds a f b (ds.getD a (0, 0)).1.toNat (ds.getD b (0, 0)).2.toNat + P a b))
def wmO (P : Nat → Nat → Int) (ds : List (Int × Int)) (N : Nat) : Nat → Nat → Nat → Int
  | 0 => zeros
  | a + 1 => wmI P ds a (wmO P ds N a) N
def wmRes (S kk N : Nat) (ds : List (Int × Int)) : List (List Int) := if kk = 0 then tab S unitM else tab S (wmO (pwZ N (edgeM ds) (kk - 1)) ds N N)
theorem wmRes_len (S kk N : Nat) (ds : List (Int × Int)) : (wmRes S kk N ds).length = S := by unfold wmRes; split <;> simp [tab_len]
theorem wmRes_lens (S kk N : Nat) (ds : List (Int × Int)) : lens (wmRes S kk N ds) = S * S := by unfold wmRes; split <;> simp [tab_lens]
def wmOf (s : Int) (xss : List (List Int)) (k : Int) : List (List Int) × Int :=
  if ccode s xss k 0 12 = 0 then (wmRes s.toNat k.toNat (2 * xss.length) (dirE (pairs xss)), 0) else ([], ccode s xss k 0 12)
theorem wmOf_lens (s : Int) (xss : List (List Int)) (k : Int) : lens (wmOf s xss k).1 ≤ 1000 := by
  unfold wmOf
  by_cases h : ccode s xss k 0 12 = 0
  · rw [if_pos h]
    have h1 := grB_iff (ccode_ok h).1
    have h2 : s.toNat ≤ 8 := by omega
    have h3 := Nat.mul_le_mul h2 h2
    simp only [wmRes_lens]; omega
  · rw [if_neg h]; simp [lens]
/-- the ends of directed edges are vertices -/
theorem dirE_in {s : Int} {xss : List (List Int)} (hg : grB s xss = true) {m : Nat} (hm : m < (dirE (pairs xss)).length) : (0 ≤ ((dirE (pairs xss)).getD m (0, 0)).1 ∧ ((dirE (pairs xss)).getD m (0, 0)).1 < s) ∧ (0 ≤ ((dirE (pairs xss)).getD m (0, 0)).2 ∧ ((dirE (pairs xss)).getD m (0, 0)).2 < s) := by
  obtain ⟨_, _, _, h4⟩ := grB_iff hg
  rw [dirE_len, pairs_len] at hm
  obtain ⟨q, hq⟩ : ∃ q, m = 2 * q ∨ m = 2 * q + 1 := ⟨m / 2, by omega⟩
  rcases hq with rfl | rfl
  · have := h4 q (by omega)
    rw [dirE_even, pairs_getD]
    simp only
    omega
  · have := h4 q (by omega)
    rw [dirE_odd _ _ (by rw [pairs_len]; omega), pairs_getD]
    simp only
    omega

/-- rows of zeros, the first k ones with a 1 on the diagonal where told -/
def zu (z : Bool) : Nat → Nat → Int := if z then unitM else zeros
theorem zu_row (z : Bool) {S k : Nat} (h : k < S) : (if z then ((madeCells #[Value.int .i64 0] S).toList).set k (.int .i64 1) else (madeCells #[Value.int .i64 0] S).toList) = ((List.range S).map (zu z k)).map (Value.int .i64) := by
  cases z with
  | true =>
    rw [if_pos rfl, toList_madeCells_one]
    apply List.ext_getElem
    · simp
    · intro j h1 h2
      rw [List.getElem_set]
      by_cases e : k = j
      · subst e; simp [zu, unitM]
      · simp [zu, unitM, e]
  | false =>
    rw [if_neg (by simp), toList_madeCells_one]
    apply List.ext_getElem
    · simp
    · intro j h1 h2
      simp [zu, zeros]
theorem zu_I64 (z : Bool) (i j : Nat) : I64 (zu z i j) := by
  cases z <;> simp [zu, zeros, unitM]
  · exact I64_zero
  · split <;> (unfold I64; omega)

theorem OwR.ent2 {lo hi : Nat} {w : World} {a : Option Addr} {n c : Nat} {f : Nat → Nat → Int} (h : OwR lo hi w (.slice a n c) (tab n f)) {i j : Nat} (hi' : i < n) (hj : j < n) :
    ∃ g b cb, a = some ⟨g, 0, none⟩ ∧ w.cell? ⟨g, i, none⟩ = some (.slice (some ⟨b, 0, none⟩) n cb) ∧ w.cell? ⟨b, j, none⟩ = some (.int .i64 (f i j)) ∧ w.frozen? ⟨b, j, none⟩ = false ∧ lo ≤ b ∧ b < hi ∧ b < w.heap.size ∧ g ≠ b ∧
      ∀ x, I64 x → OwR lo hi (w.setCell ⟨b, j, none⟩ (.int .i64 x)) (.slice a n c) (tab n (put f i j x)) := by
  obtain ⟨g, c', b, cb, e1, e2, e3, e4, e5, e6, e7, _, _, _, e9, _, e8⟩ := h.store (k := i) (j := j) (by rw [tab_len]; exact hi') (by rw [tab_rlen f hi']; exact hj)
  rw [tab_rlen f hi'] at e2
  rw [tab_get f hi' hj] at e3
  simp only [Value.slice.injEq] at e1
  refine ⟨g, b, cb, e1.1, e2, e3, e4, e5, e6, e7, e9, fun x hx => ?_⟩
  have := e8 x hx
  rw [tab_set f x hi' hj] at this
  exact this

end Go.Proofs.YtnblhkhdilkbeaaDoor
