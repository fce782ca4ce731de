/- Square tables of numbers: plain mathematics. -/
import Derived.Test.YtolipjemabmlkaaCoreA
set_option linter.unusedSimpArgs false
set_option linter.unusedVariables false
namespace Go.Proofs.Ytolipjemabmlkaa
open Go.RowKit

/-- the table of f, N rows of N numbers -/
def tab (N : Nat) (f : Nat → Nat → Int) : List (List Int) := (List.range N).map fun i => (List.range N).map (f i)
theorem tab_len (N : Nat) (f : Nat → Nat → Int) : (tab N f).length = N := by simp [tab]
theorem tab_row {N i : Nat} (f : Nat → Nat → Int) (h : i < N) : (tab N f).getD i [] = (List.range N).map (f i) := by
  unfold tab
  simp [List.getD, h]
theorem tab_rlen {N i : Nat} (f : Nat → Nat → Int) (h : i < N) : ((tab N f).getD i []).length = N := by rw [tab_row f h]; simp
theorem tab_take {N k : Nat} (f : Nat → Nat → Int) (h : k < N) : (tab N f).take (k+1) = (tab N f).take k ++ [(List.range N).map (f k)] := by
  unfold tab
  rw [← List.map_take, ← List.map_take, List.take_range, List.take_range, Nat.min_eq_left (by omega), Nat.min_eq_left (by omega), List.range_succ, List.map_append]
  rfl
theorem map_get {N j : Nat} (f : Nat → Int) (h : j < N) : ((List.range N).map f).getD j 0 = f j := by simp [List.getD, h]
theorem tab_get {N i j : Nat} (f : Nat → Nat → Int) (hi : i < N) (hj : j < N) : ((tab N f).getD i []).getD j 0 = f i j := by rw [tab_row f hi, map_get _ hj]
theorem tab_congr {N : Nat} {f g : Nat → Nat → Int} (h : ∀ i j, i < N → j < N → f i j = g i j) : tab N f = tab N g := by
  unfold tab
  refine List.map_congr_left fun i hi => List.map_congr_left fun j hj => h i j (by simpa using hi) (by simpa using hj)
/-- one number turns -/
def put (f : Nat → Nat → Int) (i j : Nat) (x : Int) : Nat → Nat → Int := fun a b => if a = i ∧ b = j then x else f a b
theorem tab_set {N i j : Nat} (f : Nat → Nat → Int) (x : Int) (hi : i < N) (hj : j < N) : (tab N f).set i (((tab N f).getD i []).set j x) = tab N (put f i j x) := by
  apply List.ext_getElem
  · simp [tab]
  · intro a h1 h2
    simp only [tab_len, List.length_set] at h1
    rw [List.getElem_set]
    by_cases ea : i = a
    · subst ea
      rw [if_pos rfl, tab_row f hi]
      apply List.ext_getElem
      · simp [tab]
      · intro b h3 h4
        simp only [List.length_set, List.length_map, List.length_range] at h3
        rw [List.getElem_set]
        by_cases eb : j = b
        · subst eb; simp [tab, put]
        · have eb' : ¬ b = j := fun e => eb e.symm
          simp [tab, put, eb, eb']
    · rw [if_neg ea]
      have ea' : ¬ a = i := fun e => ea e.symm
      simp [tab, put, ea']
theorem tab_lens {N : Nat} (f : Nat → Nat → Int) : lens (tab N f) = N * N := by
  unfold lens tab
  rw [List.map_map]
  have : (List.length ∘ fun i => (List.range N).map (f i)) = fun _ => N := by funext i; simp
  rw [this]
  have : ∀ k, ((List.range k).map fun _ => N).sum = k * N := by
    intro k
    induction k with
    | zero => simp
    | succ k ih => rw [List.range_succ, List.map_append, List.sum_append, ih]; simp [Nat.succ_mul]
  exact this N

/-- sums of products, as they are reckoned -/
def dotW (u v : Nat → Int) : Nat → Int
  | 0 => 0
  | k + 1 => wrap64 (dotW u v k + wrap64 (u k * v k))
def mulM (N : Nat) (A B : Nat → Nat → Int) : Nat → Nat → Int := fun i j => dotW (A i) (fun k => B k j) N
def trW (A : Nat → Nat → Int) : Nat → Int
  | 0 => 0
  | i + 1 => wrap64 (trW A i + A i i)
theorem wrap_I64 (x : Int) : I64 (wrap64 x) := by unfold I64 wrap64; omega
theorem wrap_of {x : Int} (h : I64 x) : wrap64 x = x := by unfold I64 at h; unfold wrap64; omega
theorem I64_zero : I64 0 := by unfold I64; omega
theorem dotW_I64 (u v : Nat → Int) (k : Nat) : I64 (dotW u v k) := by
  cases k with
  | zero => exact I64_zero
  | succ k => exact wrap_I64 _
theorem trW_I64 (A : Nat → Nat → Int) (k : Nat) : I64 (trW A k) := by
  cases k with
  | zero => exact I64_zero
  | succ k => exact wrap_I64 _
theorem dotW_congr {u v u' v' : Nat → Int} {k : Nat} (h : ∀ i, i < k → u i = u' i ∧ v i = v' i) : dotW u v k = dotW u' v' k := by
  induction k with
  | zero => rfl
  | succ k ih => simp only [dotW]; rw [ih (fun i hi => h i (by omega)), (h k (by omega)).1, (h k (by omega)).2]
theorem trW_congr {A B : Nat → Nat → Int} {k : Nat} (h : ∀ i, i < k → A i i = B i i) : trW A k = trW B k := by
  induction k with
  | zero => rfl
  | succ k ih => simp only [trW]; rw [ih (fun i hi => h i (by omega)), h k (by omega)]
theorem dotW_skip {u v : Nat → Int} {k : Nat} (h : u k = 0) : dotW u v (k + 1) = dotW u v k := by
  simp only [dotW]
  rw [h, Int.zero_mul, wrap_of I64_zero, Int.add_zero, wrap_of (dotW_I64 u v k)]
/-- powers: A to the k + 1 -/
def powM (N : Nat) (A : Nat → Nat → Int) : Nat → Nat → Nat → Int
  | 0 => A
  | k + 1 => mulM N (powM N A k) A
/-- .. and from the unit table on -/
def unitM : Nat → Nat → Int := fun i j => if i = j then 1 else 0

end Go.Proofs.Ytolipjemabmlkaa
