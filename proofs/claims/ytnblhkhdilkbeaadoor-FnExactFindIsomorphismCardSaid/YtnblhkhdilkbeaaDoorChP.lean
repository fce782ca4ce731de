/- Characteristic polynomials: plain facts; the adjacency and the Laplacian rows are small. -/
import Derived.Test.YtnblhkhdilkbeaaDoorFl
import Derived.Test.YtnblhkhdilkbeaaDoorAdjMat
import Derived.Test.YtnblhkhdilkbeaaDoorCoreL
set_option linter.unusedSimpArgs false
set_option linter.unusedVariables false
namespace Go.Proofs.YtnblhkhdilkbeaaDoor
open Go.RowKit

theorem tl_zero (xs : List Int) : ∀ n k, tl xs n ≤ k → k < n → xs.getD k 0 = 0 := by
  intro n
  induction n with
  | zero => intro k _ h; omega
  | succ n ih =>
    intro k h1 h2
    unfold tl at h1
    split at h1
    · rename_i h0
      by_cases e : k = n
      · subst e; exact h0
      · exact ih k h1 (by omega)
    · omega
theorem trim_getD (xs : List Int) (k : Nat) : (trim xs).getD k 0 = xs.getD k 0 := by
  unfold trim
  have hle := tl_le xs xs.length
  by_cases h : k < tl xs xs.length
  · simp [List.getD, List.getElem?_take, h]
  · have h1 : (xs.take (tl xs xs.length)).getD k 0 = 0 := by simp [List.getD, List.getElem?_take, h]
    rw [h1]
    by_cases h2 : k < xs.length
    · exact (tl_zero xs xs.length k (by omega) h2).symm
    · have : xs.length ≤ k := by omega
      simp [List.getD, List.getElem?_eq_none this]
theorem trim_le (xs : List Int) : (trim xs).length ≤ xs.length := by
  unfold trim
  rw [List.length_take]; exact Nat.min_le_right _ _

theorem dkL_len (A : Nat → Nat → Int) (n : Nat) : (dkL A n).length = n + 1 := by simp [dkL]
theorem dkL_get {A : Nat → Nat → Int} {n j : Nat} (h : j < n + 1) : (dkL A n).getD j 0 = dk A n j := by simp [dkL, List.getD, h]

/-- the characteristic polynomial -/
def chL (A : Nat → Nat → Int) (n : Nat) : List Int := (List.range (n + 1)).map (fun j => dk A n (n - j))
def chT (A : Nat → Nat → Int) (n q : Nat) : List Int := (List.range (n + 1)).map (fun j => if n - j < q then dk A n (n - j) else 0)
theorem chL_len (A : Nat → Nat → Int) (n : Nat) : (chL A n).length = n + 1 := by simp [chL]
theorem chT_len (A : Nat → Nat → Int) (n q : Nat) : (chT A n q).length = n + 1 := by simp [chT]
theorem chL_get {A : Nat → Nat → Int} {n j : Nat} (h : j < n + 1) : (chL A n).getD j 0 = dk A n (n - j) := by simp [chL, List.getD, h]
theorem chT_zero (A : Nat → Nat → Int) (n : Nat) : (madeCells #[Value.int .i64 0] (n + 1)).toList = (chT A n 0).map (Value.int .i64) := by
  apply List.ext_getElem
  · simp [chT, toList_madeCells_one]
  · intro j h1 h2
    simp [chT, toList_madeCells_one]
theorem chT_set (A : Nat → Nat → Int) {n q : Nat} (h : q ≤ n) : ((chT A n q).map (Value.int .i64)).set (n - q) (.int .i64 (dk A n q)) = (chT A n (q + 1)).map (Value.int .i64) := by
  apply List.ext_getElem
  · simp [chT]
  · intro j h1 h2
    have hj : j < n + 1 := by simpa [chT] using h2
    rw [List.getElem_set]
    by_cases e : n - q = j
    · subst e
      have e1 : n - (n - q) = q := by omega
      simp [chT, e1]
    · rw [if_neg e]
      simp only [chT, List.map_map, List.getElem_map, List.getElem_range, Function.comp]
      have : (n - j < q) ↔ (n - j < q + 1) := by omega
      simp only [this]
theorem chT_all (A : Nat → Nat → Int) (n m : Nat) (h : ∀ k, m ≤ k → k < n + 1 → dk A n k = 0) : chT A n m = chL A n := by
  unfold chT chL
  refine List.map_congr_left fun j hj => ?_
  have hj : j < n + 1 := by simpa using hj
  by_cases e : n - j < m
  · rw [if_pos e]
  · rw [if_neg e, h (n - j) (by omega) (by omega)]
theorem chL_I64 {A : Nat → Nat → Int} {n : Nat} (h : fits A n) : ∀ x ∈ chL A n, I64 x := fun x hx => by
  unfold chL at hx
  obtain ⟨j, hj, rfl⟩ := List.mem_map.mp hx
  exact fits_I64 h (by omega)
theorem chL_take (A : Nat → Nat → Int) {n q : Nat} (h : q < n + 1) : (chL A n).take (q + 1) = (chL A n).take q ++ [dk A n (n - q)] := by
  rw [List.take_add_one, List.getElem?_eq_getElem (by rw [chL_len]; exact h)]
  simp [chL]
theorem dk_trim0 {A : Nat → Nat → Int} {n : Nat} : ∀ k, (trim (dkL A n)).length ≤ k → k < n + 1 → dk A n k = 0 := fun k h1 h2 => by
  have h3 := trim_getD (dkL A n) k
  rw [dkL_get h2] at h3
  rw [← h3]
  simp [List.getD, List.getElem?_eq_none h1]
theorem dk_trim {A : Nat → Nat → Int} {n : Nat} : ∀ k, k < n + 1 → (trim (dkL A n)).getD k 0 = dk A n k := fun k h2 => by
  rw [trim_getD, dkL_get h2]

/-- the numbers of the adjacency rows -/
def adF (xss : List (List Int)) : Nat → Nat → Int := fun i j => adS (pairs xss) xss.length i j
theorem upd_bd {p : Int → Int → Int} {B : Int} (h : ∀ x y, 0 ≤ p x y ∧ p x y ≤ B) (hB : B ≤ 1000) (a b : Int) : ∀ x y, 0 ≤ upd p a b x y ∧ upd p a b x y ≤ B + 1 := fun x y => by
  unfold upd
  have h1 := h a b
  have h2 := h x y
  split
  · rw [wrap_of (by unfold I64; omega)]; omega
  · omega
theorem adS_bd (es : List (Int × Int)) : ∀ q, q ≤ 100 → ∀ x y, 0 ≤ adS es q x y ∧ adS es q x y ≤ 2 * (q : Int)
  | 0, _, x, y => ⟨Int.le_refl 0, Int.le_refl 0⟩
  | q + 1, h, x, y => by
    have h1 := upd_bd (upd_bd (adS_bd es q (by omega)) (by omega) (es.getD q (0, 0)).1 (es.getD q (0, 0)).2) (by omega) (es.getD q (0, 0)).2 (es.getD q (0, 0)).1 x y
    show 0 ≤ upd (upd (adS es q) _ _) _ _ x y ∧ upd (upd (adS es q) _ _) _ _ x y ≤ _
    omega
theorem adF_bd {s : Int} {xss : List (List Int)} (hg : grB s xss = true) (i j : Nat) : 0 ≤ adF xss i j ∧ adF xss i j ≤ 20 := by
  have hs := grB_iff hg
  have := adS_bd (pairs xss) xss.length (by omega) i j
  unfold adF
  omega
theorem adF_fits {S : Nat} {xss : List (List Int)} (hg : grB (S : Int) xss = true) : fits (adF xss) S := by
  have hs := grB_iff hg
  refine fits_small _ S (by omega) fun i j hi hj => ?_
  have := adF_bd hg i j
  omega
theorem put_bd {f : Nat → Nat → Int} {B : Int} (h : ∀ x y, -B ≤ f x y ∧ f x y ≤ B) {i j : Nat} {v : Int} (hv : -(B + 1) ≤ v ∧ v ≤ B + 1) : ∀ x y, -(B + 1) ≤ put f i j v x y ∧ put f i j v x y ≤ B + 1 := fun x y => by
  unfold put
  have := h x y
  split <;> omega
theorem up1_bd {f : Nat → Nat → Int} {B : Int} (h : ∀ x y, -B ≤ f x y ∧ f x y ≤ B) (hB : B ≤ 1000) (i j : Nat) : ∀ x y, -(B + 1) ≤ up1 f i j x y ∧ up1 f i j x y ≤ B + 1 := by
  have := h i j
  exact put_bd h (by rw [wrap_of (by unfold I64; omega)]; omega)
theorem dn1_bd {f : Nat → Nat → Int} {B : Int} (h : ∀ x y, -B ≤ f x y ∧ f x y ≤ B) (hB : B ≤ 1000) (i j : Nat) : ∀ x y, -(B + 1) ≤ dn1 f i j x y ∧ dn1 f i j x y ≤ B + 1 := by
  have := h i j
  exact put_bd h (by rw [wrap_of (by unfold I64; omega)]; omega)
/-- an edge moves one cell's number by at most 2: the four places are two on the diagonal and two beside it -/
theorem lapE_bd {f : Nat → Nat → Int} {B : Int} (h : ∀ x y, -B ≤ f x y ∧ f x y ≤ B) (h0 : 0 ≤ B) (hB : B ≤ 1000) (a b : Nat) : ∀ x y, -(B + 1) ≤ lapE f a b x y ∧ lapE f a b x y ≤ B + 1 := by
  intro x y
  unfold lapE
  split
  · have := h x y; omega
  · rename_i hab
    have haa := h a a
    have hbb := h b b
    have hab' := h a b
    have hba := h b a
    have hxy := h x y
    have w1 : wrap64 (f a a + 1) = f a a + 1 := wrap_of (by unfold I64; omega)
    have w2 : wrap64 (f b b + 1) = f b b + 1 := wrap_of (by unfold I64; omega)
    have w3 : wrap64 (f a b - 1) = f a b - 1 := wrap_of (by unfold I64; omega)
    have w4 : wrap64 (f b a - 1) = f b a - 1 := wrap_of (by unfold I64; omega)
    have e1 : up1 f a a b b = f b b := by unfold up1 put; rw [if_neg (by omega)]
    have e2 : up1 (up1 f a a) b b a b = f a b := by unfold up1 put; rw [if_neg (by omega), if_neg (by omega)]
    have e3 : dn1 (up1 (up1 f a a) b b) a b b a = f b a := by unfold dn1 up1 put; rw [if_neg (by omega), if_neg (by omega), if_neg (by omega)]
    unfold dn1
    unfold dn1 at e3
    rw [e3, e2, w3, w4]
    unfold up1
    unfold up1 at e1
    rw [e1, w1, w2]
    unfold put
    split
    · omega
    · split
      · omega
      · split
        · omega
        · split <;> omega
theorem lapS_bd (es : List (Int × Int)) : ∀ q : Nat, q ≤ 100 → ∀ x y, -(q : Int) ≤ lapS es q x y ∧ lapS es q x y ≤ (q : Int)
  | 0, _, x, y => by unfold lapS zeros; omega
  | q + 1, h, x, y => by
    rw [lapS_step]
    have := lapE_bd (lapS_bd es q (by omega)) (by omega) (by omega) (es.getD q (0, 0)).1.toNat (es.getD q (0, 0)).2.toNat x y
    omega
def lpF (xss : List (List Int)) : Nat → Nat → Int := lapS (pairs xss) xss.length
theorem lpF_fits {S : Nat} {xss : List (List Int)} (hg : grB (S : Int) xss = true) : fits (lpF xss) S := by
  have hs := grB_iff hg
  refine fits_small _ S (by omega) fun i j hi hj => ?_
  have := lapS_bd (pairs xss) xss.length (by omega) i j
  unfold lpF
  omega
end Go.Proofs.YtnblhkhdilkbeaaDoor
