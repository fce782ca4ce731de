/- Merged: Mat, Zero, Prod, Trace, RdL, MapI (the plain kit of these proofs). -/
import Derived.Test.YtnblhkhdilkbeaaDoorCoreA
import Derived.StillTailTactics
import Derived.Test.YtnblhkhdilkbeaaDoorCoreB
import Derived.Maps.RangeWalk
import Derived.WideKeyEntry
set_option linter.unusedSimpArgs false
set_option linter.unusedVariables false
/- Square tables of numbers: plain mathematics. -/
namespace Go.Proofs.YtnblhkhdilkbeaaDoor
open Go.RowKit

/-- the table of f, N rows of N numbers -/
def tab (N : Nat) (f : Nat → Nat → Int) : List (List Int) := (List.range N).map fun i => (List.range N).map (f i)
theorem tab_len (N : Nat) (f : Nat → Nat → Int) : (tab N f).length = N := by simp [tab]
theorem tab_row {N i : Nat} (f : Nat → Nat → Int) (h : i < N) : (tab N f).getD i [] = (List.range N).map (f i) := by
  unfold tab
  simp [List.getD, h]
theorem tab_rlen {N i : Nat} (f : Nat → Nat → Int) (h : i < N) : ((tab N f).getD i []).length = N := by rw [tab_row f h]; simp
theorem tab_take {N k : Nat} (f : Nat → Nat → Int) (h : k < N) : (tab N f).take (k+1) = (tab N f).take k ++ [(List.range N).map (f k)] := by
  unfold tab
  rw [← List.map_take, ← List.map_take, List.take_range, List.take_range, Nat.min_eq_left (by omega), Nat.min_eq_left (by omega), List.range_succ, List.map_append]
  rfl
theorem map_get {N j : Nat} (f : Nat → Int) (h : j < N) : ((List.range N).map f).getD j 0 = f j := by simp [List.getD, h]
theorem tab_get {N i j : Nat} (f : Nat → Nat → Int) (hi : i < N) (hj : j < N) : ((tab N f).getD i []).getD j 0 = f i j := by rw [tab_row f hi, map_get _ hj]
theorem tab_congr {N : Nat} {f g : Nat → Nat → Int} (h : ∀ i j, i < N → j < N → f i j = g i j) : tab N f = tab N g := by
  unfold tab
  refine List.map_congr_left fun i hi => List.map_congr_left fun j hj => h i j (by simpa using hi) (by simpa using hj)
/-- one number turns -/
def put (f : Nat → Nat → Int) (i j : Nat) (x : Int) : Nat → Nat → Int := fun a b => if a = i ∧ b = j then x else f a b
theorem tab_set {N i j : Nat} (f : Nat → Nat → Int) (x : Int) (hi : i < N) (hj : j < N) : (tab N f).set i (((tab N f).getD i []).set j x) = tab N (put f i j x) := by
  apply List.ext_getElem
  · simp [tab]
  · intro a h1 h2
    simp only [tab_len, List.length_set] at h1
    rw [List.getElem_set]
    by_cases ea : i = a
    · subst ea
      rw [if_pos rfl, tab_row f hi]
      apply List.ext_getElem
      · simp [tab]
      · intro b h3 h4
        simp only [List.length_set, List.length_map, List.length_range] at h3
        rw [List.getElem_set]
        by_cases eb : j = b
        · subst eb; simp [tab, put]
        · have eb' : ¬ b = j := fun e => eb e.symm
          simp [tab, put, eb, eb']
    · rw [if_neg ea]
      have ea' : ¬ a = i := fun e => ea e.symm
      simp [tab, put, ea']
theorem tab_lens {N : Nat} (f : Nat → Nat → Int) : lens (tab N f) = N * N := by
  unfold lens tab
  rw [List.map_map]
  have : (List.length ∘ fun i => (List.range N).map (f i)) = fun _ => N := by funext i; simp
  rw [this]
  have : ∀ k, ((List.range k).map fun _ => N).sum = k * N := by
    intro k
    induction k with
    | zero => simp
    | succ k ih => rw [List.range_succ, List.map_append, List.sum_append, ih]; simp [Nat.succ_mul]
  exact this N

/-- sums of products, as they are reckoned -/
def dotW (u v : Nat → Int) : Nat → Int
  | 0 => 0
  | k + 1 => wrap64 (dotW u v k + wrap64 (u k * v k))
def mulM (N : Nat) (A B : Nat → Nat → Int) : Nat → Nat → Int := fun i j => dotW (A i) (fun k => B k j) N
def trW (A : Nat → Nat → Int) : Nat → Int
  | 0 => 0
  | i + 1 => wrap64 (trW A i + A i i)
theorem wrap_I64 (x : Int) : I64 (wrap64 x) := by unfold I64 wrap64; omega
theorem wrap_of {x : Int} (h : I64 x) : wrap64 x = x := by unfold I64 at h; unfold wrap64; omega
theorem I64_zero : I64 0 := by unfold I64; omega
theorem dotW_I64 (u v : Nat → Int) (k : Nat) : I64 (dotW u v k) := by
  cases k with
  | zero => exact I64_zero
  | succ k => exact wrap_I64 _
theorem trW_I64 (A : Nat → Nat → Int) (k : Nat) : I64 (trW A k) := by
  cases k with
  | zero => exact I64_zero
  | succ k => exact wrap_I64 _
theorem dotW_congr {u v u' v' : Nat → Int} {k : Nat} (h : ∀ i, i < k → u i = u' i ∧ v i = v' i) : dotW u v k = dotW u' v' k := by
  induction k with
  | zero => rfl
  | succ k ih => simp only [dotW]; rw [ih (fun i hi => h i (by omega)), (h k (by omega)).1, (h k (by omega)).2]
theorem trW_congr {A B : Nat → Nat → Int} {k : Nat} (h : ∀ i, i < k → A i i = B i i) : trW A k = trW B k := by
  induction k with
  | zero => rfl
  | succ k ih => simp only [trW]; rw [ih (fun i hi => h i (by omega)), h k (by omega)]
theorem dotW_skip {u v : Nat → Int} {k : Nat} (h : u k = 0) : dotW u v (k + 1) = dotW u v k := by
  simp only [dotW]
  rw [h, Int.zero_mul, wrap_of I64_zero, Int.add_zero, wrap_of (dotW_I64 u v k)]
/-- powers: A to the k + 1 -/
def powM (N : Nat) (A : Nat → Nat → Int) : Nat → Nat → Nat → Int
  | 0 => A
  | k + 1 => mulM N (powM N A k) A
/-- .. and from the unit table on -/
def unitM : Nat → Nat → Int := fun i j => if i = j then 1 else 0

end Go.Proofs.YtnblhkhdilkbeaaDoor

/- Rows of zeros, made anew; sums on diagonals. -/
namespace Go.Proofs.YtnblhkhdilkbeaaDoor
open Go.RowKit

def zeros : Nat → Nat → Int := fun _ _ => 0
theorem made_row (n : Nat) : (madeCells #[Value.int .i64 0] n).toList = ((List.range n).map (zeros 0)).map (Value.int .i64) := by
  rw [toList_madeCells_one]
  apply List.ext_getElem
  · simp
  · intro j h1 h2
    simp [zeros]
theorem row_OwI {n : Nat} {w w' : World} {v : Value} (hn : n ≤ 1000) (h : w'.ownsRow w.heap.size 2 1 v n (madeCells #[Value.int .i64 0] n).toList) : OwI w.heap.size w'.heap.size w' v ((List.range n).map (zeros 0)) := by
  rw [made_row] at h
  refine .mk h (by omega) (fun x hx => ?_)
  simp [zeros] at hx
  rw [← hx.2]; exact I64_zero

set_option maxRecDepth 100000 in
set_option maxHeartbeats 1600000 in
theorem zeroRows_pos (n : Nat) (w : World) (hn : n ≤ 1000) (hw : 0 < w.heap.size) :
    Calls Tryd.prog 85 #[.int .i64 n] w fun e w' => ∃ v, e = .returned v ∧ OwR w.heap.size w'.heap.size w' v (tab n zeros) ∧ Below w.heap.size w w' := by
  obtain ⟨i0, hi', z0, z1, z2⟩ := info_parts Tryd.info25
  obtain ⟨j0, hj', y0, y1, y2⟩ := info_parts Tryd.info2
  have HT := Lib.hid (show (tab n zeros).length = n from tab_len _ _)
  go_enter Tryd.func85, Tryd.ntmps85
  go_wp2_with (at_make; refine wpList_make_full _ rfl _ _ 22 rfl w.heap.size 25 i0 (.slice none 0 0) 1 Tryd.underlying22 hi' z0 z1 _ _ _ _ n rfl rfl rfl rfl ?c1 ?c2 ?c3 ?_)
  case c1 => rw [z2]; omega
  case c2 => unfold maxLen; omega
  case c3 => exact Nat.le_refl _
  intro w1 hown hgr
  have hbl : Below w.heap.size w w1 := (Below.refl _ _).grown hgr (by simp) (by simp)
  have hP := OwP.made (x := 0) hown (by omega)
  rw [← filled_zero (tab n zeros) n] at hP
  obtain ⟨G, hG⟩ : ∃ G, G = w.heap.size := ⟨_, rfl⟩
  rw [← hG] at hP hw ⊢
  have HG := Lib.hid hG
  rw [← hG] at hbl
  clear hgr hown hG
  go_wp2
  go_loopw [9] (fun i wr => ∃ (k : Nat) (rvs : List Value), k ≤ n ∧ i = .int .i64 k ∧ OwP G 0 wr G n n rvs (filled (tab n zeros) k n) ∧ Below G w wr) (fun i _ => n - (intOf i).toNat)
  case atStart => exact ⟨0, _, Nat.zero_le _, rfl, hP, hbl⟩
  case round =>
    clear hP hbl
    obtain ⟨k, rvs, hk, rfl, hP, hB⟩ := hrel
    by_cases hlt : k < n
    · have hst := filled_step (rows := tab n zeros) HT.out hlt
      rw [tab_row _ hlt] at hst
      have HST := Lib.hid hst
      have hGw : G ≤ wr.heap.size := by have := hB.size; have := HG.out; omega
      have hz0 : 0 < wr.heap.size := by omega
      clear hst
      go_wp2_with (at_make; refine wpList_make_full _ rfl _ _ 25 rfl wr.heap.size 2 j0 (.int .i64 0) 1 Tryd.underlying25 hj' y0 y1 _ _ _ _ n rfl rfl rfl rfl ?d1 ?d2 ?d3 ?_)
      case d1 => rw [y2]; omega
      case d2 => unfold maxLen; omega
      case d3 => exact Nat.le_refl _
      intro w2 hown2 hgr2
      have hb2 : Below wr.heap.size wr w2 := (Below.refl _ _).grown hgr2 (by simp) (by simp)
      have hrv := row_OwI hn hown2
      obtain ⟨R, hR⟩ : ∃ R, R = wr.heap.size := ⟨_, rfl⟩
      have hput := hP.put hz0 hb2 hlt hrv
      have hPP := hP.below hb2
      rw [show (List.range n).map (zeros 0) = (List.range n).map (zeros k) from rfl, HST.out] at hput
      have hB2 : Below G w w2 := hB.trans (hb2.mono hGw)
      obtain ⟨ov, hcell⟩ : ∃ ov, w2.cell? ⟨G, k, none⟩ = some ov := ⟨_, (hPP.row hlt).1⟩
      have hfr := hPP.out.frozenAt k
      rw [← hR] at hput ⊢
      have HF := Lib.hid (⟨hput, hB2.setCell (p := ⟨G, k, none⟩) (Nat.le_refl _) _⟩ : _ ∧ Below G w (w2.setCell ⟨G, k, none⟩ (.slice (some ⟨R, 0, none⟩) n n)))
      clear hput hPP hB2 hrv hb2 hgr2 hown2 hP hB hR
      go_wp2
      go_roundw
      case rel => exact ⟨k+1, _, by omega, by go_num, HF.out⟩
      case measure => simp [intOf]; omega
    · have e2 : filled (tab n zeros) k n = tab n zeros := by
        obtain rfl : k = n := by omega
        exact filled_all HT.out
      rw [e2] at hP
      have HF := Lib.hid (⟨hP.owr (by omega), hB⟩ : _ ∧ _)
      clear hP hB e2
      go_wp2
      go_ret
      exact ⟨_, rfl, by rw [← HG.out]; exact HF.out⟩

set_option maxRecDepth 100000 in
theorem zeroRows_zero (w : World) :
    Calls Tryd.prog 85 #[.int .i64 0] w fun e w' => ∃ v, e = .returned v ∧ OwR w.heap.size w'.heap.size w' v (tab 0 zeros) ∧ Below w.heap.size w w' := by
  obtain ⟨i0, hi', z0, z1, z2⟩ := info_parts Tryd.info25
  go_enter Tryd.func85, Tryd.ntmps85
  go_wp2_with (at_make; refine wpList_make_full _ rfl _ _ 22 rfl w.heap.size 25 i0 (.slice none 0 0) 1 Tryd.underlying22 hi' z0 z1 _ _ _ _ 0 rfl rfl rfl rfl ?c1 ?c2 ?c3 ?_)
  case c1 => rw [z2]; omega
  case c2 => unfold maxLen; omega
  case c3 => exact Nat.le_refl _
  intro w1 hown hgr
  have hbl : Below w.heap.size w w1 := (Below.refl _ _).grown hgr (by simp) (by simp)
  have hO : OwR w.heap.size w1.heap.size w1 (.slice (some ⟨w.heap.size, 0, none⟩) 0 0) (tab 0 zeros) := OwR.nil (by simpa [toList_madeCells_one] using hown) (Nat.le_refl _)
  have HF := Lib.hid (⟨hO, hbl⟩ : _ ∧ _)
  clear hO hbl hgr hown
  go_wp2
  refine wp_loop_rounds 1 ?_
  rw [rounds_succ]
  go_wp2
  go_ret
  exact ⟨_, rfl, HF.out⟩

theorem zeroRows (n : Nat) (w : World) (hn : n ≤ 1000) (hw : n = 0 ∨ 0 < w.heap.size) :
    Calls Tryd.prog 85 #[.int .i64 n] w fun e w' => ∃ v, e = .returned v ∧ OwR w.heap.size w'.heap.size w' v (tab n zeros) ∧ Below w.heap.size w w' := by
  rcases hw with rfl | hw
  · exact zeroRows_zero w
  · exact zeroRows_pos n w hn hw

end Go.Proofs.YtnblhkhdilkbeaaDoor

/- Products of square rows, by the program; sums on diagonals. -/
namespace Go.Proofs.YtnblhkhdilkbeaaDoor
open Go.RowKit

theorem RdI.at' {lo hi : Nat} {w : World} {a : Option Addr} {n c : Nat} {xs : List Int} (h : RdI lo hi w (.slice a n c) xs) (hn : xs.length = n) : ∀ j, j < n → ∃ b off, a = some ⟨b, off, none⟩ ∧ w.cell? ⟨b, off + j, none⟩ = some (.int .i64 (xs.getD j 0)) := by
  intro j hj
  obtain ⟨_, _, ⟨a', c', rfl, _⟩ | ⟨b, off, c', hv, _, _, _, hc⟩⟩ := h
  · simp at hn; omega
  · simp only [Value.slice.injEq] at hv
    exact ⟨b, off, hv.1, hc j (by omega)⟩
theorem RdR.ent {lo hi : Nat} {w : World} {a : Option Addr} {n c : Nat} {f : Nat → Nat → Int} (h : RdR lo hi w (.slice a n c) (tab n f)) {i j : Nat} (hi' : i < n) (hj : j < n) :
    ∃ b off b' off' c', a = some ⟨b, off, none⟩ ∧ w.cell? ⟨b, off + i, none⟩ = some (.slice (some ⟨b', off', none⟩) n c') ∧ w.cell? ⟨b', off' + j, none⟩ = some (.int .i64 (f i j)) := by
  obtain ⟨b, off, rv, e1, e2, e3⟩ := h.at (tab_len _ _) i hi'
  obtain ⟨a', c', rfl⟩ := e3.shape
  rw [tab_rlen f hi'] at e2 e3
  obtain ⟨b', off', rfl, e4⟩ := e3.at' (tab_rlen f hi') j hj
  rw [tab_get f hi' hj] at e4
  exact ⟨b, off, b', off', c', e1, e2, e4⟩
theorem OwR.ent {lo hi : Nat} {w : World} {a : Option Addr} {n c : Nat} {f : Nat → Nat → Int} (h : OwR lo hi w (.slice a n c) (tab n f)) {i j : Nat} (hi' : i < n) (hj : j < n) :
    ∃ g b cb, a = some ⟨g, 0, none⟩ ∧ w.cell? ⟨g, i, none⟩ = some (.slice (some ⟨b, 0, none⟩) n cb) ∧ w.cell? ⟨b, j, none⟩ = some (.int .i64 (f i j)) ∧ w.frozen? ⟨b, j, none⟩ = false ∧ lo ≤ b ∧ b < hi ∧ b < w.heap.size ∧
      ∀ x, I64 x → OwR lo hi (w.setCell ⟨b, j, none⟩ (.int .i64 x)) (.slice a n c) (tab n (put f i j x)) := by
  obtain ⟨g, c', b, cb, e1, e2, e3, e4, e5, e6, e7, _, _, _, _, _, e8⟩ := h.store (k := i) (j := j) (by rw [tab_len]; exact hi') (by rw [tab_rlen f hi']; exact hj)
  rw [tab_rlen f hi'] at e2
  rw [tab_get f hi' hj] at e3
  simp only [Value.slice.injEq] at e1
  refine ⟨g, b, cb, e1.1, e2, e3, e4, e5, e6, e7, fun x hx => ?_⟩
  have := e8 x hx
  rw [tab_set f x hi' hj] at this
  exact this

/-- the product on the way: rows below i are done, of row i the numbers below j, and at i, j the first k products are added up -/
def stg (n : Nat) (A B : Nat → Nat → Int) (i j k : Nat) : Nat → Nat → Int := fun a b => if a < i ∨ (a = i ∧ b < j) then mulM n A B a b else if a = i ∧ b = j then dotW (A a) (fun q => B q b) k else 0
theorem stg_start (n : Nat) (A B : Nat → Nat → Int) : stg n A B 0 0 0 = zeros := by
  funext a b
  unfold stg zeros
  by_cases h : a = 0 ∧ b = 0
  · simp [h, dotW]
  · simp [h]
theorem stg_at (n : Nat) (A B : Nat → Nat → Int) (i j k : Nat) : stg n A B i j k i j = dotW (A i) (fun q => B q j) k := by simp [stg]
theorem stg_put (n : Nat) (A B : Nat → Nat → Int) (i j k : Nat) : put (stg n A B i j k) i j (wrap64 (dotW (A i) (fun q => B q j) k + wrap64 (A i k * B k j))) = stg n A B i j (k + 1) := by
  funext a b
  unfold put stg
  by_cases h : a = i ∧ b = j
  · obtain ⟨rfl, rfl⟩ := h
    simp [dotW]
  · rw [if_neg h, if_neg h, if_neg h]
theorem stg_next (n : Nat) (A B : Nat → Nat → Int) (i j : Nat) : stg n A B i j n = stg n A B i (j + 1) 0 := by
  funext a b
  unfold stg
  by_cases h : a = i ∧ b = j
  · obtain ⟨rfl, rfl⟩ := h
    simp [mulM]
  · by_cases h1 : a < i ∨ (a = i ∧ b < j)
    · have h2 : a < i ∨ (a = i ∧ b < j + 1) := by omega
      rw [if_pos h1, if_pos h2]
    · have h2 : ¬ (a < i ∨ (a = i ∧ b < j + 1)) := by omega
      rw [if_neg h1, if_neg h2, if_neg h]
      by_cases h3 : a = i ∧ b = j + 1
      · rw [if_pos h3]; rfl
      · rw [if_neg h3]
theorem stg_row (n : Nat) (A B : Nat → Nat → Int) (i : Nat) : tab n (stg n A B i n 0) = tab n (stg n A B (i + 1) 0 0) := by
  refine tab_congr fun a b ha hb => ?_
  unfold stg
  by_cases h1 : a < i ∨ (a = i ∧ b < n)
  · have h2 : a < i + 1 ∨ (a = i + 1 ∧ b < 0) := by omega
    rw [if_pos h1, if_pos h2]
  · have h2 : ¬ (a < i + 1 ∨ (a = i + 1 ∧ b < 0)) := by omega
    rw [if_neg h1, if_neg h2]
    have h3 : ¬ (a = i ∧ b = n) := by omega
    rw [if_neg h3]
    by_cases h4 : a = i + 1 ∧ b = 0
    · rw [if_pos h4]; rfl
    · rw [if_neg h4]
theorem stg_all (n : Nat) (A B : Nat → Nat → Int) : tab n (stg n A B n 0 0) = tab n (mulM n A B) := by
  refine tab_congr fun a b ha hb => ?_
  unfold stg
  rw [if_pos (by omega)]

end Go.Proofs.YtnblhkhdilkbeaaDoor

/- Sums on diagonals, by the program; EdgeMatrix's rows, by the program. -/
namespace Go.Proofs.YtnblhkhdilkbeaaDoor
open Go.RowKit Go.Maps

end Go.Proofs.YtnblhkhdilkbeaaDoor

/- A block's first cells read as a list of numbers. -/
namespace Go.Proofs.YtnblhkhdilkbeaaDoor
open Go.RowKit

/-- a block's first cells read so -/
def RdL (w : World) (g : Nat) (xs : List Int) : Prop := ∀ t, t < xs.length → w.cell? ⟨g, t, none⟩ = some (.int .i64 (xs.getD t 0))
theorem RdL.below {w w' : World} {g : Nat} {xs : List Int} (h : RdL w g xs) (hb : Below w.heap.size w w') : RdL w' g xs := fun t ht => hb.keep (h t ht)
theorem RdL.own {w : World} {lo g n c : Nat} {xs : List Int} (h : w.ownsRow lo 2 1 (.slice (some ⟨g, 0, none⟩) n c) n (xs.map (Value.int .i64))) : RdL w g xs := fun t ht => by
  have hl := h.1
  rw [List.length_map, Nat.mul_one] at hl
  have := World.ownsRow.cellAt h t (by omega)
  rw [this]
  simp [List.getD, List.getElem?_eq_getElem ht]
theorem RdL.grown {w w' : World} {o : Obj} {g : Nat} {xs : List Int} {vb : Option Nat} (h : RdL w g xs) (hgr : (w.alloc o).grownBy w' vb) (hne : some g ≠ vb) : RdL w' g xs := fun t ht =>
  hgr.cell (((Below.refl w.heap.size w).alloc (Nat.le_refl _) o).keep (h t ht)) hne

end Go.Proofs.YtnblhkhdilkbeaaDoor

/- The program's own counts of pairs: a map from edges to numbers. -/
namespace Go.Proofs.YtnblhkhdilkbeaaDoor
open Go.RowKit Go.Maps Go.WideMaps Go.ChangeMaps Go.MapKept Go.ChangeShapes Go.WideShapes Go.WideElems

theorem edgeArr : ArrKey Tryd.prog 99 2 2 := ⟨Tryd.underlying99, by kernel_rfl, by kernel_rfl, by kernel_rfl⟩
theorem edgeLaw : KeyLaw Tryd.prog 99 := deep_law_laid laidOut (m := 2) (by omega) (of_decide_eq_true (by kernel_rfl)) (by kernel_rfl) (by rw [Tryd.underlying99])
theorem edgeKey : Keyed Tryd.prog 99 := Keyed.of_law edgeLaw
theorem ek_key {a b : Int} (ha : I64 a) (hb : I64 b) : keyOf Tryd.prog 99 (.agg #[.int .i64 a, .int .i64 b]) = some (pk a b) :=
  keyOf_pair edgeArr Tryd.underlying2 (Nat.exists_eq_succ_of_ne_zero (of_decide_eq_true (by kernel_rfl))) (wfLit ha) (wfLit hb)

theorem ek_inj {a b c d : Int} (ha : I64 a) (hb : I64 b) (hc : I64 c) (hd : I64 d) (h : pk a b = pk c d) : a = c ∧ b = d := by
  have e := edgeKey.inj (ek_key ha hb) (h ▸ ek_key hc hd)
  simp at e
  exact e

def MapI (w : World) (b n : Nat) (p : Int → Int → Int) : Prop :=
  ∃ D : DataW Unit, w.ownsMap Tryd.prog 99 (plainElem Tryd.prog 2) b n D ∧ ∀ x y, I64 x → I64 y → D.atKey (pk x y) (.lit (.int .i64 0)) = .lit (.int .i64 (p x y))
theorem MapI.made (w : World) : MapI (w.alloc (.map #[] 0)) w.heap.size 0 (fun _ _ => 0) := ⟨_, World.ownsMap_made _ _ _ _, fun _ _ _ _ => rfl⟩
theorem MapI.lt {w : World} {b n : Nat} {p : Int → Int → Int} (h : MapI w b n p) : b < w.heap.size := by
  obtain ⟨D, h, _⟩ := h
  exact h.lt
theorem MapI.keep {w w' : World} {b n : Nat} {p : Int → Int → Int} (h : MapI w b n p) (hB : Below w.heap.size w w') : MapI w' b n p := by
  have hl := h.lt
  obtain ⟨D, ⟨es, clock, hb, F, hs, hD⟩, ha⟩ := h
  exact ⟨D, ⟨es, clock, (hB.block b hl).trans hb, F, hs, hD⟩, ha⟩
theorem MapI.chg {lo hi : Nat} {w w' : World} {b n : Nat} {p : Int → Int → Int} (h : MapI w b n p) (hB : Chg lo hi w w') (ho : b < lo ∨ hi ≤ b) : MapI w' b n p := by
  have hl := h.lt
  obtain ⟨D, ⟨es, clock, hb, F, hs, hD⟩, ha⟩ := h
  exact ⟨D, ⟨es, clock, (hB.block b hl ho).trans hb, F, hs, hD⟩, ha⟩
theorem zeroInt (w : World) : (zeroValue 2).run Tryd.prog w = .ok (.int .i64 0) w := by kernel_rfl
theorem MapI.look {w : World} {b n : Nat} {p : Int → Int → Int} (h : MapI w b n p) {x y : Int} (hx : I64 x) (hy : I64 y) :
    (Instr.lookup 120 (.map (some b)) (.agg #[.int .i64 x, .int .i64 y]) false).run Tryd.prog w = .ok (.int .i64 (p x y)) w := by
  obtain ⟨D, h1, h2⟩ := h
  obtain ⟨c, hrun, hat, _⟩ := h1.lookup_int edgeKey Tryd.underlying120 Tryd.underlying2 (zeroInt w) (ek_key hx hy)
  rw [h2 x y hx hy] at hat
  simp at hat
  rw [hrun, hat]

/-- the entry alone: it reads as before -/
theorem MapI.entry1 {w : World} {b n : Nat} {p : Int → Int → Int} (h : MapI w b n p) (hn : n < maxLen) {x y : Int} (hx : I64 x) (hy : I64 y) {v1 : Value} {w1 : World}
    (he : (Instr.mapEntry 120 (.map (some b)) (.agg #[.int .i64 x, .int .i64 y])).run Tryd.prog w = .ok v1 w1) : MapI w1 b (n + 1) p := by
  have hlk := h.look hx hy
  obtain ⟨D, ⟨es, clock, hb, F, hs, hD⟩, h2⟩ := h
  have hkey := ek_key hx hy
  have hlt : b < w.heap.size := (Array.getElem?_eq_some_iff.1 hb).1
  rcases edgeLaw.find w hkey es.toList F.keys with ⟨h1, h3⟩ | ⟨j, e0, h1, h3, h4⟩
  · have a1 : (Instr.mapEntry 120 (.map (some b)) (.agg #[.int .i64 x, .int .i64 y])).run Tryd.prog w = .ok (.tuple #[.int .i64 0, goInt clock]) (setBlock w b (.map (es.push ⟨.agg #[.int .i64 x, .int .i64 y], .int .i64 0, clock⟩) (clock + 1))) := by
      simp [Instr.mapEntry, run_underlying Tryd.underlying120, MapKept.run_getObj_map hb, edgeLaw.check w false hkey, h1, zeroInt, MapKept.run_setObj_map _ hb, Result.andThen, setBlock]
    have a2 : (Instr.mapUpdate 120 (.map (some b)) (.agg #[.int .i64 x, .int .i64 y]) (.int .i64 0)).run Tryd.prog w = .ok () (setBlock w b (.map (es.push ⟨.agg #[.int .i64 x, .int .i64 y], .int .i64 0, clock⟩) (clock + 1))) := by
      simp [Instr.mapUpdate, run_underlying Tryd.underlying120, MapKept.run_getObj_map hb, edgeLaw.check w false hkey, h1, MapKept.run_setObj_map _ hb, Result.andThen, setBlock]
    have a3 : (Instr.lookup 120 (.map (some b)) (.agg #[.int .i64 x, .int .i64 y]) false).run Tryd.prog w = .ok (.int .i64 0) w := by
      simp [Instr.lookup, run_underlying Tryd.underlying120, MapKept.run_getObj_map hb, edgeLaw.check w es.isEmpty hkey, h1, zeroInt, Result.andThen]
    have hp0 : p x y = 0 := by
      rw [a3] at hlk
      simpa using hlk.symm
    have h1o : w.ownsMap Tryd.prog 99 (plainElem Tryd.prog 2) b n D := ⟨es, clock, hb, F, hs, hD⟩
    obtain ⟨w', f1, f2, f3⟩ := h1o.update edgeKey Tryd.underlying120 hn hkey (plainElem_int Tryd.underlying2 (wfLit (show I64 0 by unfold I64; omega)))
    rw [a2] at f1
    rw [a1] at he
    have ew : w1 = w' := by
      have e1 : setBlock w b (.map (es.push ⟨.agg #[.int .i64 x, .int .i64 y], .int .i64 0, clock⟩) (clock + 1)) = w' := by simpa using f1
      have e2 : setBlock w b (.map (es.push ⟨.agg #[.int .i64 x, .int .i64 y], .int .i64 0, clock⟩) (clock + 1)) = w1 := by
        simp at he; exact he.2
      rw [← e2, e1]
    rw [ew]
    refine ⟨_, f2, fun x' y' ix iy => ?_⟩
    by_cases hc : x' = x ∧ y' = y
    · obtain ⟨rfl, rfl⟩ := hc
      rw [atKey_put_same h1o.isMap (edgeKey.key (ek_key ix iy)), hp0]
    · rw [atKey_put_other (fun e' => hc (ek_inj ix iy hx hy e')), h2 x' y' ix iy]
  · have hj : es[j]? = some e0 := by simpa using h3
    have hsame : es.modify j (fun e => { e with key := .agg #[.int .i64 x, .int .i64 y] }) = es := by
      apply Array.ext'
      rw [Array.toList_modify, modify_eq_set _ _ _ _ h3]
      have : ({ e0 with key := .agg #[.int .i64 x, .int .i64 y] } : MapEntry) = e0 := by rw [← h4]
      rw [this]
      exact WideElems.set_self _ _ _ h3
    have a1 : (Instr.mapEntry 120 (.map (some b)) (.agg #[.int .i64 x, .int .i64 y])).run Tryd.prog w = .ok (.tuple #[e0.val, goInt e0.born]) (setBlock w b (.map es clock)) := by
      simp [Instr.mapEntry, run_underlying Tryd.underlying120, MapKept.run_getObj_map hb, edgeLaw.check w false hkey, h1, hj, h4, edgeLaw.stays w hkey, hsame, MapKept.run_setObj_map _ hb, Result.andThen, setBlock]
    rw [a1] at he
    have e2 : setBlock w b (.map es clock) = w1 := by simp at he; exact he.2
    rw [← e2]
    exact ⟨D, ⟨es, clock, by simp [setBlock, hlt], F, by omega, hD⟩, h2⟩

/-- m[k]++: the entry, then the store -/
theorem MapI.entry {w : World} {b n : Nat} {p : Int → Int → Int} (h : MapI w b n p) (hn : n < maxLen) {x y v : Int} (hx : I64 x) (hy : I64 y) (hv : I64 v) :
    ∃ (v0 : Value) (st : Nat) (w1 w2 : World), (Instr.mapEntry 120 (.map (some b)) (.agg #[.int .i64 x, .int .i64 y])).run Tryd.prog w = .ok (.tuple #[v0, .int .i64 st]) w1 ∧
      (Instr.entryStore 120 (.map (some b)) (.int .i64 st) (.int .i64 v)).run Tryd.prog w1 = .ok () w2 ∧ MapI w2 b (n + 1) (fun x' y' => if x' = x ∧ y' = y then v else p x' y') ∧ w.grownBy w2 (some b) ∧ w.grownBy w1 (some b) := by
  obtain ⟨D, ⟨es, clock, hb, F, hs, hD⟩, h2⟩ := h
  obtain ⟨v0, st, es1, clock1, e1, _, e3⟩ := WideElems.entry_then_store edgeLaw Tryd.underlying120 zeroInt hb F (ek_key hx hy)
  have hlt : b < w.heap.size := (Array.getElem?_eq_some_iff.1 hb).1
  have hb1 : (setBlock w b (.map es1 clock1)).heap[b]? = some (.map es1 clock1) := by simp [setBlock, hlt]
  obtain ⟨es', clock', e4, e5⟩ := e3 (setBlock w b (.map es1 clock1)) (.int .i64 v) hb1
  have h1 : w.ownsMap Tryd.prog 99 (plainElem Tryd.prog 2) b n D := ⟨es, clock, hb, F, hs, hD⟩
  obtain ⟨w', f1, f2, f3⟩ := h1.update edgeKey Tryd.underlying120 hn (ek_key hx hy) (plainElem_int Tryd.underlying2 (wfLit hv))
  have hw : setBlock (setBlock w b (.map es1 clock1)) b (.map es' clock') = setBlock w b (.map es' clock') := by simp [setBlock]
  rw [hw] at e4
  have hw' : setBlock w b (.map es' clock') = w' := by
    rw [e5] at f1
    simpa using f1
  rw [hw'] at e4
  refine ⟨v0, st, _, w', e1, e4, ⟨_, f2, fun x' y' ix iy => ?_⟩, f3, (show w.mapTurned (setBlock w b (.map es1 clock1)) b from ⟨es, clock, es1, clock1, hb, rfl⟩).grown⟩
  by_cases hc : x' = x ∧ y' = y
  · obtain ⟨rfl, rfl⟩ := hc
    rw [atKey_put_same h1.isMap (edgeKey.key (ek_key ix iy))]; simp
  · rw [atKey_put_other (fun e' => hc (ek_inj ix iy hx hy e')), h2 x' y' ix iy]; simp [hc]

end Go.Proofs.YtnblhkhdilkbeaaDoor
