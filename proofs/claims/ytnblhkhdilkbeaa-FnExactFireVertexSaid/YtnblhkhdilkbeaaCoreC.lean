/- Merged: MatZ, SpecMat, SpecProd, SpecCnt, SpecStc, SpecLen, SpecRows, SpecCl, SpecWM (the plain kit of these proofs). -/
import Derived.Test.YtnblhkhdilkbeaaCoreG
import Derived.Test.YtnblhkhdilkbeaaCoreF
import Derived.Test.YtnblhkhdilkbeaaCoreB
import Derived.Test.YtnblhkhdilkbeaaCoreD
import Derived.Deep.RegionHeld3
import Derived.StillTailTactics
import Derived.Test.YtnblhkhdilkbeaaCoreA
set_option linter.unusedSimpArgs false
set_option linter.unusedVariables false
/- Powers of square tables without wrapping, and their bounds: plain mathematics. -/
namespace Go.Proofs.Ytnblhkhdilkbeaa
open Go.RowKit

def dotZ (u v : Nat → Int) : Nat → Int
  | 0 => 0
  | k + 1 => dotZ u v k + u k * v k
def pwZ (N : Nat) (M : Nat → Nat → Int) : Nat → Nat → Nat → Int
  | 0 => unitM
  | k + 1 => fun i j => dotZ (pwZ N M k i) (fun r => M r j) N
def bnd : Nat → Int
  | 0 => 1
  | k + 1 => 20 * bnd k
theorem bnd_pos (k : Nat) : 1 ≤ bnd k := by
  induction k with
  | zero => decide
  | succ k ih => simp only [bnd]; omega
theorem bnd_mono {k q : Nat} (h : k ≤ q) : bnd k ≤ bnd q := by
  induction q with
  | zero =>
    obtain rfl : k = 0 := by omega
    exact Int.le_refl _
  | succ q ih =>
    by_cases e : k = q + 1
    · subst e; exact Int.le_refl _
    · have := ih (by omega)
      have := bnd_pos q
      simp only [bnd]; omega
theorem bnd_12 : bnd 12 = 4096000000000000 := by decide
theorem bnd_le {k : Nat} (h : k ≤ 12) : bnd k ≤ 4096000000000000 := by rw [← bnd_12]; exact bnd_mono h
theorem mul01 {x y B : Int} (hx : 0 ≤ x ∧ x ≤ B) (hy : y = 0 ∨ y = 1) : 0 ≤ x * y ∧ x * y ≤ B := by
  rcases hy with rfl | rfl
  · rw [Int.mul_zero]; omega
  · rw [Int.mul_one]; exact hx
theorem dotZ_bd {u v : Nat → Int} {B : Int} (hu : ∀ r, 0 ≤ u r ∧ u r ≤ B) (hv : ∀ r, v r = 0 ∨ v r = 1) (k : Nat) : 0 ≤ dotZ u v k ∧ dotZ u v k ≤ k * B := by
  induction k with
  | zero => simp [dotZ]
  | succ k ih =>
    have h := mul01 (hu k) (hv k)
    have hB : 0 ≤ B := by have := hu 0; omega
    simp only [dotZ]
    have e : ((k + 1 : Nat) : Int) * B = (k : Int) * B + B := by rw [Int.natCast_add, Int.add_mul]; simp
    rw [e]
    omega
theorem kB {k : Nat} {B : Int} (hk : k ≤ 20) (hB : 0 ≤ B) : (k : Int) * B ≤ 20 * B := Int.mul_le_mul_of_nonneg_right (by omega) hB
theorem pwZ_bd {N : Nat} {M : Nat → Nat → Int} (hN : N ≤ 20) (hM : ∀ i j, M i j = 0 ∨ M i j = 1) (k : Nat) : ∀ i j, 0 ≤ pwZ N M k i j ∧ pwZ N M k i j ≤ bnd k := by
  induction k with
  | zero =>
    intro i j
    simp only [pwZ, unitM, bnd]
    split <;> omega
  | succ k ih =>
    intro i j
    have h := dotZ_bd (u := pwZ N M k i) (v := fun r => M r j) (fun r => ih i r) (fun r => hM r j) N
    have hp := bnd_pos k
    have := kB hN (show (0 : Int) ≤ bnd k by omega)
    simp only [pwZ, bnd]
    omega
/-- within the bounds nothing is wrapped -/
theorem dotW_dotZ {u v : Nat → Int} {B : Int} (hu : ∀ r, 0 ≤ u r ∧ u r ≤ B) (hv : ∀ r, v r = 0 ∨ v r = 1) (hB : B ≤ 4096000000000000) (k : Nat) (hk : k ≤ 20) : dotW u v k = dotZ u v k := by
  induction k with
  | zero => rfl
  | succ k ih =>
    have h := mul01 (hu k) (hv k)
    have h2 := dotZ_bd hu hv k
    have hB0 : 0 ≤ B := by have := hu 0; omega
    have h3 := kB (show k ≤ 20 by omega) hB0
    simp only [dotW, dotZ]
    rw [ih (by omega), wrap_of (show I64 (u k * v k) by unfold I64; omega), wrap_of (by unfold I64; omega)]
def pwW (N : Nat) (M : Nat → Nat → Int) : Nat → Nat → Nat → Int
  | 0 => unitM
  | k + 1 => mulM N (pwW N M k) M
theorem pwW_pwZ {N : Nat} {M : Nat → Nat → Int} (hN : N ≤ 20) (hM : ∀ i j, M i j = 0 ∨ M i j = 1) (k : Nat) (hk : k ≤ 13) : pwW N M k = pwZ N M k := by
  induction k with
  | zero => rfl
  | succ k ih =>
    funext i j
    simp only [pwW, pwZ, mulM]
    rw [ih (by omega)]
    exact dotW_dotZ (fun r => pwZ_bd hN hM k i r) (fun r => hM r j) (bnd_le (by omega)) N hN
def trZ (A : Nat → Nat → Int) : Nat → Int
  | 0 => 0
  | i + 1 => trZ A i + A i i
theorem trZ_bd {A : Nat → Nat → Int} {B : Int} (hA : ∀ i j, 0 ≤ A i j ∧ A i j ≤ B) (k : Nat) : 0 ≤ trZ A k ∧ trZ A k ≤ k * B := by
  induction k with
  | zero => simp [trZ]
  | succ k ih =>
    have h := hA k k
    have e : ((k + 1 : Nat) : Int) * B = (k : Int) * B + B := by rw [Int.natCast_add, Int.add_mul]; simp
    simp only [trZ]
    rw [e]; omega
theorem trW_trZ {A : Nat → Nat → Int} {B : Int} (hA : ∀ i j, 0 ≤ A i j ∧ A i j ≤ B) (hB : B ≤ 4096000000000000) (k : Nat) (hk : k ≤ 20) : trW A k = trZ A k := by
  induction k with
  | zero => rfl
  | succ k ih =>
    have h := hA k k
    have h2 := trZ_bd hA k
    have h3 := kB (show k ≤ 20 by omega) (show (0 : Int) ≤ B by omega)
    simp only [trW, trZ]
    rw [ih (by omega), wrap_of (by unfold I64; omega)]
/-- the closed number of k -/
def clN (N : Nat) (M : Nat → Nat → Int) (k : Nat) : Int := trZ (pwZ N M k) N
theorem clN_bd {N : Nat} {M : Nat → Nat → Int} (hN : N ≤ 20) (hM : ∀ i j, M i j = 0 ∨ M i j = 1) {k : Nat} (hk : k ≤ 12) : 0 ≤ clN N M k ∧ clN N M k ≤ 81920000000000000 := by
  have h := trZ_bd (pwZ_bd hN hM k) N
  have h2 := kB hN (show (0 : Int) ≤ bnd k by have := bnd_pos k; omega)
  have h3 := bnd_le hk
  unfold clN
  omega
theorem clN_trW {N : Nat} {M : Nat → Nat → Int} (hN : N ≤ 20) (hM : ∀ i j, M i j = 0 ∨ M i j = 1) {k : Nat} (hk : k ≤ 12) : trW (pwW N M k) N = clN N M k := by
  rw [pwW_pwZ hN hM k (by omega)]
  exact trW_trZ (pwZ_bd hN hM k) (bnd_le hk) N hN

end Go.Proofs.Ytnblhkhdilkbeaa

/- The rows of the edge matrix, by the model. -/
namespace Go.Proofs.Ytnblhkhdilkbeaa
open Go.RowKit

theorem edgeM_I64 (ds : List (Int × Int)) (i j : Nat) : I64 (edgeM ds i j) := by unfold edgeM; split <;> (unfold I64; omega)
/-- a row of it, up to f -/
def rowTo (g : Nat → Int) (N f : Nat) : List Value := (List.range N).map (fun q => Value.int .i64 (if q < f then g q else 0))
theorem rowTo_zero (g : Nat → Int) (N : Nat) : (madeCells #[Value.int .i64 0] N).toList = rowTo g N 0 := by
  rw [toList_madeCells_one]
  apply List.ext_getElem
  · simp [rowTo]
  · intro j h1 h2
    simp [rowTo]
theorem rowTo_all (g : Nat → Int) (N : Nat) : rowTo g N N = ((List.range N).map g).map (Value.int .i64) := by
  unfold rowTo
  rw [List.map_map]
  refine List.map_congr_left fun j hj => ?_
  rw [if_pos (by simpa using hj)]
  rfl
theorem rowTo_put (g : Nat → Int) {N f : Nat} (hf : f < N) (x : Int) (h : g f = x) : (rowTo g N f).set f (.int .i64 x) = rowTo g N (f+1) := by
  apply List.ext_getElem
  · simp [rowTo]
  · intro j h1 h2
    rw [List.getElem_set]
    by_cases e : f = j
    · subst e; simp [rowTo, h]
    · rw [if_neg e]
      have : (j < f) ↔ (j < f + 1) := by omega
      simp [rowTo, this]
theorem rowTo_skip (g : Nat → Int) {N f : Nat} (h : g f = 0) : rowTo g N f = rowTo g N (f+1) := by
  unfold rowTo
  refine List.map_congr_left fun j hj => ?_
  by_cases e : j = f
  · subst e; simp [h]
  · have : (j < f) ↔ (j < f + 1) := by omega
    simp [this]
theorem rowTo_get (g : Nat → Int) {N f j : Nat} (hj : j < N) : (rowTo g N f)[j]? = some (.int .i64 (if j < f then g j else 0)) := by
  simp [rowTo, hj]

set_option maxRecDepth 100000 in
set_option maxHeartbeats 6400000 in
theorem l02Matrix {lo hi : Nat} (s : Int) (a : Option Addr) (n c : Nat) (xss : List (List Int)) (w : World) (h : RdR lo hi w (.slice a n c) xss) (hn : xss.length = n) (hg : grB s xss = true) :
    Calls Try.prog 76 #[.agg #[.int .i64 s, .slice a n c]] w fun e w' => ∃ a' c', e = .returned (.slice a' (2 * n) c') ∧ OwR w.heap.size w'.heap.size w' (.slice a' (2 * n) c') (tab (2 * n) (edgeM (dirE (pairs xss)))) ∧ Below w.heap.size w w' := by
  obtain ⟨i0, hi', z0, z1, z2⟩ := info_parts Try.info2
  obtain ⟨j0, hj', y0, y1, y2⟩ := info_parts Try.info25
  have hn10 : n ≤ 10 := by have := grB_iff hg; omega
  have HR := Lib.hid h
  have HEN := Lib.hid (fun W' (h' : RdR lo hi W' (.slice a n c) xss) k h0 h1 => l01Ends s a n c xss W' h' hn hg k h0 h1)
  obtain ⟨ds, hds⟩ : ∃ ds, ds = dirE (pairs xss) := ⟨_, rfl⟩
  obtain ⟨N, hN⟩ : ∃ N, N = 2 * n := ⟨_, rfl⟩
  have HDL := Lib.hid (show ds.length = N by rw [hds, dirE_len, pairs_len, hn, hN])
  rw [← hds] at HEN ⊢
  have hN20 : N ≤ 20 := by omega
  have hm2 : IntKind.i64.wrap (2 * (n : Int)) = (N : Int) := by rw [hN]; rw [IntWalk.i64_in _ (by omega)]; omega
  have hm2' : wrap64 (2 * (n : Int)) = (N : Int) := by rw [hN]; rw [IntWalk.wrap64_in _ (by omega)]; omega
  have HM3 := Lib.hid (show 2 * (n : Int) = (N : Int) by omega)
  have HTL := Lib.hid (show (tab N (edgeM ds)).length = N from tab_len _ _)
  rw [← hN]
  clear h hn hg hds hN
  go_enter Try.func76, Try.ntmps76
  go_wp2
  have hB := (Below.refl w.heap.size w).alloc (Nat.le_refl _) (.cells #[.int .i64 s, .slice a n c] 30)
  have k0 : (w.alloc (.cells #[.int .i64 s, .slice a n c] 30)).cell? ⟨w.heap.size, 0, none⟩ = some (.int .i64 s) := by go_simp
  have k1 : (w.alloc (.cells #[.int .i64 s, .slice a n c] 30)).cell? ⟨w.heap.size, 1, none⟩ = some (.slice a n c) := by go_simp
  have hz : w.heap.size < (w.alloc (.cells #[.int .i64 s, .slice a n c] 30)).heap.size := by simp
  generalize w.alloc (.cells #[.int .i64 s, .slice a n c] 30) = W at hB k0 k1 hz ⊢
  obtain ⟨B, hB0⟩ : ∃ B, B = w.heap.size := ⟨_, rfl⟩
  rw [← hB0] at k0 k1 hz ⊢
  have HB0 := Lib.hid hB0
  have hal : Below W.heap.size W (W.drew.alloc (.cells #[] 25)) := (Below.refl _ _).drew.alloc (Nat.le_refl _) _
  have k1b := hal.keep k1
  have k1c : (W.alloc (.cells #[] 25)).drew.cell? ⟨B, 1, none⟩ = some (.slice a n c) := k1b
  clear hB0
  go_region_held3 (fun W' => W'.cell? ⟨B, 1, none⟩ = some (.slice a n c))
    (first | (exact k1) | (exact k1b) | (exact k1c) | go_keep)
    (first | fail)
  have HB := Lib.hid (⟨hB.next ((Below.refl W.heap.size W).alloc (Nat.le_refl _) (.cells #[] 25)), ((Below.refl W.heap.size W).alloc (Nat.le_refl _) (.cells #[] 25)).keep k0⟩ : Below w.heap.size w (W.alloc (.cells #[] 25)) ∧ (W.alloc (.cells #[] 25)).cell? ⟨B, 0, none⟩ = some (.int .i64 s))
  have hl0 := World.ownsRow_lit (base := W.heap.size) (e := 25) (size := 1) W #[] 0 (Nat.le_refl _) (by unfold maxLen; omega) rfl
  have hP0 : OwP W.heap.size B (W.alloc (.cells #[] 25)).drew W.heap.size 0 0 [] [] := OwP.empty hl0 (by omega)
  have HP0 := Lib.hid (⟨hP0, HB.out.1.drew, by show B < (W.alloc (.cells #[] 25)).heap.size; simp; omega, HB.out.2, k1c⟩ : _ ∧ Below w.heap.size w (W.alloc (.cells #[] 25)).drew ∧ B < (W.alloc (.cells #[] 25)).drew.heap.size ∧ (W.alloc (.cells #[] 25)).drew.cell? ⟨B, 0, none⟩ = some (.int .i64 s) ∧ (W.alloc (.cells #[] 25)).drew.cell? ⟨B, 1, none⟩ = some (.slice a n c))
  obtain ⟨L, hL⟩ : ∃ L, L = W.heap.size := ⟨_, rfl⟩
  have hBL : B < L := by omega
  have hLw : w.heap.size ≤ L := by rw [hL]; exact hB.size
  rw [← hL] at HP0 ⊢
  generalize (W.alloc (.cells #[] 25)).drew = V at HP0 ⊢
  clear HB hl0 hP0 k0 k1 k1b k1c hal hB hz hL hm2 hm2'
  go_wp2
  go_loopw [5, 3] (fun i v wr => ∃ (k : Nat) (rvs : List Value) (g cc : Nat), k ≤ N ∧ i = .int .i64 k ∧ v = .slice (some ⟨g, 0, none⟩) k cc ∧ OwP L B wr g k cc rvs ((tab N (edgeM ds)).take k) ∧ Below w.heap.size w wr ∧ B < wr.heap.size ∧ wr.cell? ⟨B, 0, none⟩ = some (.int .i64 s) ∧ wr.cell? ⟨B, 1, none⟩ = some (.slice a n c)) (fun i _ _ => N - (intOf i).toNat)
  case atStart => exact ⟨0, [], L, 0, Nat.zero_le _, rfl, rfl, HP0.out⟩
  case round =>
    clear HP0
    obtain ⟨k, rvs, g, cc, hk, rfl, rfl, hP, hB, hzr, k0, k1⟩ := hrel
    obtain ⟨U, rfl⟩ : ∃ U, U = wr := ⟨_, rfl⟩
    by_cases hlt : k < N
    · have hst := tab_take (edgeM ds) hlt
      have HST := Lib.hid hst
      have HPB := Lib.hid (⟨hP, hB, hzr⟩ : _ ∧ _ ∧ _)
      have HKU := Lib.hid (⟨k0, k1⟩ : _ ∧ _)
      have hmk0 : (0 : Int) ≤ (k : Int) := by omega
      have hmk1 : (k : Int) < 2 * (n : Int) := by rw [HM3.out]; omega
      have HE1 := Lib.hid (fun W' h' => HEN.out W' h' (k : Int) hmk0 hmk1)
      clear hst hP hB hzr hmk0 hmk1
      go_wp2_with (at_make; refine wpList_make_full _ rfl _ _ 25 rfl U.heap.size 2 i0 (.int .i64 0) 1 Try.underlying25 hi' z0 z1 _ _ _ _ N rfl rfl rfl rfl ?c1 ?c2 ?c3 ?_)
      case c1 => rw [z2]; omega
      case c2 => unfold maxLen; omega
      case c3 => exact Nat.le_refl _
      intro w1 hown hgr
      rw [rowTo_zero (edgeM ds k) N] at hown
      have hb1 : Below U.heap.size U w1 := (Below.refl _ _).grown hgr (Nat.le_refl _) (fun j hj => by cases hj)
      replace k0 := hb1.keep k0
      replace k1 := hb1.keep k1
      clear hgr
      go_wp2_with fail
      refine (HE1.out w1 (HR.out.below (HPB.out.2.1.next hb1))).mono ?_
      clear HE1
      rintro e w2 ⟨rfl, b2⟩
      replace hown := ownsRow_chg hown (b2.chg 0 0) (fun _ _ => .inr (Nat.zero_le _))
      replace hb1 := hb1.next b2
      replace k0 := b2.keep k0
      replace k1 := b2.keep k1
      obtain ⟨p1, hp1⟩ : ∃ p, p = (ds.getD (k : Int).toNat (0, 0)).2 := ⟨_, rfl⟩
      obtain ⟨p0, hp0⟩ : ∃ p, p = (ds.getD (k : Int).toNat (0, 0)).1 := ⟨_, rfl⟩
      rw [← hp1, ← hp0]
      have HP1 := Lib.hid hp1
      have HW2 := Lib.hid (⟨hown, hb1, k0, k1⟩ : _ ∧ _ ∧ _ ∧ _)
      clear hown hb1 k0 k1 b2 hp1 hp0
      obtain ⟨R, hR⟩ : ∃ R, R = U.heap.size := ⟨_, rfl⟩
      have HRR := Lib.hid hR
      rw [← hR] at HW2 ⊢
      clear hR
      have hrv : bits BinOp.xor .i64 (k : Int) 1 = rv (k : Int) := rfl
      go_wp2
      go_loopw [9] (fun i wr' => ∃ f : Nat, f ≤ N ∧ i = .int .i64 f ∧ wr'.ownsRow R 2 1 (.slice (some ⟨R, 0, none⟩) N N) N (rowTo (edgeM ds k) N f) ∧ Below R U wr' ∧ wr'.cell? ⟨B, 0, none⟩ = some (.int .i64 s) ∧ wr'.cell? ⟨B, 1, none⟩ = some (.slice a n c)) (fun i _ => N - (intOf i).toNat)
      case atStart => exact ⟨0, Nat.zero_le _, rfl, HW2.out⟩
      case round =>
        rename_i hrel
        clear HW2
        obtain ⟨f, hf, rfl, hown, hb, k0, k1⟩ := hrel
        by_cases hlf : f < N
        · have hmf0 : (0 : Int) ≤ (f : Int) := by omega
          have hmf1 : (f : Int) < 2 * (n : Int) := by rw [HM3.out]; omega
          have HBU := HPB.out.2.1
          have hsq := stepQ_at (ds := ds) (x := (k : Int)) (y := (f : Int)) ⟨by omega, by rw [HDL.out]; omega⟩ ⟨by omega, by rw [HDL.out]; omega⟩
          rw [← HP1.out] at hsq
          obtain ⟨q0, hq0⟩ : ∃ p, p = (ds.getD (f : Int).toNat (0, 0)).1 := ⟨_, rfl⟩
          obtain ⟨q1, hq1⟩ : ∃ p, p = (ds.getD (f : Int).toNat (0, 0)).2 := ⟨_, rfl⟩
          rw [← hq0] at hsq
          have HSQ := Lib.hid hsq
          have hbw : Below w.heap.size w wr := HBU.trans (hb.mono (by rw [HRR.out]; exact HBU.size))
          have HF0 := Lib.hid (⟨hown, hb, hbw⟩ : _ ∧ _ ∧ _)
          clear hsq HBU hown hb hbw
          go_wp2_with fail
          refine (HEN.out wr (HR.out.below HF0.out.2.2) (f : Int) hmf0 hmf1).mono ?_
          rw [← hq0, ← hq1]
          rintro e w5 ⟨rfl, b5⟩
          obtain ⟨hown, hb, hbw⟩ := HF0.out
          replace hown := ownsRow_chg hown (b5.chg 0 0) (fun _ _ => .inr (Nat.zero_le _))
          have hRw := hb.size
          replace hb := hb.trans (b5.mono (by rw [HRR.out]; rw [HRR.out] at hb; exact hb.size))
          replace k0 := b5.keep k0
          replace k1 := b5.keep k1
          clear HF0 b5 hq0 hq1 hbw hRw hmf0 hmf1
          by_cases e1 : q0 = p1
          · have e1b : (q0 == p1) = true := by simpa using e1
            have e1c : (p1 == q0) = true := by simpa using e1.symm
            have hsq := HSQ.out
            rw [e1c, Bool.true_and] at hsq
            by_cases e2 : (f : Int) = rv (k : Int)
            · have e2b : ((f : Int) != rv (k : Int)) = false := by simpa using e2
              rw [e2b] at hsq
              have hsk := rowTo_skip (edgeM ds k) (N := N) (f := f) (by unfold edgeM; simp [hsq])
              rw [hsk] at hown
              have HF := Lib.hid (⟨hown, hb, k0, k1⟩ : _ ∧ _ ∧ _ ∧ _)
              clear hsq hsk hown hb k0 k1 e1 e2 e1c
              go_wp2
              go_roundw
              case rel => exact ⟨f+1, by omega, by go_num, HF.out⟩
              case measure => simp [intOf]; omega
            · have e2b : ((f : Int) != rv (k : Int)) = true := by simpa using e2
              rw [e2b] at hsq
              have hput := rowTo_put (edgeM ds k) hlf 1 (by unfold edgeM; simp [hsq])
              have h3 := (hown.cellAt f (by omega)).trans (rowTo_get (edgeM ds k) hlf)
              have h4 := hown.frozenAt f
              have hsto := (hown.stored f (.int .i64 1)).1
              rw [hput] at hsto
              have hch : Chg R (R + 1) w5 (w5.setCell ⟨R, f, none⟩ (.int .i64 1)) := (Chg.refl R (R + 1) w5).setCell (p := ⟨R, f, none⟩) ⟨Nat.le_refl _, Nat.lt_succ_self _⟩ _
              have hBR : B < R := by rw [HRR.out]; exact HPB.out.2.2
              have HF := Lib.hid (⟨hsto, hb.setCell (p := ⟨R, f, none⟩) (Nat.le_refl _) _, hch.cell k0 (.inl hBR), hch.cell k1 (.inl hBR)⟩ : _ ∧ Below R U (w5.setCell ⟨R, f, none⟩ (.int .i64 1)) ∧ _ ∧ _)
              clear hsq hput hsto hown hb k0 k1 e1 e2 e1c hch hBR
              go_wp2
              go_roundw
              case rel => exact ⟨f+1, by omega, by go_num, HF.out⟩
              case measure => simp [intOf]; omega
          · have e1b : (q0 == p1) = false := by simpa using e1
            have hsq := HSQ.out
            rw [show (p1 == q0) = false by simpa using fun e => e1 e.symm, Bool.false_and] at hsq
            have hsk := rowTo_skip (edgeM ds k) (N := N) (f := f) (by unfold edgeM; simp [hsq])
            rw [hsk] at hown
            have HF := Lib.hid (⟨hown, hb, k0, k1⟩ : _ ∧ _ ∧ _ ∧ _)
            clear hsq hsk hown hb k0 k1 e1
            go_wp2
            go_roundw
            case rel => exact ⟨f+1, by omega, by go_num, HF.out⟩
            case measure => simp [intOf]; omega
        · obtain rfl : f = N := by omega
          rw [rowTo_all] at hown
          have hO : OwI R wr.heap.size wr (.slice (some ⟨R, 0, none⟩) f f) ((List.range f).map (edgeM ds k)) := OwI.mk hown (by omega) (fun x hx => by
            simp only [List.mem_map] at hx
            obtain ⟨j, _, rfl⟩ := hx
            exact edgeM_I64 ds k j)
          obtain ⟨hP, hB, hzr⟩ := HPB.out
          rw [HRR.out] at hO hb
          have hownV := (hP.below hb).out.alloc (.cells #[.slice (some ⟨R, 0, none⟩) f f] 25)
          have hnews := news_one wr 25 (.slice (some ⟨R, 0, none⟩) f f)
          have hszw := hb.size
          have hlt2 := hP.lt
          rw [← HRR.out] at hO
          have HP := Lib.hid (⟨hO, hP, hB, hb, k0, k1⟩ : _ ∧ _ ∧ _ ∧ _ ∧ _ ∧ _)
          clear hO hP hB hown hb
          go_wp2_with (at_builtin; refine wpList_append_lies _ rfl _ _ 22 rfl L 25 j0 (.slice none 0 0) 1 24 Try.underlying22 hj' y0 y1 y2 rfl (by decide) _ _ _ rfl hownV ⟨wr.heap.size, 0, none⟩ 1 1 [.slice (some ⟨R, 0, none⟩) f f] rfl rfl ?c1 ?c2 (by decide) ?c3 ?c4 ?c5 _ rfl ?_)
          case c1 => exact hnews
          case c2 => first | (intro u hu; simp at hu; subst hu; rfl) | rfl | simp
          case c3 => unfold maxLen; omega
          case c4 => omega
          case c5 => simp; omega
          intro g2 c3 w3 hown3 hgr hlie hlt3
          obtain ⟨hO, hP, hB, hb, k0, k1⟩ := HP.out
          rw [HRR.out] at hO hown3
          have hV3 := hP.snocF (hi := wr.heap.size) hzr hb hO hown3 hgr (hlie.imp id (fun e => by rw [e]; simp))
          have hb3 : Chg g (g + 1) U w3 := snocC hb hgr
          have hlt2 : L ≤ g ∧ g < U.heap.size := hlt2
          have hBg : B < g := by omega
          rw [← HST.out] at hV3
          have hB3 := hB.chgn hb3 (Nat.le_trans hLw (by omega)) hB.size
          have HF := Lib.hid (⟨hV3, hB3, Nat.lt_of_lt_of_le hzr hb3.size, hb3.cell HKU.out.1 (.inl hBg), hb3.cell HKU.out.2 (.inl hBg)⟩ : _ ∧ _ ∧ _ ∧ _ ∧ _)
          clear hO hP hB hb k0 k1 hV3 hb3 hB3 hown3 hgr hlie hnews hownV
          go_wp2
          go_roundw
          case rel => exact ⟨k+1, _, g2, c3, by omega, by go_num, rfl, HF.out⟩
          case measure => simp [intOf]; omega
    · obtain rfl : k = N := by omega
      rw [List.take_of_length_le (by rw [HTL.out]; exact Nat.le_refl _)] at hP
      have hbig : k ≤ 8796093022208 := Nat.le_trans hN20 (by decide)
      have hO := OwR.mono (hP.owr hbig) hLw (Nat.le_refl _)
      have HF := Lib.hid (⟨hO, hB⟩ : _ ∧ _)
      clear hO hbig
      clear hP hB k0 k1
      go_wp2
      go_ret
      exact ⟨_, _, rfl, HF.out⟩

end Go.Proofs.Ytnblhkhdilkbeaa

/- Products of square rows, by the model. -/
namespace Go.Proofs.Ytnblhkhdilkbeaa
open Go.RowKit

/-- a row of the product, the first j products added up; of the next ones, those below k -/
def prow (A B : Nat → Nat → Int) (i N j k : Nat) : List Value := (List.range N).map (fun q => Value.int .i64 (if q < k then dotW (A i) (fun r => B r q) (j + 1) else dotW (A i) (fun r => B r q) j))
theorem prow_zero (A B : Nat → Nat → Int) (i N : Nat) : (madeCells #[Value.int .i64 0] N).toList = prow A B i N 0 0 := by
  rw [toList_madeCells_one]
  apply List.ext_getElem
  · simp [prow]
  · intro j h1 h2
    simp [prow, dotW]
theorem prow_skip (A B : Nat → Nat → Int) (i N j : Nat) (h : A i j = 0) : prow A B i N j 0 = prow A B i N (j + 1) 0 := by
  unfold prow
  refine List.map_congr_left fun q hq => ?_
  simp only [Nat.not_lt_zero, if_false]
  rw [dotW_skip h]
theorem prow_next (A B : Nat → Nat → Int) (i N j : Nat) : prow A B i N j N = prow A B i N (j + 1) 0 := by
  unfold prow
  refine List.map_congr_left fun q hq => ?_
  rw [if_pos (by simpa using hq)]
  simp
theorem prow_get (A B : Nat → Nat → Int) {i N j k : Nat} (hk : k < N) : (prow A B i N j k)[k]? = some (.int .i64 (dotW (A i) (fun r => B r k) j)) := by
  simp [prow, hk]
theorem prow_put (A B : Nat → Nat → Int) {i N j k : Nat} (hk : k < N) : (prow A B i N j k).set k (.int .i64 (wrap64 (dotW (A i) (fun r => B r k) j + wrap64 (A i j * B j k)))) = prow A B i N j (k + 1) := by
  apply List.ext_getElem
  · simp [prow]
  · intro q h1 h2
    rw [List.getElem_set]
    by_cases e : k = q
    · subst e; simp [prow, dotW]
    · rw [if_neg e]
      have : (q < k) ↔ (q < k + 1) := by omega
      simp [prow, this]
theorem prow_all (A B : Nat → Nat → Int) (i N : Nat) : prow A B i N N 0 = ((List.range N).map (mulM N A B i)).map (Value.int .i64) := by
  unfold prow
  rw [List.map_map]
  refine List.map_congr_left fun q hq => ?_
  simp [mulM]
theorem mulM_I64 (N : Nat) (A B : Nat → Nat → Int) (i j : Nat) : I64 (mulM N A B i j) := dotW_I64 _ _ _

set_option maxRecDepth 100000 in
set_option maxHeartbeats 6400000 in
theorem l02Product_pos {lo hi lo1 hi1 : Nat} (aa : Option Addr) (N ca : Nat) (ab : Option Addr) (cb : Nat) (A B : Nat → Nat → Int) (w : World) (hN20 : N ≤ 1000) (hA : RdR lo hi w (.slice aa N ca) (tab N A)) (hB : RdR lo1 hi1 w (.slice ab N cb) (tab N B)) (h0 : 0 < N) :
    Calls Try.prog 70 #[.slice aa N ca, .slice ab N cb] w fun e w' => ∃ a' c', e = .returned (.slice a' N c') ∧ OwR w.heap.size w'.heap.size w' (.slice a' N c') (tab N (mulM N A B)) ∧ Below w.heap.size w w' := by
  obtain ⟨i0, hi', z0, z1, z2⟩ := info_parts Try.info2
  obtain ⟨j0, hj', y0, y1, y2⟩ := info_parts Try.info25
  have HA := Lib.hid hA
  have HB := Lib.hid hB
  have hw0 : 0 < w.heap.size := by
    obtain ⟨b, off, b', off', c', _, e2, _⟩ := hA.ent (i := 0) (j := 0) (by omega) (by omega)
    have := World.block_lt_of_cell? w _ e2
    omega
  have HTL := Lib.hid (show (tab N (mulM N A B)).length = N from tab_len _ _)
  have hl0 := World.ownsRow_lit (base := w.heap.size) (e := 25) (size := 1) w #[] 0 (Nat.le_refl _) (by unfold maxLen; omega) rfl
  have hP0 : OwP w.heap.size 0 (w.alloc (.cells #[] 25)) w.heap.size 0 0 [] [] := OwP.empty hl0 (by omega)
  have HP0 := Lib.hid (⟨hP0, (Below.refl w.heap.size w).alloc (Nat.le_refl _) (.cells #[] 25)⟩ : _ ∧ _)
  obtain ⟨L, hL⟩ : ∃ L, L = w.heap.size := ⟨_, rfl⟩
  rw [← hL] at HP0
  have HLL := Lib.hid hL
  have hLw : w.heap.size ≤ L := by omega
  have hL0 : 0 < L := by omega
  clear hA hB hl0 hP0 hw0
  go_enter Try.func70, Try.ntmps70
  go_wp2
  rw [← hL]
  clear hL
  go_loopw [6, 5] (fun i v wr => ∃ (k : Nat) (rvs : List Value) (g cc : Nat), k ≤ N ∧ i = .int .i64 k ∧ v = .slice (some ⟨g, 0, none⟩) k cc ∧ OwP L 0 wr g k cc rvs ((tab N (mulM N A B)).take k) ∧ Below L w wr) (fun i _ _ => N - (intOf i).toNat)
  case atStart => exact ⟨0, [], L, 0, Nat.zero_le _, rfl, rfl, HP0.out⟩
  case round =>
    clear HP0
    obtain ⟨k, rvs, g, cc, hk, rfl, rfl, hP, hB⟩ := hrel
    obtain ⟨U, rfl⟩ : ∃ U, U = wr := ⟨_, rfl⟩
    by_cases hlt : k < N
    · have hst := tab_take (mulM N A B) hlt
      have HST := Lib.hid hst
      have HPB := Lib.hid (⟨hP, hB⟩ : _ ∧ _)
      clear hst hP hB
      go_wp2_with (at_make; refine wpList_make_full _ rfl _ _ 25 rfl U.heap.size 2 i0 (.int .i64 0) 1 Try.underlying25 hi' z0 z1 _ _ _ _ N rfl rfl rfl rfl ?c1 ?c2 ?c3 ?_)
      case c1 => rw [z2]; omega
      case c2 => unfold maxLen; omega
      case c3 => exact Nat.le_refl _
      intro w1 hown hgr
      rw [prow_zero A B k N] at hown
      have hb1 : Below U.heap.size U w1 := (Below.refl _ _).grown hgr (Nat.le_refl _) (fun j hj => by cases hj)
      clear hgr
      have HW1 := Lib.hid (⟨hown, hb1⟩ : _ ∧ _)
      clear hown hb1
      obtain ⟨R, hR⟩ : ∃ R, R = U.heap.size := ⟨_, rfl⟩
      have HRR := Lib.hid hR
      rw [← hR] at HW1 ⊢
      clear hR
      go_wp2
      go_loopw [8] (fun i wr' => ∃ f : Nat, f ≤ N ∧ i = .int .i64 f ∧ wr'.ownsRow R 2 1 (.slice (some ⟨R, 0, none⟩) N N) N (prow A B k N f 0) ∧ Below R U wr') (fun i _ => N - (intOf i).toNat)
      case atStart => exact ⟨0, Nat.zero_le _, rfl, HW1.out⟩
      case round =>
        rename_i hrel
        clear HW1
        obtain ⟨f, hf, rfl, hown, hb⟩ := hrel
        by_cases hlf : f < N
        · have hbw : Below L w wr := HPB.out.2.trans (hb.mono (by rw [HRR.out]; exact Nat.le_trans HPB.out.1.lt.1 (Nat.le_of_lt HPB.out.1.lt.2)))
          rw [HLL.out] at hbw
          obtain ⟨ba, oa, bA, oA, cA, rfl, a1, a2⟩ := (HA.out.below hbw).ent (i := k) (j := f) hlt hlf
          clear hbw
          by_cases hx : A k f = 0
          · have hsk := prow_skip A B k N f hx
            rw [hx] at a2
            rw [hsk] at hown
            have HF := Lib.hid (⟨hown, hb⟩ : _ ∧ _)
            clear hsk hown hb hx
            go_wp2
            go_roundw
            case rel => exact ⟨f+1, by omega, by go_num, HF.out⟩
            case measure => simp [intOf]; omega
          · have hxb : (A k f == 0) = false := by simpa using hx
            have HF := Lib.hid (⟨hown, hb⟩ : _ ∧ _)
            obtain ⟨U2, rfl⟩ : ∃ U2, U2 = wr := ⟨_, rfl⟩
            clear hown hb hx
            generalize hxx : A k f = xx at a2 hxb
            have HXX := Lib.hid hxx
            clear hxx
            go_wp2
            go_loopw [9] (fun i wr' => ∃ q : Nat, q ≤ N ∧ i = .int .i64 q ∧ wr'.ownsRow R 2 1 (.slice (some ⟨R, 0, none⟩) N N) N (prow A B k N f q) ∧ Below R U wr') (fun i _ => N - (intOf i).toNat)
            case atStart => exact ⟨0, Nat.zero_le _, rfl, HF.out⟩
            case round =>
              rename_i hrel
              clear HF a1 a2 hxb
              obtain ⟨q, hq, rfl, hown, hb⟩ := hrel
              by_cases hlq : q < N
              · have hbw : Below L w wr := HPB.out.2.trans (hb.mono (by rw [HRR.out]; exact Nat.le_trans HPB.out.1.lt.1 (Nat.le_of_lt HPB.out.1.lt.2)))
                rw [HLL.out] at hbw
                obtain ⟨ba2, oa2, bA, oA, cA, hee, a1, a2⟩ := (HA.out.below hbw).ent (i := k) (j := f) hlt hlf
                obtain ⟨rfl, rfl⟩ : ba2 = ba ∧ oa2 = oa := by simp at hee; exact ⟨hee.1.symm, hee.2.symm⟩
                obtain ⟨bb, ob, bB, oB, cB, rfl, d1, d2⟩ := (HB.out.below hbw).ent (i := f) (j := q) hlf hlq
                have hst := prow_put A B (i := k) (N := N) (j := f) hlq
                have h3 := (hown.cellAt q (by omega)).trans (prow_get A B hlq)
                generalize A k f = x at a2 hst
                generalize B f q = y at d2 hst
                generalize dotW (A k) (fun r => B r q) f = d at h3 hst
                obtain ⟨m, hm⟩ : ∃ m, m = wrap64 (x * y) := ⟨_, rfl⟩
                obtain ⟨s, hs⟩ : ∃ s, s = wrap64 (d + m) := ⟨_, rfl⟩
                rw [← hm, ← hs] at hst
                have t1 : IntKind.i64.wrap (x * y) = m := by rw [IntWalk.i64_left, hm]
                have t2 : IntKind.i64.wrap (d + m) = s := by rw [IntWalk.i64_left, hs]
                have t3 : wrap64 (x * y) = m := hm.symm
                have t4 : wrap64 (d + m) = s := hs.symm
                have hownD : wr.drew.ownsRow R 2 1 (.slice (some ⟨R, 0, none⟩) N N) N (prow A B k N f q) := ownsRow_chg hown ((Qt.refl wr).drew.chg 0 0) (fun _ _ => .inr (Nat.zero_le _))
                have hsto := (hownD.stored q (.int .i64 s)).1
                have hfr := hownD.frozenAt q
                rw [hst] at hsto
                have HF := Lib.hid (⟨hsto, hb.drew.setCell (p := ⟨R, q, none⟩) (Nat.le_refl _) _⟩ : _ ∧ Below R U (wr.drew.setCell ⟨R, q, none⟩ (.int .i64 s)))
                have g2 : wr.drew.cell? ⟨R, q, none⟩ = some (.int .i64 d) := h3
                clear hst hm hs hsto hownD hown hb hbw hee
                go_wp2
                go_still_tail 23, (by kernel_rfl)
                change wpList _ _ _ _ _ wr.drew
                clear a1 a2 d1 d2 h3
                generalize wr.drew = V at HF g2 hfr ⊢
                go_wp2
                go_roundw
                case rel => exact ⟨q+1, by omega, by go_num, HF.out⟩
                case measure => simp [intOf]; omega
              · obtain rfl : q = N := by omega
                rw [prow_next] at hown
                have HF := Lib.hid (⟨hown, hb⟩ : _ ∧ _)
                clear hown hb
                go_wp2
                go_roundw
                case rel => exact ⟨f+1, by omega, by go_num, HF.out⟩
                case measure => simp [intOf]; omega
        · obtain rfl : f = N := by omega
          rw [prow_all] at hown
          have hO : OwI R wr.heap.size wr (.slice (some ⟨R, 0, none⟩) f f) ((List.range f).map (mulM f A B k)) := OwI.mk hown (by omega) (fun x hx => by
            simp only [List.mem_map] at hx
            obtain ⟨j, _, rfl⟩ := hx
            exact mulM_I64 _ _ _ k j)
          obtain ⟨hP, hB⟩ := HPB.out
          rw [HRR.out] at hO hb
          have hownV := (hP.below hb).out.alloc (.cells #[.slice (some ⟨R, 0, none⟩) f f] 25)
          have hnews := news_one wr 25 (.slice (some ⟨R, 0, none⟩) f f)
          have hszw := hb.size
          have hlt2 : L ≤ g ∧ g < U.heap.size := hP.lt
          rw [← HRR.out] at hO
          have HP := Lib.hid (⟨hO, hP, hB, hb⟩ : _ ∧ _ ∧ _ ∧ _)
          clear hO hP hB hown hb
          go_wp2_with (at_builtin; refine wpList_append_lies _ rfl _ _ 22 rfl L 25 j0 (.slice none 0 0) 1 24 Try.underlying22 hj' y0 y1 y2 rfl (by decide) _ _ _ rfl hownV ⟨wr.heap.size, 0, none⟩ 1 1 [.slice (some ⟨R, 0, none⟩) f f] rfl rfl ?c1 ?c2 (by decide) ?c3 ?c4 ?c5 _ rfl ?_)
          case c1 => exact hnews
          case c2 => first | (intro u hu; simp at hu; subst hu; rfl) | rfl | simp
          case c3 => unfold maxLen; omega
          case c4 => omega
          case c5 => simp; omega
          intro g2 c3 w3 hown3 hgr hlie hlt3
          obtain ⟨hO, hP, hB, hb⟩ := HP.out
          rw [HRR.out] at hO hown3
          have hV3 := hP.snocF (hi := wr.heap.size) (by omega) hb hO hown3 hgr (hlie.imp id (fun e => by rw [e]; simp))
          have hb3 : Chg g (g + 1) U w3 := snocC hb hgr
          rw [← HST.out] at hV3
          have hB3 := hB.chgn hb3 hlt2.1 (by omega)
          have HF := Lib.hid (⟨hV3, hB3⟩ : _ ∧ _)
          clear hO hP hB hb hV3 hb3 hB3 hown3 hgr hlie hnews hownV
          go_wp2
          go_roundw
          case rel => exact ⟨k+1, _, g2, c3, by omega, by go_num, rfl, HF.out⟩
          case measure => simp [intOf]; omega
    · obtain rfl : k = N := by omega
      rw [List.take_of_length_le (by rw [HTL.out]; exact Nat.le_refl _)] at hP
      have hbig : k ≤ 8796093022208 := by omega
      have hO := OwR.mono (hP.owr hbig) hLw (Nat.le_refl _)
      rw [HLL.out] at hB
      have HF := Lib.hid (⟨hO, hB⟩ : _ ∧ _)
      clear hO hbig hP hB
      go_wp2
      go_ret
      exact ⟨_, _, rfl, HF.out⟩

set_option maxRecDepth 100000 in
theorem l02Product_zero (aa : Option Addr) (ca : Nat) (ab : Option Addr) (cb : Nat) (A B : Nat → Nat → Int) (w : World) :
    Calls Try.prog 70 #[.slice aa 0 ca, .slice ab 0 cb] w fun e w' => ∃ a' c', e = .returned (.slice a' 0 c') ∧ OwR w.heap.size w'.heap.size w' (.slice a' 0 c') (tab 0 (mulM 0 A B)) ∧ Below w.heap.size w w' := by
  have hl0 := World.ownsRow_lit (base := w.heap.size) (e := 25) (size := 1) w #[] 0 (Nat.le_refl _) (by unfold maxLen; omega) rfl
  have hO : OwR w.heap.size (w.alloc (.cells #[] 25)).heap.size (w.alloc (.cells #[] 25)) (.slice (some ⟨w.heap.size, 0, none⟩) 0 0) (tab 0 (mulM 0 A B)) := OwR.nil hl0 (Nat.le_refl _)
  have HF := Lib.hid (⟨hO, (Below.refl w.heap.size w).alloc (Nat.le_refl _) (.cells #[] 25)⟩ : _ ∧ _)
  clear hO hl0
  go_enter Try.func70, Try.ntmps70
  go_wp2
  refine wp_loop_rounds 1 ?_
  rw [rounds_succ]
  go_wp2
  go_ret
  exact ⟨_, _, rfl, HF.out⟩
theorem l02Product {lo hi lo1 hi1 : Nat} (aa : Option Addr) (N ca : Nat) (ab : Option Addr) (cb : Nat) (A B : Nat → Nat → Int) (w : World) (hN20 : N ≤ 1000) (hA : RdR lo hi w (.slice aa N ca) (tab N A)) (hB : RdR lo1 hi1 w (.slice ab N cb) (tab N B)) :
    Calls Try.prog 70 #[.slice aa N ca, .slice ab N cb] w fun e w' => ∃ a' c', e = .returned (.slice a' N c') ∧ OwR w.heap.size w'.heap.size w' (.slice a' N c') (tab N (mulM N A B)) ∧ Below w.heap.size w w' := by
  by_cases h : N = 0
  · subst h; exact l02Product_zero aa ca ab cb A B w
  · exact l02Product_pos aa N ca ab cb A B w hN20 hA hB (by omega)

end Go.Proofs.Ytnblhkhdilkbeaa

/- Straight counts of the model. -/
namespace Go.Proofs.Ytnblhkhdilkbeaa
open Go.RowKit

/-- the traces of the powers 1 to k -/
def cnts (N : Nat) (M : Nat → Nat → Int) (k : Nat) : List Int := (List.range k).map (fun q => trW (powM N M q) N)
def cntV (N : Nat) (M : Nat → Nat → Int) (k : Nat) : List Value := (cnts N M k).map (Value.int .i64)
theorem cnts_len (N : Nat) (M : Nat → Nat → Int) (k : Nat) : (cnts N M k).length = k := by simp [cnts]
theorem cntV_step (N : Nat) (M : Nat → Nat → Int) (k : Nat) : cntV N M (k+1) = cntV N M k ++ [.int .i64 (trW (powM N M k) N)] := by simp [cntV, cnts, List.range_succ]
theorem cnts_I64 (N : Nat) (M : Nat → Nat → Int) (k : Nat) : ∀ x ∈ cnts N M k, I64 x := by
  intro x hx
  simp only [cnts, List.mem_map] at hx
  obtain ⟨q, _, rfl⟩ := hx
  exact trW_I64 _ _

end Go.Proofs.Ytnblhkhdilkbeaa

/- Codes of a graph and a number, by the model; StraightCounts of the model. -/
namespace Go.Proofs.Ytnblhkhdilkbeaa
open Go.RowKit

/-- the code of a graph and a number in a range -/
def ccode (s : Int) (xss : List (List Int)) (k low top : Int) : Int := if grB s xss = true then (if low ≤ k ∧ k ≤ top then 0 else 2) else 1
theorem ccode_ok {s : Int} {xss : List (List Int)} {k low top : Int} (h : ccode s xss k low top = 0) : grB s xss = true ∧ low ≤ k ∧ k ≤ top := by
  unfold ccode at h
  by_cases h1 : grB s xss = true
  · rw [if_pos h1] at h
    by_cases h2 : low ≤ k ∧ k ≤ top
    · exact ⟨h1, h2⟩
    · rw [if_neg h2] at h; omega
  · rw [if_neg h1] at h; omega
def stcOf (s : Int) (xss : List (List Int)) (k : Int) : List Int × Int := if ccode s xss k 1 10 = 0 then (cnts (2 * xss.length) (edgeM (dirE (pairs xss))) k.toNat, 0) else ([], ccode s xss k 1 10)

end Go.Proofs.Ytnblhkhdilkbeaa

/- Codes of a graph and a length, by the model. -/
namespace Go.Proofs.Ytnblhkhdilkbeaa
open Go.RowKit

end Go.Proofs.Ytnblhkhdilkbeaa

/- Numbers of walks of the model: l03Rows. -/
namespace Go.Proofs.Ytnblhkhdilkbeaa
open Go.RowKit

theorem edgeM_01 (ds : List (Int × Int)) (i j : Nat) : edgeM ds i j = 0 ∨ edgeM ds i j = 1 := by
  unfold edgeM
  split
  · exact .inr rfl
  · exact .inl rfl
/-- the next row on the way: the first b terms, and for the numbers below c one more -/
def nxt (u : Nat → Int) (M : Nat → Nat → Int) (b c : Nat) (j : Nat) : Int := dotZ u (fun r => M r j) b + (if j < c then u b * M b j else 0)
def nrow (u : Nat → Int) (M : Nat → Nat → Int) (N b c : Nat) : List Value := (List.range N).map (fun j => Value.int .i64 (nxt u M b c j))
def urow (u : Nat → Int) (N : Nat) : List Value := (List.range N).map (fun j => Value.int .i64 (u j))
theorem urow_get (u : Nat → Int) {N j : Nat} (h : j < N) : (urow u N)[j]? = some (.int .i64 (u j)) := by simp [urow, h]
theorem nrow_zero (u : Nat → Int) (M : Nat → Nat → Int) (N : Nat) : (madeCells #[Value.int .i64 0] N).toList = nrow u M N 0 0 := by
  rw [toList_madeCells_one]
  apply List.ext_getElem
  · simp [nrow]
  · intro j h1 h2
    simp [nrow, nxt, dotZ]
theorem nrow_next (u : Nat → Int) (M : Nat → Nat → Int) (N b : Nat) : nrow u M N b N = nrow u M N (b + 1) 0 := by
  unfold nrow
  refine List.map_congr_left fun j hj => ?_
  have : j < N := by simpa using hj
  simp [nxt, this, dotZ]
theorem nrow_skip (u : Nat → Int) (M : Nat → Nat → Int) (N b c : Nat) (h : u b = 0) : nrow u M N b c = nrow u M N (b + 1) 0 := by
  unfold nrow
  refine List.map_congr_left fun j hj => ?_
  simp [nxt, dotZ, h]
theorem nrow_no (u : Nat → Int) (M : Nat → Nat → Int) (N b c : Nat) (h : M b c = 0) : nrow u M N b c = nrow u M N b (c + 1) := by
  unfold nrow
  refine List.map_congr_left fun j hj => ?_
  by_cases e : j = c
  · subst e; simp [nxt, h]
  · have : (j < c) ↔ (j < c + 1) := by omega
    simp [nxt, this]
theorem nrow_get (u : Nat → Int) (M : Nat → Nat → Int) {N b c : Nat} (h : c < N) : (nrow u M N b c)[c]? = some (.int .i64 (dotZ u (fun r => M r c) b)) := by
  simp [nrow, nxt, h]
theorem nrow_yes (u : Nat → Int) (M : Nat → Nat → Int) {N b c : Nat} (hc : c < N) (h : M b c = 1) : (nrow u M N b c).set c (.int .i64 (dotZ u (fun r => M r c) b + u b)) = nrow u M N b (c + 1) := by
  apply List.ext_getElem
  · simp [nrow]
  · intro j h1 h2
    rw [List.getElem_set]
    by_cases e : c = j
    · subst e; simp [nrow, nxt, h]
    · rw [if_neg e]
      have : (j < c) ↔ (j < c + 1) := by omega
      simp [nrow, nxt, this]
theorem nrow_all (N : Nat) (M : Nat → Nat → Int) (i a : Nat) : nrow (pwZ N M i a) M N N 0 = urow (pwZ N M (i + 1) a) N := by
  unfold nrow urow
  refine List.map_congr_left fun j hj => ?_
  simp [nxt, pwZ]
theorem urow_unit {N a : Nat} (M : Nat → Nat → Int) (ha : a < N) : ((madeCells #[Value.int .i64 0] N).toList).set a (.int .i64 1) = urow (pwZ N M 0 a) N := by
  rw [toList_madeCells_one]
  apply List.ext_getElem
  · simp [urow]
  · intro j h1 h2
    rw [List.getElem_set]
    by_cases e : a = j
    · subst e; simp [urow, pwZ, unitM]
    · simp [urow, pwZ, unitM, e]
theorem zero_get {N a : Nat} (ha : a < N) : ((madeCells #[Value.int .i64 0] N).toList)[a]? = some (.int .i64 0) := by
  rw [toList_madeCells_one]; simp [ha]

end Go.Proofs.Ytnblhkhdilkbeaa

/- Closed numbers of the model. -/
namespace Go.Proofs.Ytnblhkhdilkbeaa
open Go.RowKit

end Go.Proofs.Ytnblhkhdilkbeaa

/- WalkMatrix of the model. -/
namespace Go.Proofs.Ytnblhkhdilkbeaa
open Go.RowKit

/-- the numbers of the walks from the directed edge a, added up by their last edges below b -/
def wmI (P : Nat → Nat → Int) (ds : List (Int × Int)) (a : Nat) (f : Nat → Nat → Int) : Nat → Nat → Nat → Int
  | 0 => f
  | b + 1 => put (wmI P ds a f b) (ds.getD a (0, 0)).1.toNat (ds.getD b (0, 0)).2.toNat (wrap64 (wmI P ds a f b (ds.getD a (0, 0)).1.toNat (ds.getD b (0, 0)).2.toNat + P a b))
def wmO (P : Nat → Nat → Int) (ds : List (Int × Int)) (N : Nat) : Nat → Nat → Nat → Int
  | 0 => zeros
  | a + 1 => wmI P ds a (wmO P ds N a) N
def wmRes (S kk N : Nat) (ds : List (Int × Int)) : List (List Int) := if kk = 0 then tab S unitM else tab S (wmO (pwZ N (edgeM ds) (kk - 1)) ds N N)
theorem wmRes_len (S kk N : Nat) (ds : List (Int × Int)) : (wmRes S kk N ds).length = S := by unfold wmRes; split <;> simp [tab_len]
theorem wmRes_lens (S kk N : Nat) (ds : List (Int × Int)) : lens (wmRes S kk N ds) = S * S := by unfold wmRes; split <;> simp [tab_lens]
def wmOf (s : Int) (xss : List (List Int)) (k : Int) : List (List Int) × Int :=
  if ccode s xss k 0 12 = 0 then (wmRes s.toNat k.toNat (2 * xss.length) (dirE (pairs xss)), 0) else ([], ccode s xss k 0 12)
theorem wmOf_lens (s : Int) (xss : List (List Int)) (k : Int) : lens (wmOf s xss k).1 ≤ 1000 := by
  unfold wmOf
  by_cases h : ccode s xss k 0 12 = 0
  · rw [if_pos h]
    have h1 := grB_iff (ccode_ok h).1
    have h2 : s.toNat ≤ 8 := by omega
    have h3 := Nat.mul_le_mul h2 h2
    simp only [wmRes_lens]; omega
  · rw [if_neg h]; simp [lens]
/-- the ends of directed edges are vertices -/
theorem dirE_in {s : Int} {xss : List (List Int)} (hg : grB s xss = true) {m : Nat} (hm : m < (dirE (pairs xss)).length) : (0 ≤ ((dirE (pairs xss)).getD m (0, 0)).1 ∧ ((dirE (pairs xss)).getD m (0, 0)).1 < s) ∧ (0 ≤ ((dirE (pairs xss)).getD m (0, 0)).2 ∧ ((dirE (pairs xss)).getD m (0, 0)).2 < s) := by
  obtain ⟨_, _, _, h4⟩ := grB_iff hg
  rw [dirE_len, pairs_len] at hm
  obtain ⟨q, hq⟩ : ∃ q, m = 2 * q ∨ m = 2 * q + 1 := ⟨m / 2, by omega⟩
  rcases hq with rfl | rfl
  · have := h4 q (by omega)
    rw [dirE_even, pairs_getD]
    simp only
    omega
  · have := h4 q (by omega)
    rw [dirE_odd _ _ (by rw [pairs_len]; omega), pairs_getD]
    simp only
    omega

/-- rows of zeros, the first k ones with a 1 on the diagonal where told -/
def zu (z : Bool) : Nat → Nat → Int := if z then unitM else zeros
theorem zu_row (z : Bool) {S k : Nat} (h : k < S) : (if z then ((madeCells #[Value.int .i64 0] S).toList).set k (.int .i64 1) else (madeCells #[Value.int .i64 0] S).toList) = ((List.range S).map (zu z k)).map (Value.int .i64) := by
  cases z with
  | true =>
    rw [if_pos rfl, toList_madeCells_one]
    apply List.ext_getElem
    · simp
    · intro j h1 h2
      rw [List.getElem_set]
      by_cases e : k = j
      · subst e; simp [zu, unitM]
      · simp [zu, unitM, e]
  | false =>
    rw [if_neg (by simp), toList_madeCells_one]
    apply List.ext_getElem
    · simp
    · intro j h1 h2
      simp [zu, zeros]
theorem zu_I64 (z : Bool) (i j : Nat) : I64 (zu z i j) := by
  cases z <;> simp [zu, zeros, unitM]
  · exact I64_zero
  · split <;> (unfold I64; omega)

theorem OwR.ent2 {lo hi : Nat} {w : World} {a : Option Addr} {n c : Nat} {f : Nat → Nat → Int} (h : OwR lo hi w (.slice a n c) (tab n f)) {i j : Nat} (hi' : i < n) (hj : j < n) :
    ∃ g b cb, a = some ⟨g, 0, none⟩ ∧ w.cell? ⟨g, i, none⟩ = some (.slice (some ⟨b, 0, none⟩) n cb) ∧ w.cell? ⟨b, j, none⟩ = some (.int .i64 (f i j)) ∧ w.frozen? ⟨b, j, none⟩ = false ∧ lo ≤ b ∧ b < hi ∧ b < w.heap.size ∧ g ≠ b ∧
      ∀ x, I64 x → OwR lo hi (w.setCell ⟨b, j, none⟩ (.int .i64 x)) (.slice a n c) (tab n (put f i j x)) := by
  obtain ⟨g, c', b, cb, e1, e2, e3, e4, e5, e6, e7, _, _, _, e9, _, e8⟩ := h.store (k := i) (j := j) (by rw [tab_len]; exact hi') (by rw [tab_rlen f hi']; exact hj)
  rw [tab_rlen f hi'] at e2
  rw [tab_get f hi' hj] at e3
  simp only [Value.slice.injEq] at e1
  refine ⟨g, b, cb, e1.1, e2, e3, e4, e5, e6, e7, e9, fun x hx => ?_⟩
  have := e8 x hx
  rw [tab_set f x hi' hj] at this
  exact this

end Go.Proofs.Ytnblhkhdilkbeaa
