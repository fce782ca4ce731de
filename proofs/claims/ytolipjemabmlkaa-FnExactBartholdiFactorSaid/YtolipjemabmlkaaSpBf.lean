/- BartholdiFactor of the model. -/
import Derived.Test.YtolipjemabmlkaaBfI
import Derived.Test.YtolipjemabmlkaaDetT
import Derived.Test.YtolipjemabmlkaaNwM
import Derived.Test.YtolipjemabmlkaaSpVf
set_option linter.unusedSimpArgs false
set_option linter.unusedVariables false
set_option maxRecDepth 100000
namespace Go.Proofs.Ytolipjemabmlkaa
open Go.RowKit

theorem wd_mod (p x d : Int) : (x % p * (x % p - d)) % p = (x * (x - d)) % p := by
  rw [Int.mul_emod, Int.emod_emod_of_dvd _ (Int.dvd_refl p), Int.sub_emod, Int.emod_emod_of_dvd _ (Int.dvd_refl p), ← Int.sub_emod, ← Int.mul_emod]
/-- a row of the model on the way: the first j numbers -/
def bfR (F : Nat → Int) (N j : Nat) : List Int := (List.range N).map (fun i => if i < j then F i else 0)
theorem bfR_0 (F : Nat → Int) (N : Nat) : (madeCells #[Value.int .i64 0] N).toList = (bfR F N 0).map (Value.int .i64) := by
  rw [toList_madeCells_one]
  apply List.ext_getElem
  · simp [bfR]
  · intro j h1 h2; simp [bfR]
theorem bfR_get (F : Nat → Int) {N j : Nat} (h : j < N) : ((bfR F N j).map (Value.int .i64))[j]? = some (Value.int .i64 0) := by simp [bfR, h]
theorem bfR_set (F : Nat → Int) {N j : Nat} (h : j < N) : ((bfR F N j).map (Value.int .i64)).set j (.int .i64 (F j)) = (bfR F N (j + 1)).map (Value.int .i64) := by
  apply List.ext_getElem
  · simp [bfR]
  · intro i h1 h2
    have hi : i < N := by simpa [bfR] using h2
    rw [List.getElem_set]
    by_cases e : j = i
    · subst e; simp [bfR]
    · rw [if_neg e]
      have : (i < j) ↔ (i < j + 1) := by omega
      simp [bfR, this]
theorem bf_row1 (p : Int) (A : Nat → Nat → Int) (d : Nat → Int) {S v : Nat} (hv : v < S) : ((bfR (fun i => A v i % p) (2 * S) S)).set (S + v) (d v % p) = (List.range (2 * S)).map (fmod p (vfM A d S) v) := by
  apply List.ext_getElem
  · simp [bfR]
  · intro j h1 h2
    have hj : j < 2 * S := by simpa using h2
    rw [List.getElem_set]
    simp only [bfR, List.getElem_map, List.getElem_range]
    unfold fmod vfM
    rw [if_pos hv]
    by_cases e : S + v = j
    · rw [if_pos e, if_neg (by omega), if_pos e.symm]
    · rw [if_neg e]
      by_cases e2 : j < S
      · rw [if_pos e2, if_pos e2]
      · rw [if_neg e2, if_neg e2, if_neg (fun x => e x.symm)]; simp
theorem bf_row2 (p : Int) (hp : 2 ≤ p) (A : Nat → Nat → Int) (d : Nat → Int) {S v : Nat} (hv : v < S) : ((List.range (2 * S)).map (fun _ => (0 : Int))).set v 1 = (List.range (2 * S)).map (fmod p (vfM A d S) (S + v)) := by
  have h1 : (1 : Int) % p = 1 := Int.emod_eq_of_lt (by decide) (by omega)
  apply List.ext_getElem
  · simp
  · intro j h3 h2
    rw [List.getElem_set]
    simp only [List.getElem_map, List.getElem_range]
    unfold fmod vfM
    rw [if_neg (show ¬ (S + v < S) by omega)]
    by_cases e : v = j
    · rw [if_pos e, if_pos (by omega), h1]
    · rw [if_neg e, if_neg (by omega)]; simp

theorem wd_bd2 {x d : Int} (hx : -10006 ≤ x ∧ x ≤ 10006) (hd : 0 ≤ d ∧ d ≤ 20) : -200000000 ≤ x * (x - d) ∧ x * (x - d) ≤ 200000000 := by
  have h := Int.natAbs_mul x (x - d)
  have h1 : x.natAbs ≤ 10006 := by omega
  have h2 : (x - d).natAbs ≤ 10026 := by omega
  have h3 := Nat.mul_le_mul h1 h2
  omega
/-- what stands ahead of the model's loops -/
structure BfS (B Lx LA LB S : Nat) (aA : Option Addr) (cA : Nat) (a : Option Addr) (n c : Nat) (A : Nat → Nat → Int) (w W : World) : Prop where
  own : OwP Lx B W Lx 0 0 [] []
  below : Below B w W
  hz : B < W.heap.size
  k0 : W.cell? ⟨B, 0, none⟩ = some (.int .i64 (S : Int))
  k1 : W.cell? ⟨B, 1, none⟩ = some (.slice a n c)
  rd : RdR LA LB W (.slice aA S cA) (tab S A)
  dj : Lx < LA ∨ LB ≤ Lx
  lb : LB ≤ W.heap.size
  bl : B < Lx
theorem bfs_lit (w : World) : (w.alloc (.cells #[] 26)).ownsRow w.heap.size 26 1 (.slice (some ⟨w.heap.size, 0, none⟩) 0 0) 0 [] := World.ownsRow_lit w #[] 0 (Nat.le_refl _) (by unfold maxLen; omega) rfl
theorem bfs1 {S : Nat} {aA : Option Addr} {cA : Nat} {a : Option Addr} {n c : Nat} {A : Nat → Nat → Int} {w w5 w6 : World} (hB5 : Below w.heap.size w w5) (h : RdR w5.heap.size w6.heap.size w6 (.slice aA S cA) (tab S A)) (b6 : Below w5.heap.size w5 w6)
    (k0 : w6.cell? ⟨w.heap.size, 0, none⟩ = some (.int .i64 (S : Int))) (k1 : w6.cell? ⟨w.heap.size, 1, none⟩ = some (.slice a n c)) (hz : w.heap.size < w5.heap.size) : BfS w.heap.size w6.heap.size w5.heap.size w6.heap.size S aA cA a n c A w (w6.alloc (.cells #[] 26)) := by
  have hs := b6.size
  have hb := (Below.refl w6.heap.size w6).alloc (Nat.le_refl _) (.cells #[] 26)
  exact ⟨OwP.empty (bfs_lit w6) (by omega), (hB5.next b6).next hb, by simp; omega, hb.keep k0, hb.keep k1, h.below hb, .inr (Nat.le_refl _), by simp, by omega⟩
theorem bfs2 {S : Nat} {aA : Option Addr} {cA : Nat} {a : Option Addr} {n c : Nat} {A : Nat → Nat → Int} {w w5 w6 : World} (hB5 : Below w.heap.size w w5) (h : RdR (w5.alloc (.cells #[] 26)).heap.size w6.heap.size w6 (.slice aA S cA) (tab S A)) (b6 : Below (w5.alloc (.cells #[] 26)).heap.size (w5.alloc (.cells #[] 26)) w6)
    (k0 : w6.cell? ⟨w.heap.size, 0, none⟩ = some (.int .i64 (S : Int))) (k1 : w6.cell? ⟨w.heap.size, 1, none⟩ = some (.slice a n c)) (hz : w.heap.size < w5.heap.size) : BfS w.heap.size w5.heap.size (w5.alloc (.cells #[] 26)).heap.size w6.heap.size S aA cA a n c A w w6 := by
  have hs := b6.size
  have hb := (Below.refl w5.heap.size w5).alloc (Nat.le_refl _) (.cells #[] 26)
  have hs2 : w5.heap.size < (w5.alloc (.cells #[] 26)).heap.size := by simp
  exact ⟨OwP.empty (ownsRow_chg (bfs_lit w5) (b6.chg 0 0) (fun _ _ => .inr (Nat.zero_le _))) (by omega), (hB5.next hb).next b6, by omega, k0, k1, h, .inl hs2, Nat.le_refl _, hz⟩
theorem bfs3 {S : Nat} {aA : Option Addr} {cA : Nat} {a : Option Addr} {n c : Nat} {A : Nat → Nat → Int} {w wa w5 w6 : World} (hB5 : Below w.heap.size w w5) (h : RdR w5.heap.size w6.heap.size w6 (.slice aA S cA) (tab S A)) (b6 : Below w5.heap.size w5 w6)
    (k0 : w6.cell? ⟨w.heap.size, 0, none⟩ = some (.int .i64 (S : Int))) (k1 : w6.cell? ⟨w.heap.size, 1, none⟩ = some (.slice a n c)) (q5 : Qt (wa.alloc (.cells #[] 26)).drew w5) (hz : w.heap.size < wa.heap.size) : BfS w.heap.size wa.heap.size w5.heap.size w6.heap.size S aA cA a n c A w w6 := by
  have hs := b6.size
  have hq := q5.below.size
  have hs2 : (wa.alloc (.cells #[] 26)).drew.heap.size = wa.heap.size + 1 := by show (wa.alloc (.cells #[] 26)).heap.size = _; simp
  have hch : Chg 0 0 (wa.alloc (.cells #[] 26)) w6 := ((Qt.refl _).drew.chg 0 0).trans ((q5.chg 0 0).trans (b6.chg 0 0))
  exact ⟨OwP.empty (ownsRow_chg (bfs_lit wa) hch (fun _ _ => .inr (Nat.zero_le _))) (by omega), hB5.next b6, by omega, k0, k1, h, .inl (by omega), Nat.le_refl _, hz⟩

set_option maxHeartbeats 12800000 in
theorem specBf_yes {lo hi : Nat} (p : Int) (S : Nat) (a : Option Addr) (n c : Nat) (xss : List (List Int)) (t : Int) (w : World) (h : RdR lo hi w (.slice a n c) xss) (hn : xss.length = n) (hnc : numCode p (S : Int) xss t = 0) :
    Calls Try.prog 26 #[.int .i64 p, .agg #[.int .i64 (S : Int), .slice a n c], .int .i64 t] w fun e w' => ∃ a' c', e = .returned (.tuple #[.slice a' (bfL p S xss t).length c', .int .i64 0]) ∧ OwI w.heap.size w'.heap.size w' (.slice a' (bfL p S xss t).length c') (bfL p S xss t) ∧ Below w.heap.size w w' := by
  obtain ⟨i0, hi', z0, z1, z2⟩ := info_parts Try.info2
  obtain ⟨j0, hj', y0, y1, y2⟩ := info_parts Try.info26
  have hb0 : ∀ o, Below w.heap.size w (w.alloc o) := fun o => (Below.refl _ _).alloc (Nat.le_refl _) o
  obtain ⟨hg, hpp, ht0, ht1⟩ := numCode_ok2 hnc
  have hp2 := primeB_hd hpp
  have HPR := Lib.hid (show 2 ≤ p ∧ p ≤ 10007 by omega)
  have HCK := Lib.hid (fun W (hB : Below w.heap.size w W) => l06Number p (S : Int) a n c xss t W (h.below hB) hn)
  rw [hnc] at HCK
  have hg4 := grB_iff hg
  have hS8 : S ≤ 8 := by omega
  have hS1 : 1 ≤ S := by omega
  have HAD := Lib.hid (fun W (hB : Below w.heap.size w W) => l01Adjacency S a n c xss W (h.below hB) hn hg)
  have HDG := Lib.hid (fun W (hB : Below w.heap.size w W) (v : Nat) => l01Degree (S : Int) (v : Int) a n c xss W (h.below hB) hg)
  have HDB := Lib.hid (fun v : Nat => show 0 ≤ deg xss (v : Int) ∧ deg xss (v : Int) ≤ 20 by have := deg_bd xss (v : Int); omega)
  have HN := Lib.hid hn
  have HT := Lib.hid (adZ_tab hg S)
  have HAT := Lib.hid (show tab S (fun i j => adS (pairs xss) xss.length i j) = tab S (adF xss) from rfl)
  have HVL := Lib.hid (show bfL p S xss t = trim (nowL p (2 * S) (vfM (adF xss) (dgB t xss) S) (2 * S)) from rfl)
  obtain ⟨wt, hwt⟩ : ∃ x, x = (1 - t) % p := ⟨_, rfl⟩
  have hw0 : 0 ≤ wt ∧ wt < p := by rw [hwt]; exact ⟨Int.emod_nonneg _ (by omega), Int.emod_lt_of_pos _ (by omega)⟩
  have HD1 := Lib.hid (fun v : Nat => show dgB t xss v % p = (wt * (wt - deg xss (v : Int))) % p by rw [hwt, wd_mod]; rfl)
  have HAB := Lib.hid (fun i j => show 0 ≤ adF xss i j ∧ adF xss i j ≤ 20 from adF_bd hg i j)
  rw [HVL.out]
  generalize adF xss = A at HAT HAB ⊢
  generalize dgB t xss = D at HD1 ⊢
  obtain ⟨N, hN⟩ : ∃ N, N = 2 * S := ⟨_, rfl⟩
  have HN2 := Lib.hid hN
  have hN16 : N ≤ 16 := by omega
  have HR1 := Lib.hid (fun v (hv : v < S) => show ((bfR (fun i => A v i % p) N S)).set (S + v) (D v % p) = (List.range N).map (fmod p (vfM A D S) v) by rw [hN]; exact bf_row1 p A D hv)
  have HR2 := Lib.hid (fun v (hv : v < S) => show ((List.range N).map (fun _ => (0 : Int))).set v 1 = (List.range N).map (fmod p (vfM A D S) (S + v)) by rw [hN]; exact bf_row2 p HPR.out.1 A D hv)
  have HFB := Lib.hid (fun i j => show 0 ≤ fmod p (vfM A D S) i j ∧ fmod p (vfM A D S) i j < p from ⟨Int.emod_nonneg _ (by omega), Int.emod_lt_of_pos _ (by omega)⟩)
  have HNM := Lib.hid (nowL_mod p N (vfM A D S) N)
  rw [← hN]
  rw [← HNM.out]
  generalize fmod p (vfM A D S) = M at HFB HR1 HR2 ⊢
  have HMI := Lib.hid (fun i j => show I64 (M i j) by have := HFB.out i j; have := HPR.out; unfold I64; omega)
  have HTL := Lib.hid (show (tab N M).length = N from tab_len _ _)
  have hm1 : IntKind.i64.wrap (1 - t) = 1 - t := IntWalk.i64_in _ (by omega)
  have hm2 : wrap64 (1 - t) = 1 - t := IntWalk.wrap64_in _ (by clear hm1; omega)
  have HMW := Lib.hid (⟨hm1, hm2⟩ : _ ∧ _)
  have HTB := Lib.hid (⟨hw0, hwt, ht0, ht1⟩ : _ ∧ _ ∧ _ ∧ _)
  have HMD := Lib.hid (fun W => l06Mod p (1 - t) W (by have := HPR.out; have := HTB.out; omega) (by have := HPR.out; omega))
  rw [← hwt] at HMD
  clear h hn hg hg4 HVL hN hm1 hm2 hwt hw0 ht0 ht1 hp2 hpp hnc HNM
  go_enter Try.func26, Try.ntmps26
  go_wp2_with fail
  refine calls_gen (fun W => Below w.heap.size w W ∧ w.heap.size < W.heap.size ∧ W.cell? ⟨w.heap.size, 0, none⟩ = some (.int .i64 (S : Int)) ∧ W.cell? ⟨w.heap.size, 1, none⟩ = some (.slice a n c)) ⟨hb0 _, by simp, by go_simp, by go_simp⟩ ?_
  rintro W ⟨hB, hzz, k0, k1⟩
  refine (HCK.out W hB).mono ?_
  rintro e wa ⟨rfl, ba⟩
  replace hB := hB.next ba
  replace k0 := ba.keep k0
  replace k1 := ba.keep k1
  replace hzz := Nat.lt_of_lt_of_le hzz ba.size
  have d0 : wa.drew.cell? ⟨w.heap.size, 0, none⟩ = _ := k0
  have d1 : wa.drew.cell? ⟨w.heap.size, 1, none⟩ = _ := k1
  have ald := (Below.refl wa.heap.size wa).alloc (Nat.le_refl _) (.cells #[] 26)
  have a0 : (wa.alloc (.cells #[] 26)).drew.cell? ⟨w.heap.size, 0, none⟩ = _ := ald.keep k0
  have a1' : (wa.alloc (.cells #[] 26)).drew.cell? ⟨w.heap.size, 1, none⟩ = _ := ald.keep k1
  have HBZ := Lib.hid (⟨hB.drew, (hB.next ald).drew, hzz⟩ : Below w.heap.size w wa.drew ∧ Below w.heap.size w (wa.alloc (.cells #[] 26)).drew ∧ _)
  obtain ⟨hm1, hm2⟩ := HMW.out
  clear ba HCK ald
  go_wp2
  go_region_held3 (fun W' => W'.cell? ⟨w.heap.size, 0, none⟩ = some (.int .i64 (S : Int)) ∧ W'.cell? ⟨w.heap.size, 1, none⟩ = some (.slice a n c))
    (first | (with_reducible exact ⟨k0, k1⟩) | (with_reducible exact ⟨d0, d1⟩) | (with_reducible exact ⟨a0, a1'⟩) | (with_reducible exact ⟨m0, m1⟩) | (with_reducible exact ⟨n0, n1⟩) | (with_reducible exact ⟨q0, q1⟩) | (with_reducible exact ⟨r0, r1⟩) | (trace_state; fail))
    (first
      | (go_at_call 68; (with_reducible refine (HMD.out _).mono ?_); rintro e w5 ⟨rfl, q5⟩; (first | (have m0 := q5.cell d0; have m1 := q5.cell d1; have HB5 := Lib.hid (HBZ.out.1.qt q5)) | (have m0 := q5.cell a0; have m1 := q5.cell a1'; have HB5 := Lib.hid (HBZ.out.2.1.qt q5))); have HA5 := Lib.hid (HAD.out w5 HB5.out); have alm := (Below.refl w5.heap.size w5).alloc (Nat.le_refl _) (.cells #[] 26); have n0 := alm.keep m0; have n1 := alm.keep m1; have HA6 := Lib.hid (HAD.out (w5.alloc (.cells #[] 26)) (HB5.out.next alm)))
      | (go_at_call 56; (first | (with_reducible refine HA5.out.mono ?_) | (with_reducible refine HA6.out.mono ?_)); rintro e w6 ⟨aA, cA, rfl, o6, b6⟩; (first | (have q0 := b6.keep m0; have q1 := b6.keep m1) | (have q0 := b6.keep n0; have q1 := b6.keep n1)); have alq := (Below.refl w6.heap.size w6).alloc (Nat.le_refl _) (.cells #[] 26); have r0 := alq.keep q0; have r1 := alq.keep q1))
  all_goals
    first
      | (have HU : Hid (∃ LA LB, BfS w.heap.size w6.heap.size LA LB S aA cA a n c A w (w6.alloc (.cells #[] 26))) := Lib.hid ⟨_, _, bfs1 HB5.out (by rw [← HN.out, HT.out, HAT.out] at o6; exact o6.rd) b6 q0 q1 (by have := q5.below.size; exact Nat.lt_of_lt_of_le HBZ.out.2.2 this)⟩
         go_wp2
         generalize (w6.alloc (.cells #[] 26)) = V at HU ⊢
         generalize w6.heap.size = Lx at HU ⊢)
      | (have HU : Hid (∃ LA LB, BfS w.heap.size w5.heap.size LA LB S aA cA a n c A w w6) := Lib.hid ⟨_, _, bfs2 HB5.out (by rw [← HN.out, HT.out, HAT.out] at o6; exact o6.rd) b6 q0 q1 (by have := q5.below.size; exact Nat.lt_of_lt_of_le HBZ.out.2.2 this)⟩
         go_wp2
         generalize w6 = V at HU ⊢
         generalize w5.heap.size = Lx at HU ⊢)
      | (have HU : Hid (∃ LA LB, BfS w.heap.size wa.heap.size LA LB S aA cA a n c A w w6) := Lib.hid ⟨_, _, bfs3 HB5.out (by rw [← HN.out, HT.out, HAT.out] at o6; exact o6.rd) b6 q0 q1 q5 HBZ.out.2.2⟩
         go_wp2
         generalize w6 = V at HU ⊢
         generalize wa.heap.size = Lx at HU ⊢)
  all_goals
    obtain ⟨B, hB0⟩ : ∃ B, B = w.heap.size := ⟨_, rfl⟩
    rw [← hB0] at HU ⊢
    have HEQ := Lib.hid hB0
    clear hB0 a0 a1' m0 m1 n0 n1 q0 q1 r0 r1 d0 d1 k0 k1 o6 b6 q5 HB5 HA5 HA6 alm alq hB hzz HBZ HAD HMD hm1 hm2 HMW HT HAT hb0
    obtain ⟨LA, LB, hU⟩ := HU.out
    have HP0 := Lib.hid (⟨hU.own, hU.below, hU.hz, hU.k0, hU.k1, hU.rd, hU.dj, hU.lb⟩ : _ ∧ _ ∧ _ ∧ _ ∧ _ ∧ _ ∧ _ ∧ _)
    have hBL := hU.bl
    clear hU HU
    go_loopw [11, 12] (fun v y wr => ∃ (k : Nat) (rvs : List Value) (g cc : Nat), k ≤ S ∧ y = .int .i64 k ∧ v = .slice (some ⟨g, 0, none⟩) k cc ∧ OwP Lx B wr g k cc rvs ((tab N M).take k) ∧ Below B w wr ∧ B < wr.heap.size ∧ wr.cell? ⟨B, 0, none⟩ = some (.int .i64 (S : Int)) ∧ wr.cell? ⟨B, 1, none⟩ = some (.slice a n c) ∧ RdR LA LB wr (.slice aA S cA) (tab S A) ∧ (g < LA ∨ LB ≤ g) ∧ LB ≤ wr.heap.size) (fun _ y _ => S - (intOf y).toNat)
    case atStart => exact ⟨0, [], Lx, 0, Nat.zero_le _, rfl, rfl, HP0.out⟩
    case round =>
      clear HP0
      obtain ⟨k, rvs, g, cc, hk, rfl, rfl, hP, hB, hzr, k0, k1, hA, hgd, hLB⟩ := hrel
      obtain ⟨U, rfl⟩ : ∃ U, U = wr := ⟨_, rfl⟩
      by_cases hlt : k < S
      · have hkS : (k : Int) < (S : Int) := by omega
        have HST := Lib.hid (tab_take M (show k < N by have := HN2.out; omega))
        have HPB := Lib.hid (⟨hP, hB, hzr, k0, k1, hA, hgd, hLB⟩ : _ ∧ _ ∧ _ ∧ _ ∧ _ ∧ _ ∧ _ ∧ _)
        have hNS := HN2.out
        have n1 : IntKind.i64.wrap (2 * (S : Int)) = (N : Int) := by rw [show 2 * (S : Int) = (N : Int) by omega]; exact IntWalk.i64_in _ (by omega)
        have n2 : wrap64 (2 * (S : Int)) = (N : Int) := by rw [show 2 * (S : Int) = (N : Int) by clear n1; omega]; exact IntWalk.wrap64_in _ (by clear n1; omega)
        have hN0 : (0 : Int) ≤ (N : Int) := by clear n1 n2; omega
        have HZ0 := Lib.hid (bfR_0 (fun i => A k i % p) N)
        clear hP hB hzr k1 hA hgd hLB hNS
        go_wp2_with (at_make; refine wpList_make_full _ rfl _ _ 26 rfl U.heap.size 2 i0 (.int .i64 0) 1 Try.underlying26 hi' z0 z1 _ _ _ _ N rfl rfl rfl rfl ?c1 ?c2 ?c3 ?_)
        case c1 => clear n1 n2; rw [z2]; omega
        case c2 => clear n1 n2; unfold maxLen; omega
        case c3 => exact Nat.le_refl _
        clear n1 n2
        intro w2 hown hgr
        have hb1 : Below U.heap.size U w2 := (Below.refl _ _).grown hgr (Nat.le_refl _) (fun j hj => by cases hj)
        obtain ⟨R, hR⟩ : ∃ R, R = U.heap.size := ⟨_, rfl⟩
        have HRR := Lib.hid hR
        rw [HZ0.out] at hown
        rw [← hR] at hown hb1 ⊢
        have HQ0 := Lib.hid (⟨hown, hb1⟩ : _ ∧ _)
        clear hown hb1 hgr hR k0
        go_wp2
        go_loopw [14] (fun y wr => ∃ j : Nat, j ≤ S ∧ y = .int .i64 j ∧ wr.ownsRow R 2 1 (.slice (some ⟨R, 0, none⟩) N N) N ((bfR (fun i => A k i % p) N j).map (Value.int .i64)) ∧ Below R U wr) (fun y _ => S - (intOf y).toNat)
        case atStart => exact ⟨0, Nat.zero_le _, rfl, HQ0.out⟩
        case round =>
          rename_i hrel
          clear HQ0
          obtain ⟨j, hj, rfl, hown, hb⟩ := hrel
          have hbU := hb
          rw [HRR.out] at hbU
          have k0 := hbU.keep HPB.out.2.2.2.1
          by_cases hlj : j < S
          · obtain ⟨b, off, b', off', c', rfl, x1, x2⟩ := (HPB.out.2.2.2.2.2.1.below hbU).ent hlt hlj
            have hjN : j < N := by have := HN2.out; omega
            have r0 := (hown.cellAt j (by omega)).trans (bfR_get (fun i => A k i % p) hjN)
            have rf := hown.frozenAt j
            have hst := (hown.stored j (.int .i64 (A k j % p))).1
            have hset := bfR_set (fun i => A k i % p) hjN
            have HF := Lib.hid (⟨by rw [hset] at hst; exact hst, hb.setCell (p := ⟨R, j, none⟩) (Nat.le_refl _) _⟩ : (wr.setCell ⟨R, j, none⟩ (.int .i64 (A k j % p))).ownsRow R 2 1 (.slice (some ⟨R, 0, none⟩) N N) N ((bfR (fun i => A k i % p) N (j + 1)).map (Value.int .i64)) ∧ Below R U (wr.setCell ⟨R, j, none⟩ (.int .i64 (A k j % p))))
            have hab := HAB.out k j
            generalize A k j = x at x2 HF hab
            have hpr := HPR.out
            obtain ⟨z, hz⟩ : ∃ z, z = x % p := ⟨_, rfl⟩
            have hzb : 0 ≤ z ∧ z < p := by rw [hz]; exact ⟨Int.emod_nonneg _ (by omega), Int.emod_lt_of_pos _ (by omega)⟩
            rw [← hz] at HF
            have e1 : x.tmod p = z := by rw [Int.tmod_eq_emod_of_nonneg hab.1, hz]
            have hpz : ¬ p = 0 := by omega
            have e2 : IntKind.i64.wrap z = z := IntWalk.i64_in _ (by omega)
            have e3 : wrap64 z = z := IntWalk.wrap64_in _ (by clear e2; omega)
            have hjS : (j : Int) < (S : Int) := by clear e2 e3; omega
            have hjN2 : (j : Int) < (N : Int) := by clear e2 e3; omega
            clear hown hb hbU hst hset hz hab hzb hpr
            go_wp2
            clear e1 e2 e3
            go_roundw
            case rel => exact ⟨j+1, by omega, by go_num, HF.out⟩
            case measure => simp [intOf]; omega
          · obtain rfl : j = S := by omega
            obtain ⟨sk, hsk⟩ : ∃ sk, sk = j + k := ⟨_, rfl⟩
            have hskN : sk < N := by have := HN2.out; omega
            have r0 := hown.cellAt sk (by omega)
            have r0' : ((bfR (fun i => A k i % p) N j).map (Value.int .i64))[sk]? = some (Value.int .i64 0) := by
              have : ¬ sk < j := by omega
              simp [bfR, hskN, this]
            rw [r0'] at r0
            have rf := hown.frozenAt sk
            have hset : ((bfR (fun i => A k i % p) N j).map (Value.int .i64)).set sk (.int .i64 (D k % p)) = ((List.range N).map (M k)).map (Value.int .i64) := by
              rw [← HR1.out k hlt, List.map_set, hsk]
            have k1 := hbU.keep HPB.out.2.2.2.2.1
            have hdb := HDB.out k
            have hd1 := HD1.out k
            have HDE := Lib.hid (HDG.out wr.drew (by rw [← HEQ.out]; exact (HPB.out.2.1.trans (hbU.mono (by have := HPB.out.2.2.1; omega))).drew) k)
            generalize deg xss (k : Int) = dg at HDE hdb hd1
            have hpr := HPR.out
            have htb := HTB.out
            obtain ⟨zz, hzz⟩ : ∃ zz, zz = wt * (wt - dg) := ⟨_, rfl⟩
            rw [← hzz] at hd1
            have hzb := wd_bd2 (x := wt) (d := dg) (by omega) hdb
            rw [← hzz] at hzb
            have HMZ2 := Lib.hid (fun W => l06Mod p zz W (by omega) (by omega))
            rw [← hd1] at HMZ2
            have t3 : IntKind.i64.wrap (wt - dg) = wt - dg := IntWalk.i64_in _ (by omega)
            have t4 : wrap64 (wt - dg) = wt - dg := IntWalk.wrap64_in _ (by clear t3; omega)
            have t1 : IntKind.i64.wrap (wt * (wt - dg)) = zz := by rw [← hzz]; exact IntWalk.i64_in _ (by clear t3 t4; omega)
            have t2 : wrap64 (wt * (wt - dg)) = zz := by rw [← hzz]; exact IntWalk.wrap64_in _ (by clear t1 t3 t4; omega)
            have p1 : IntKind.i64.wrap ((j : Int) + (k : Int)) = (sk : Int) := by rw [show (j : Int) + (k : Int) = (sk : Int) by clear t1 t2 t3 t4; omega]; exact IntWalk.i64_in _ (by clear t1 t2 t3 t4; omega)
            have p2 : wrap64 ((j : Int) + (k : Int)) = (sk : Int) := by rw [show (j : Int) + (k : Int) = (sk : Int) by clear t1 t2 t3 t4 p1; omega]; exact IntWalk.wrap64_in _ (by clear t1 t2 t3 t4 p1; omega)
            have hskNi : (sk : Int) < (N : Int) := by clear t1 t2 t3 t4 p1 p2; omega
            have hsk0 : (0 : Int) ≤ (sk : Int) := by clear t1 t2 t3 t4 p1 p2; omega
            have hBR : B < R := by have := HPB.out.2.2.1; have := HRR.out; clear t1 t2 t3 t4 p1 p2; omega
            have HSC := Lib.hid (fun (W : World) (o : Nat) (u : Value) (hc : W.cell? ⟨B, o, none⟩ = some u) => show (W.setCell ⟨R, sk, none⟩ (.int .i64 (D k % p))).cell? ⟨B, o, none⟩ = some u from ((Chg.refl R (R+1) W).setCell (p := ⟨R, sk, none⟩) ⟨Nat.le_refl _, Nat.lt_succ_self _⟩ _).cell hc (.inl hBR))
            have HRW := Lib.hid (⟨hown, hb, hset⟩ : _ ∧ _ ∧ _)
            have h0d : wr.drew.cell? ⟨B, 0, none⟩ = _ := k0
            have h1d : wr.drew.cell? ⟨B, 1, none⟩ = _ := k1
            have r0d : wr.drew.cell? ⟨R, sk, none⟩ = _ := r0
            have hnj : ¬ (j : Int) < (j : Int) := by clear t1 t2 t3 t4 p1 p2; omega
            clear hown hb hbU hset r0' hsk hzz hzb hdb hd1 hpr htb hBR
            go_wp2
            go_region_held3 (fun W' => W'.cell? ⟨B, 0, none⟩ = some (.int .i64 (j : Int)) ∧ W'.cell? ⟨B, 1, none⟩ = some (.slice a n c))
              (first | (with_reducible exact ⟨k0, k1⟩) | (with_reducible exact ⟨h0d, h1d⟩) | (with_reducible exact ⟨i0c, i1c⟩) | (with_reducible exact ⟨u0c, u1c⟩) | (with_reducible exact ⟨s0c, s1c⟩) | (trace_state; fail))
              (first
                | (go_at_call 58; (with_reducible refine HDE.out.mono ?_); rintro e w5 ⟨rfl, b5⟩; have i0c := b5.keep h0d; have i1c := b5.keep h1d; have i2c := b5.keep r0d; have i3c : w5.frozen? ⟨R, sk, none⟩ = false := b5.keepf (World.block_lt_of_cell? _ _ r0d) rf)
                | (go_at_call 68; (with_reducible refine (HMZ2.out _).mono ?_); rintro e w6 ⟨rfl, q6⟩; have u0c := q6.cell i0c; have u1c := q6.cell i1c; have u2c := q6.cell i2c; have u3c : w6.frozen? ⟨R, sk, none⟩ = false := (q6.below).keepf (World.block_lt_of_cell? _ _ i2c) i3c; have s0c := HSC.out w6 0 _ u0c; have s1c := HSC.out w6 1 _ u1c))
            all_goals
              obtain ⟨hown, hb, hset⟩ := HRW.out
              obtain ⟨hP, hB, hzr, hk0, hk1, hA, hgd, hLB⟩ := HPB.out
              have hc6 : Chg 0 0 wr w6 := ((Qt.refl wr).drew.chg 0 0).trans ((b5.chg 0 0).trans (q6.chg 0 0))
              have hown5 := ownsRow_chg hown hc6 (fun _ _ => .inr (Nat.zero_le _))
              have hown6 := (hown5.stored sk (.int .i64 (D k % p))).1
              rw [hset] at hown6
              rw [HRR.out] at hb
              have hbU6 : Below U.heap.size U (w6.setCell ⟨R, sk, none⟩ (.int .i64 (D k % p))) := (((hb.next ((Qt.refl wr).drew.below.next b5)).qt q6)).setCell (p := ⟨R, sk, none⟩) (by show U.heap.size ≤ R; have := HRR.out; omega) _
              have hO : OwI R (w6.setCell ⟨R, sk, none⟩ (.int .i64 (D k % p))).heap.size (w6.setCell ⟨R, sk, none⟩ (.int .i64 (D k % p))) (.slice (some ⟨R, 0, none⟩) N N) ((List.range N).map (M k)) := OwI.mk hown6 (by omega) (fun x hx => by
                obtain ⟨j, _, rfl⟩ := List.mem_map.mp hx
                exact HMI.out k j)
              have hownV := (hP.below hbU6).out.alloc (.cells #[.slice (some ⟨R, 0, none⟩) N N] 26)
              have hnews := news_one (w6.setCell ⟨R, sk, none⟩ (.int .i64 (D k % p))) 26 (.slice (some ⟨R, 0, none⟩) N N)
              rw [World.size_setCell] at hnews
              have hszw := hbU6.size
              have hlt2 : Lx ≤ g ∧ g < U.heap.size := hP.lt
              have HF0 := Lib.hid (⟨hO, hP, hB, hA, hbU6, hlt2, hszw, hzr, hgd, hLB⟩ : _ ∧ _ ∧ _ ∧ _ ∧ _ ∧ _ ∧ _ ∧ _ ∧ _ ∧ _)
              have HOV := Lib.hid (⟨hownV, hnews⟩ : _ ∧ _)
              have HSZ := Lib.hid (World.size_setCell (w := w6) (a := ⟨R, sk, none⟩) (v := .int .i64 (D k % p)))
              have HKU := Lib.hid (⟨hk0, hk1⟩ : _ ∧ _)
              clear hown hb hset hP hB hA hown5 hown6 hc6 hbU6 hO b5 q6 i0c i1c i2c i3c u0c u1c u2c u3c h0d h1d r0d k0 k1 r0 rf t1 t2 t3 t4 p1 p2 hskNi hsk0 HRW HDE HMZ2 HPB hownV hnews hszw hlt2 hzr HSC s0c s1c hgd hLB hk0 hk1 hnj
              go_simp
              go_wp2_with (at_builtin; refine wpList_append_lies _ rfl _ _ 22 rfl Lx 26 j0 (.slice none 0 0) 1 24 Try.underlying22 hj' y0 y1 y2 rfl (by decide) _ _ _ rfl HOV.out.1 ⟨w6.heap.size, 0, none⟩ 1 1 [.slice (some ⟨R, 0, none⟩) N N] rfl rfl ?e1 ?e2 (by decide) ?e3 ?e4 ?e5 _ rfl ?_)
              case e1 => exact HOV.out.2
              case e2 => first | (intro u hu; simp at hu; subst hu; rfl) | rfl | simp
              case e3 => unfold maxLen; omega
              case e4 => omega
              case e5 => have := HF0.out.2.2.2.2.2; have := HSZ.out; simp; omega
              intro g2 c3 w7 hown3 hgr hlie hlt3
              obtain ⟨hO, hP, hB, hA, hb, hlt2, hszw, hzr, hgd, hLB⟩ := HF0.out
              rw [HRR.out] at hO hown3 hb hgr
              have hV3 := hP.snocF (hi := _) hzr hb hO hown3 hgr (hlie.imp id (fun e => by rw [e]; simp))
              have hb3 : Chg g (g + 1) U w7 := snocC hb hgr
              rw [← HST.out] at hV3
              have hBg : B < g := by omega
              have hB3 : Below B w w7 := hB.trans (hb3.below (by omega) (by omega))
              have hg2 : g2 < LA ∨ LB ≤ g2 := by
                have := HSZ.out
                rcases hlie with e | e
                · have e2 : g = g2 := by simpa [Value.ownBlock] using e
                  rw [← e2]; exact hgd
                · rw [World.size_setCell] at hszw
                  right; omega
              have HF := Lib.hid (⟨hV3, hB3, Nat.lt_of_lt_of_le hzr hb3.size, hb3.cell HKU.out.1 (.inl hBg), hb3.cell HKU.out.2 (.inl hBg), hA.chg hb3 (by omega), hg2, Nat.le_trans hLB hb3.size⟩ : _ ∧ _ ∧ _ ∧ _ ∧ _ ∧ _ ∧ _ ∧ _)
              clear hO hP hB hA hb hV3 hb3 hB3 hown3 hgr hlie HOV HF0 hg2 hgd hszw hLB
              go_wp2
              go_roundw
              case rel => exact ⟨k+1, _, g2, c3, by omega, by go_num, rfl, HF.out⟩
              case measure => simp [intOf]; omega
      · obtain rfl : k = S := by omega
        have HP0 := Lib.hid (⟨hP, hB, hzr, k0, k1⟩ : _ ∧ _ ∧ _ ∧ _ ∧ _)
        have HMZ := Lib.hid (show (madeCells #[Value.int .i64 0] N).toList = ((List.range N).map (fun _ => (0 : Int))).map (Value.int .i64) by
          rw [toList_madeCells_one]
          apply List.ext_getElem
          · simp
          · intro j h1 h2; simp)
        have hNS := HN2.out
        have n1 : IntKind.i64.wrap (2 * (k : Int)) = (N : Int) := by rw [show 2 * (k : Int) = (N : Int) by omega]; exact IntWalk.i64_in _ (by omega)
        have n2 : wrap64 (2 * (k : Int)) = (N : Int) := by rw [show 2 * (k : Int) = (N : Int) by clear n1; omega]; exact IntWalk.wrap64_in _ (by clear n1; omega)
        have HNN := Lib.hid (⟨n1, n2⟩ : _ ∧ _)
        have hN0 : (0 : Int) ≤ (N : Int) := by clear n1 n2; omega
        clear hP hB hA k1 hNS n1 n2 hzr hgd hLB
        go_wp2
        clear k0
        go_loopw [11, 15] (fun l y wr => ∃ (v m : Nat) (rvs : List Value) (g cc : Nat), v ≤ k ∧ y = .int .i64 v ∧ Hid (m = k + v) ∧ l = .slice (some ⟨g, 0, none⟩) m cc ∧ OwP Lx B wr g m cc rvs ((tab N M).take m) ∧ Below B w wr ∧ B < wr.heap.size ∧ wr.cell? ⟨B, 0, none⟩ = some (.int .i64 (k : Int)) ∧ wr.cell? ⟨B, 1, none⟩ = some (.slice a n c)) (fun _ y _ => k - (intOf y).toNat)
        case atStart => exact ⟨0, k, rvs, g, cc, Nat.zero_le _, rfl, Lib.hid rfl, rfl, HP0.out⟩
        case round =>
          rename_i hrel
          clear HP0
          obtain ⟨v, m, rvs, g, cc, hv, rfl, HM, rfl, hP, hB, hzr, k0, k1⟩ := hrel
          obtain ⟨U, rfl⟩ : ∃ U, U = wr := ⟨_, rfl⟩
          by_cases hlv : v < k
          · have hvk : (v : Int) < (k : Int) := by omega
            have hmN : m < N := by have := HM.out; have := HN2.out; omega
            have HST := Lib.hid (tab_take M hmN)
            have HPB := Lib.hid (⟨hP, hB, hzr, k0, k1⟩ : _ ∧ _ ∧ _ ∧ _ ∧ _)
            have hR2 := HR2.out v hlv
            rw [← HM.out] at hR2
            have HR2v := Lib.hid hR2
            obtain ⟨n1, n2⟩ := HNN.out
            clear hP hB hzr k1 hR2
            go_wp2_with (at_make; refine wpList_make_full _ rfl _ _ 26 rfl U.heap.size 2 i0 (.int .i64 0) 1 Try.underlying26 hi' z0 z1 _ _ _ _ N rfl rfl rfl rfl ?c1 ?c2 ?c3 ?_)
            case c1 => clear n1 n2; rw [z2]; omega
            case c2 => clear n1 n2; unfold maxLen; omega
            case c3 => exact Nat.le_refl _
            clear n1 n2
            intro w2 hown hgr
            have hb1 : Below U.heap.size U w2 := (Below.refl _ _).grown hgr (Nat.le_refl _) (fun j hj => by cases hj)
            obtain ⟨R, hR⟩ : ∃ R, R = U.heap.size := ⟨_, rfl⟩
            have HRR := Lib.hid hR
            rw [HMZ.out] at hown
            rw [← hR] at hown ⊢
            have hvN : v < N := by have := HM.out; omega
            have hvNi : (v : Int) < (N : Int) := by omega
            have r0 := (hown.cellAt v (by omega)).trans (show (((List.range N).map (fun _ => (0 : Int))).map (Value.int .i64))[v]? = some (Value.int .i64 0) by simp [hvN])
            have rf := hown.frozenAt v
            have hown2 := (hown.stored v (.int .i64 1)).1
            rw [← List.map_set, HR2v.out] at hown2
            obtain ⟨w3, hw3⟩ : ∃ w3, w3 = w2.setCell ⟨R, v, none⟩ (.int .i64 1) := ⟨_, rfl⟩
            rw [← hw3] at hown2
            have hbU6 : Below U.heap.size U w3 := by rw [hw3]; exact hb1.setCell (p := ⟨R, v, none⟩) (by show U.heap.size ≤ R; omega) _
            have hO : OwI R w3.heap.size w3 (.slice (some ⟨R, 0, none⟩) N N) ((List.range N).map (M m)) := OwI.mk hown2 (by omega) (fun x hx => by
              obtain ⟨j, _, rfl⟩ := List.mem_map.mp hx
              exact HMI.out m j)
            obtain ⟨hP, hB, hzr, _, _⟩ := HPB.out
            have hownV := (hP.below hbU6).out.alloc (.cells #[.slice (some ⟨R, 0, none⟩) N N] 26)
            have hnews := news_one w3 26 (.slice (some ⟨R, 0, none⟩) N N)
            have hszw := hbU6.size
            have hlt2 : Lx ≤ g ∧ g < U.heap.size := hP.lt
            have HF0 := Lib.hid (⟨hO, hP, hB, hbU6, hlt2, hszw, hzr⟩ : _ ∧ _ ∧ _ ∧ _ ∧ _ ∧ _ ∧ _)
            have HOV := Lib.hid (⟨hownV, hnews⟩ : _ ∧ _)
            have HW3 := Lib.hid hw3
            clear hown hown2 hP hB hzr hO hb1 hbU6 hgr hownV hnews hszw hlt2 hR k0 hw3 hvN
            rw [HW3.out] at HOV HF0
            have HOV2 := HOV.out.2
            rw [World.size_setCell] at HOV2
            have HSZ := Lib.hid (World.size_setCell (w := w2) (a := ⟨R, v, none⟩) (v := .int .i64 1))
            go_wp2_with (at_builtin; refine wpList_append_lies _ rfl _ _ 22 rfl Lx 26 j0 (.slice none 0 0) 1 24 Try.underlying22 hj' y0 y1 y2 rfl (by decide) _ _ _ rfl HOV.out.1 ⟨w2.heap.size, 0, none⟩ 1 1 [.slice (some ⟨R, 0, none⟩) N N] rfl rfl ?e1 ?e2 (by decide) ?e3 ?e4 ?e5 _ rfl ?_)
            case e1 => exact HOV2
            case e2 => first | (intro u hu; simp at hu; subst hu; rfl) | rfl | simp
            case e3 => unfold maxLen; omega
            case e4 => omega
            case e5 => have := HF0.out.2.2.2.2; have := HSZ.out; simp; omega
            intro g2 c3 w7 hown3 hgr hlie hlt3
            obtain ⟨hO, hP, hB, hb, hlt2, hszw, hzr⟩ := HF0.out
            rw [HRR.out] at hO hown3
            have hV3 := hP.snocF (hi := _) hzr (by rw [HRR.out] at hb; exact hb) hO hown3 (by rw [HRR.out] at hgr; exact hgr) (hlie.imp id (fun e => by rw [e]; simp [HRR.out]))
            have hb3 : Chg g (g + 1) U w7 := snocC hb hgr
            rw [← HST.out] at hV3
            have hBg : B < g := by omega
            have hB3 : Below B w w7 := hB.trans (hb3.below (by omega) (by omega))
            have HF := Lib.hid (⟨hV3, hB3, Nat.lt_of_lt_of_le hzr hb3.size, hb3.cell HPB.out.2.2.2.1 (.inl hBg), hb3.cell HPB.out.2.2.2.2 (.inl hBg)⟩ : _ ∧ _ ∧ _ ∧ _ ∧ _)
            have HM2 := Lib.hid (show m + 1 = k + (v + 1) by have := HM.out; omega)
            clear hO hP hB hb hV3 hb3 hB3 hown3 hgr hlie HOV HF0 r0 rf
            go_wp2
            go_roundw
            case rel => exact ⟨v+1, m+1, _, g2, c3, by omega, by go_num, HM2, rfl, HF.out⟩
            case measure => simp [intOf]; omega
          · obtain rfl : v = k := by omega
            have hmN : m = N := by have := HM.out; have := HN2.out; omega
            subst hmN
            rw [List.take_of_length_le (by rw [HTL.out]; exact Nat.le_refl _)] at hP
            have hO := hP.owr (by omega)
            have HC2 := Lib.hid (specDet p m M (some ⟨g, 0, none⟩) cc U hO.rd (fun i j _ _ => HFB.out i j) (by omega) HPR.out)
            have HB := Lib.hid (⟨hB, hzr⟩ : _ ∧ _)
            clear hP hO hB hzr k1
            go_wp2_with fail
            refine HC2.out.mono ?_
            rintro e w2 ⟨a2, c2, rfl, o2, b2⟩
            have HF := Lib.hid (⟨OwI.mono o2 (Nat.le_of_lt HB.out.2) (Nat.le_refl _), HB.out.1.trans (b2.mono (Nat.le_of_lt HB.out.2))⟩ : _ ∧ _)
            clear o2 b2 HC2 k0
            go_wp2
            go_ret2
            rw [← HEQ.out]
            exact ⟨a2, c2, rfl, HF.out⟩


theorem bfOf_no {p s : Int} {xss : List (List Int)} {t : Int} (h : ¬ numCode p s xss t = 0) : bfOf p s xss t = ([], numCode p s xss t) := by unfold bfOf; rw [if_neg h]
set_option maxHeartbeats 1600000 in
theorem specBf {lo hi : Nat} (p s : Int) (a : Option Addr) (n c : Nat) (xss : List (List Int)) (t : Int) (w : World) (h : RdR lo hi w (.slice a n c) xss) (hn : xss.length = n) :
    Calls Try.prog 26 #[.int .i64 p, .agg #[.int .i64 s, .slice a n c], .int .i64 t] w fun e w' => ∃ a' c', e = .returned (.tuple #[.slice a' (bfOf p s xss t).1.length c', .int .i64 (bfOf p s xss t).2]) ∧ OwI w.heap.size w'.heap.size w' (.slice a' (bfOf p s xss t).1.length c') (bfOf p s xss t).1 ∧ Below w.heap.size w w' := by
  by_cases hc : numCode p s xss t = 0
  · obtain ⟨S, rfl⟩ : ∃ S : Nat, s = (S : Int) := ⟨s.toNat, by have := grB_iff (numCode_ok2 hc).1; omega⟩
    have e : bfOf p (S : Int) xss t = (bfL p S xss t, 0) := by unfold bfOf; rw [if_pos hc]; rfl
    rw [e]
    exact specBf_yes p S a n c xss t w h hn hc
  · have hb0 : ∀ o, Below w.heap.size w (w.alloc o) := fun o => (Below.refl _ _).alloc (Nat.le_refl _) o
    have HCK := Lib.hid (fun W (hB : Below w.heap.size w W) => l06Number p s a n c xss t W (h.below hB) hn)
    rw [bfOf_no hc]
    have hcb : (numCode p s xss t != 0) = true := by simpa using hc
    generalize numCode p s xss t = cd at HCK hcb ⊢
    clear h hn hc
    go_enter Try.func26, Try.ntmps26
    go_wp2_with fail
    refine calls_gen (fun W => Below w.heap.size w W) (hb0 _) ?_
    rintro W hB
    refine (HCK.out W hB).mono ?_
    rintro e wa ⟨rfl, ba⟩
    replace hB := hB.next ba
    clear ba HCK
    go_wp2
    go_ret2
    exact ⟨none, 0, rfl, OwI.nil' _ _ _, hB⟩

end Go.Proofs.Ytolipjemabmlkaa

