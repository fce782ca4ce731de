/- BartholdiFactor of the program, its walk. -/
import Derived.Test.YtolipjemabmlkaaVfI
import Derived.Test.YtolipjemabmlkaaResE
import Derived.Test.YtolipjemabmlkaaNumC
import Derived.Test.YtolipjemabmlkaaBar
import Derived.StillTailTactics
set_option linter.unusedSimpArgs false
set_option linter.unusedVariables false
set_option maxRecDepth 100000
namespace Go.Proofs.Ytolipjemabmlkaa
open Go.RowKit

def dgB (t : Int) (xss : List (List Int)) : Nat → Int := fun v => (1 - t) * (1 - t - deg xss (v : Int))
def bfL (p : Int) (S : Nat) (xss : List (List Int)) (t : Int) : List Int := trim (nowL p (2 * S) (vfM (adF xss) (dgB t xss) S) (2 * S))
def bfOf (p s : Int) (xss : List (List Int)) (t : Int) : List Int × Int := if numCode p s xss t = 0 then (bfL p s.toNat xss t, 0) else ([], numCode p s xss t)
theorem wd_bd {x d : Int} (hx : -10006 ≤ x ∧ x ≤ 1) (hd : 0 ≤ d ∧ d ≤ 20) : -200000000 ≤ x * (x - d) ∧ x * (x - d) ≤ 200000000 := by
  have h := Int.natAbs_mul x (x - d)
  have h1 : x.natAbs ≤ 10006 := by omega
  have h2 : (x - d).natAbs ≤ 10026 := by omega
  have h3 := Nat.mul_le_mul h1 h2
  omega
theorem vfM_bd {A : Nat → Nat → Int} {d : Nat → Int} {S : Nat} {B : Int} (hB : 1 ≤ B) (hA : ∀ i j, -B ≤ A i j ∧ A i j ≤ B) (hd : ∀ i, i < S → -B ≤ d i ∧ d i ≤ B) (i j : Nat) : -B ≤ vfM A d S i j ∧ vfM A d S i j ≤ B := by
  unfold vfM
  split
  · rename_i h
    split
    · exact hA i j
    · split
      · exact hd i h
      · omega
  · split <;> omega

set_option maxHeartbeats 6400000 in
theorem implBf_yes {lo hi : Nat} (p : Int) (S : Nat) (a : Option Addr) (n c : Nat) (xss : List (List Int)) (t : Int) (w : World) (h : RdR lo hi w (.slice a n c) xss) (hn : xss.length = n) (hnc : numCode p (S : Int) xss t = 0) :
    Calls Try.prog 27 #[.int .i64 p, .agg #[.int .i64 (S : Int), .slice a n c], .int .i64 t] w fun e w' => ∃ a' c', e = .returned (.tuple #[.slice a' (bfL p S xss t).length c', .int .i64 0]) ∧ OwI w.heap.size w'.heap.size w' (.slice a' (bfL p S xss t).length c') (bfL p S xss t) ∧ Below w.heap.size w w' := by
  obtain ⟨i0, hi0, z0, z1, z2⟩ := info_parts Try.info2
  have HSZ := Lib.hid (show (Try.prog.info? 2).map (·.size) = some 1 by rw [hi0]; simp [z1])
  clear hi0 z0 z1 z2 i0
  have hb0 : ∀ o, Below w.heap.size w (w.alloc o) := fun o => (Below.refl _ _).alloc (Nat.le_refl _) o
  obtain ⟨hg, hp, ht0, ht1⟩ := numCode_ok2 hnc
  have hp2 := primeB_hd hp
  have HPR := Lib.hid (show 2 ≤ p ∧ p ≤ 10007 by omega)
  have HCK := Lib.hid (fun W (hB : Below w.heap.size w W) => checkResidue p (S : Int) a n c xss t W (h.below hB) hn)
  rw [hnc] at HCK
  have hg4 := grB_iff hg
  have hS8 : S ≤ 8 := by omega
  have hS1 : 1 ≤ S := by omega
  have HDG := Lib.hid (fun W (hB : Below w.heap.size w W) => show Calls Try.prog 61 #[.agg #[.int .i64 (S : Int), .slice a n c]] W fun e w' => ∃ a' c', e = .returned (.tuple #[.slice a' S c', .int .i64 0]) ∧ OwI W.heap.size w'.heap.size w' (.slice a' S c') (degs (S : Int) xss) ∧ Below W.heap.size W w' by
    have := implDegrees (S : Int) a n c xss W (h.below hB) hn
    unfold degreesOf at this
    rw [if_pos hg] at this
    have hl : (degs (S : Int) xss).length = S := by simp [degs]
    simp only [hl] at this
    exact this)
  have HAD := Lib.hid (fun W (hB : Below w.heap.size w W) => show Calls Try.prog 62 #[.agg #[.int .i64 (S : Int), .slice a n c]] W fun e w' => ∃ a' c', e = .returned (.tuple #[.slice a' S c', .int .i64 0]) ∧ OwR W.heap.size w'.heap.size w' (.slice a' S c') (tab S (adF xss)) ∧ Below W.heap.size W w' by
    have := implAdj_yes S a n c xss W (h.below hB) hn hg
    rw [← hn] at this ⊢
    exact this)
  have HDE := Lib.hid (fun v (hv : v < S) => show (degs (S : Int) xss).getD v 0 = deg xss (v : Int) ∧ 0 ≤ deg xss (v : Int) ∧ deg xss (v : Int) ≤ 20 from ⟨by simp [degs, List.getD, hv], by have := deg_bd xss (v : Int); omega⟩)
  have HAI := Lib.hid (fun (v : Nat) => show ∀ x ∈ (List.range S).map (adF xss v), I64 x from fun x hx => by
    obtain ⟨j, hj, rfl⟩ := List.mem_map.mp hx
    have := adF_bd hg v j
    unfold I64; omega)
  have HVL := Lib.hid (show bfL p S xss t = trim (nowL p (2 * S) (vfM (adF xss) (dgB t xss) S) (2 * S)) from rfl)
  obtain ⟨wt0, hwt⟩ : ∃ x, x = 1 - t := ⟨_, rfl⟩
  have hw0 : -10006 ≤ wt0 ∧ wt0 ≤ 1 := by omega
  have HD1 := Lib.hid (fun v : Nat => show dgB t xss v = wt0 * (wt0 - deg xss (v : Int)) by rw [hwt]; rfl)
  have HFT := Lib.hid (show ∀ i j, i < 2 * S → j < 2 * S → -1000000000000 ≤ vfM (adF xss) (dgB t xss) S i j ∧ vfM (adF xss) (dgB t xss) S i j ≤ 1000000000000 from fun i j _ _ => vfM_bd (by decide) (fun i j => by have := adF_bd hg i j; omega) (fun i hi => by
    rw [HD1.out i]
    have h1 := HDE.out i hi
    have := wd_bd hw0 ⟨h1.2.1, h1.2.2⟩
    omega) i j)
  have w1 : IntKind.i64.wrap (1 - t) = wt0 := by rw [hwt]; exact IntWalk.i64_in _ (by omega)
  have w2 : wrap64 (1 - t) = wt0 := by rw [hwt]; exact IntWalk.wrap64_in _ (by clear w1; omega)
  have HWW := Lib.hid (⟨w1, w2⟩ : _ ∧ _)
  clear w1 w2 hwt
  have hdl : (degs (S : Int) xss).length = S := by simp [degs]
  have HDL := Lib.hid hdl
  rw [HVL.out]
  generalize adF xss = A at HAD HFT HAI ⊢
  generalize dgB t xss = D at HFT HD1 ⊢
  generalize degs (S : Int) xss = dl at HDG HDE HDL
  clear h hn hg hg4 hdl HVL hnc hp hp2 ht0 ht1
  go_enter Try.func27, Try.ntmps27
  go_wp2_with fail
  refine calls_gen (fun W => Below w.heap.size w W ∧ w.heap.size < W.heap.size ∧ W.cell? ⟨w.heap.size, 0, none⟩ = some (.int .i64 (S : Int)) ∧ W.cell? ⟨w.heap.size, 1, none⟩ = some (.slice a n c)) ⟨hb0 _, by simp, by go_simp, by go_simp⟩ ?_
  rintro W ⟨hB, hzz, k0, k1⟩
  refine (HCK.out W hB).mono ?_
  rintro e wa ⟨rfl, ba⟩
  replace hB := hB.next ba
  replace k0 := ba.keep k0
  replace k1 := ba.keep k1
  replace hzz := Nat.lt_of_lt_of_le hzz ba.size
  clear ba HCK
  go_wp2_with fail
  refine (HAD.out wa hB).mono ?_
  rintro e w1 ⟨a2, c2, rfl, o1, b1⟩
  replace hB := hB.next b1
  replace k0 := b1.keep k0
  replace k1 := b1.keep k1
  replace hzz := Nat.lt_of_lt_of_le hzz b1.size
  have HO1 := Lib.hid o1.rd
  clear b1 HAD o1
  go_wp2_with fail
  refine (HDG.out w1 hB).mono ?_
  rintro e w2 ⟨a1, c1, rfl, o2, b2⟩
  have HO2 := Lib.hid (⟨o2.rd, HO1.out.below b2, hB.next b2, Nat.lt_of_lt_of_le hzz b2.size, b2.size⟩ : _ ∧ _ ∧ _ ∧ _ ∧ _)
  clear b2 HDG o2 HO1 hB hzz k0 k1
  obtain ⟨ww1, ww2⟩ := HWW.out
  have hsN : (2 : Int) * (S : Int) = ((2 * S : Nat) : Int) := by omega
  have s1 : IntKind.i64.wrap (2 * (S : Int)) = ((2 * S : Nat) : Int) := by rw [hsN]; exact IntWalk.i64_in _ (by omega)
  have s2 : wrap64 (2 * (S : Int)) = ((2 * S : Nat) : Int) := by rw [hsN]; exact IntWalk.wrap64_in _ (by clear s1; omega)
  obtain ⟨N, hN⟩ : ∃ N, N = 2 * S := ⟨_, rfl⟩
  rw [← hN] at s1 s2
  have HN := Lib.hid hN
  have hzr := Lib.hid (zeroRows N w2 (by clear s1 s2 hsN; omega) (.inr (by have := HO2.out.2.2.2.1; omega)))
  clear hsN hN
  go_wp2_with fail
  refine hzr.out.mono ?_
  rintro e w4 ⟨v, rfl, o4, b4⟩
  obtain ⟨a9, c9, rfl⟩ := o4.rd.shape
  rw [tab_len] at o4 ⊢
  obtain ⟨L, hL⟩ : ∃ L, L = w2.heap.size := ⟨_, rfl⟩
  rw [← hL] at o4
  obtain ⟨H1, hH1⟩ : ∃ H, H = w4.heap.size := ⟨_, rfl⟩
  rw [← hH1] at o4
  have HB4 := Lib.hid (⟨HO2.out.1.below b4, HO2.out.2.1.below b4, HO2.out.2.2.1.next b4, HO2.out.2.2.1.size, hL, hH1, b4.size, HO2.out.2.2.2.2⟩ : _ ∧ _ ∧ _ ∧ _ ∧ _ ∧ _ ∧ _ ∧ _)
  rw [← vfS_0 A D S] at o4
  have HS := Lib.hid o4
  clear o4 b4 hzr HO2 hL hH1 s1 s2 ww1 ww2
  go_wp2
  go_loopw [44] (fun i wr => ∃ v : Nat, v ≤ S ∧ i = .int .i64 v ∧ OwR L H1 wr (.slice a9 N c9) (tab N (vfS A D S v)) ∧ Chg L H1 w4 wr) (fun i _ => S - (intOf i).toNat)
  case atStart => exact ⟨0, Nat.zero_le _, rfl, HS.out, Chg.refl _ _ _⟩
  case round =>
    clear HS
    obtain ⟨v, hv, rfl, hO, hch⟩ := hrel
    by_cases hlt : v < S
    · have hNv : N = 2 * S := HN.out
      obtain ⟨g, b, cb, rfl, e2, _, _, e5, e6, _, e8, _⟩ := hO.ent2 (i := v) (j := 0) (by omega) (by omega)
      obtain ⟨b5, off5, rfl, e5c⟩ := (HB4.out.1.chg hch (.inl (by have := HB4.out.2.2.2; omega))).at HDL.out v hlt
      have hdv := HDE.out v hlt
      rw [hdv.1] at e5c
      have hadj := HB4.out.2.1.chg hch (.inl (by have := HB4.out.2.2.2; omega))
      obtain ⟨b6, off6, b7, off7, c7, rfl, e7, _⟩ := hadj.ent hlt (show 0 < S by omega)
      have HADJ := Lib.hid (fun j (hj : j < S) => show wr.drew.cell? ⟨b7, off7 + j, none⟩ = some (.int .i64 (A v j)) by
        obtain ⟨b8, off8, b9, off9, c9', x1, x2, x3⟩ := hadj.ent hlt hj
        simp only [Option.some.injEq, Addr.mk.injEq, and_true] at x1
        obtain ⟨rfl, rfl⟩ := x1
        rw [e7] at x2
        simp only [Option.some.injEq, Value.slice.injEq, Addr.mk.injEq, and_true, true_and] at x2
        obtain ⟨⟨rfl, rfl⟩, -⟩ := x2
        exact x3)
      have HO := Lib.hid (show OwR L H1 wr.drew (.slice (some ⟨g, 0, none⟩) N c9) (tab N (vfS A D S v)) from hO.qt (Qt.refl wr).drew)
      have HCH := Lib.hid (hch.trans ((Qt.refl wr).drew.chg L H1))
      have HE2 := Lib.hid (show wr.drew.cell? ⟨g, v, none⟩ = some (.slice (some ⟨b, 0, none⟩) N cb) from e2)
      have HBL := Lib.hid (⟨e5, e6⟩ : L ≤ b ∧ b < H1)
      have hcl : ((List.range S).map (fun j => Value.int .i64 (A v j))).length = S := by simp
      have HXC := Lib.hid (fun j (hj : j < N) => show (wr.drew.cell? ⟨b, 0 + j, none⟩).isSome = true ∧ wr.drew.frozen? ⟨b, 0 + j, none⟩ = false by
        obtain ⟨g', b', cb', y1, y2, y3, y4, _⟩ := HO.out.ent2 (i := v) (j := j) (by omega) hj
        simp only [Option.some.injEq, Addr.mk.injEq, and_true] at y1
        subst y1
        rw [HE2.out] at y2
        simp only [Option.some.injEq, Value.slice.injEq, Addr.mk.injEq, and_true, true_and] at y2
        obtain ⟨rfl, -⟩ := y2
        rw [Nat.zero_add]
        exact ⟨by rw [y3]; rfl, y4⟩)
      have hvN : (v : Int) < (N : Int) := by omega
      have hvS : (v : Int) < (S : Int) := by omega
      obtain ⟨dv, hdv2⟩ : ∃ dv, dv = D v := ⟨_, rfl⟩
      have hdd := HD1.out v
      rw [← hdv2] at hdd
      have hmb : -200000000 ≤ wt0 * (wt0 - deg xss (v : Int)) ∧ wt0 * (wt0 - deg xss (v : Int)) ≤ 200000000 := wd_bd hw0 ⟨hdv.2.1, hdv.2.2⟩
      have hdI : I64 dv := by unfold I64; omega
      obtain ⟨M, hM⟩ : ∃ M, M = S + v := ⟨_, rfl⟩
      have hMN : M < N := by omega
      have HT5 := Lib.hid (fun w5 (hw5 : w5 = wr.drew.setCells b 0 ((List.range S).map (fun j => Value.int .i64 (A v j)))) => show ∃ (b' cb' b'' cb'' : Nat) (x0 x1 : Int), w5.cell? ⟨g, v, none⟩ = some (.slice (some ⟨b', 0, none⟩) N cb') ∧ w5.cell? ⟨b', M, none⟩ = some (.int .i64 x0) ∧ w5.frozen? ⟨b', M, none⟩ = false ∧ (w5.setCell ⟨b', M, none⟩ (.int .i64 dv)).cell? ⟨g, M, none⟩ = some (.slice (some ⟨b'', 0, none⟩) N cb'') ∧ (w5.setCell ⟨b', M, none⟩ (.int .i64 dv)).cell? ⟨b'', v, none⟩ = some (.int .i64 x1) ∧ (w5.setCell ⟨b', M, none⟩ (.int .i64 dv)).frozen? ⟨b'', v, none⟩ = false ∧ OwR L H1 ((w5.setCell ⟨b', M, none⟩ (.int .i64 dv)).setCell ⟨b'', v, none⟩ (.int .i64 1)) (.slice (some ⟨g, 0, none⟩) N c9) (tab N (vfS A D S (v + 1))) ∧ Chg L H1 w4 ((w5.setCell ⟨b', M, none⟩ (.int .i64 dv)).setCell ⟨b'', v, none⟩ (.int .i64 1)) by
        have hf := OwR.fillRow (cb := cb) (show v < N by omega) rfl ((List.range S).map (A v)) 0 wr.drew _ HO.out HE2.out (by simp; omega) (HAI.out v)
        rw [List.map_map] at hf
        have hf2 : OwR L H1 w5 (.slice (some ⟨g, 0, none⟩) N c9) (tab N (rowPut (vfS A D S v) v 0 ((List.range S).map (A v)))) := by rw [hw5]; exact hf
        have hc5 : Chg L H1 w4 w5 := by rw [hw5]; exact HCH.out.trans ((chg_setCells b _ 0 wr.drew).mono HBL.out.1 (by have := HBL.out.2; omega))
        obtain ⟨g', b', cb', y1, y2, y3, y4, y5, y6, _, _, y8⟩ := hf2.ent2 (i := v) (j := M) (by omega) hMN
        simp only [Option.some.injEq, Addr.mk.injEq, and_true] at y1
        subst y1
        have hg2 := y8 dv hdI
        obtain ⟨g'', b'', cb'', q1, q2, q3, q4, q5, q6, _, _, q8⟩ := hg2.ent2 (i := M) (j := v) hMN (by omega)
        simp only [Option.some.injEq, Addr.mk.injEq, and_true] at q1
        subst q1
        have hg3 := q8 1 (by unfold I64; omega)
        rw [hdv2, hM, vfS_step A D hlt, ← hM, ← hdv2] at hg3
        exact ⟨b', cb', b'', cb'', _, _, y2, y3, y4, q2, q3, q4, hg3, (hc5.setCell (p := ⟨b', M, none⟩) ⟨y5, y6⟩ _).setCell (p := ⟨b'', v, none⟩) ⟨q5, q6⟩ _⟩)
      generalize deg xss (v : Int) = dg at e5c hdd hdv hmb ⊢
      have p1 : IntKind.i64.wrap ((S : Int) + (v : Int)) = (M : Int) := by rw [show (S : Int) + (v : Int) = (M : Int) by omega]; exact IntWalk.i64_in _ (by omega)
      have p2 : wrap64 ((S : Int) + (v : Int)) = (M : Int) := by rw [show (S : Int) + (v : Int) = (M : Int) by clear p1; omega]; exact IntWalk.wrap64_in _ (by clear p1; omega)
      have t3 : IntKind.i64.wrap (wt0 - dg) = wt0 - dg := IntWalk.i64_in _ (by clear p1 p2; omega)
      have t4 : wrap64 (wt0 - dg) = wt0 - dg := IntWalk.wrap64_in _ (by clear p1 p2 t3; omega)
      have t1 : IntKind.i64.wrap (wt0 * (wt0 - dg)) = dv := by rw [hdd]; exact IntWalk.i64_in _ (by clear p1 p2 t3 t4; omega)
      have t2 : wrap64 (wt0 * (wt0 - dg)) = dv := by rw [hdd]; exact IntWalk.wrap64_in _ (by clear p1 p2 t1 t3 t4; omega)
      have hMi : (M : Int) < (N : Int) := by clear p1 p2 t1 t2 t3 t4; omega
      have hM0 : (0 : Int) ≤ (M : Int) := by clear p1 p2 t1 t2 t3 t4; omega
      clear hO hch hadj hdv e5 e6 e8 hNv hdd hdv2 hM hdI hMN hmb
      go_wp2
      go_still_tail 8, (by kernel_rfl)
      change wpList _ _ _ _ _ wr.drew
      clear e2 e5c e7
      generalize wr.drew = Z at HADJ HO HCH HE2 HXC HT5 ⊢
      go_wp2_with (go_loud (refine wpList_copy_at rfl (.tmp 52) (.tmp 56) 26 26 rfl 2 Try.underlying26 HSZ.out b 0 N cb (some ⟨b7, off7, none⟩) S c7 rfl rfl ((List.range S).map (fun j => Value.int .i64 (A v j))) (by rw [hcl]; exact (Nat.min_eq_left (by have := HN.out; clear p1 p2 t1 t2 t3 t4; omega)).symm) (fun _ => ⟨⟨b7, off7, none⟩, rfl, fun j u hj => by
        have hjl : j < S := by
          have := (List.getElem?_eq_some_iff.1 hj).1
          rwa [hcl] at this
        simp only [List.getElem?_map, List.getElem?_range hjl, Option.map_some, Option.some.injEq] at hj
        rw [← hj, addr_add]
        exact HADJ.out j hjl⟩) (fun j hj => (HXC.out j (by rw [hcl] at hj; have := HN.out; clear p1 p2 t1 t2 t3 t4; omega)).1) (fun j hj => (HXC.out j (by rw [hcl] at hj; have := HN.out; clear p1 p2 t1 t2 t3 t4; omega)).2) (fun u hu => by obtain ⟨j, _, rfl⟩ := List.mem_map.1 hu; rfl) ?_); intro w5 hw5; obtain ⟨b', cb', b'', cb'', x0, x1, r1, r2, r3, r4, r5, r6, r7⟩ := HT5.out w5 hw5; have HF := Lib.hid r7; clear hw5 r7)
      clear p1 p2 t1 t2 t3 t4 r1 r2 r3 r4 r5 r6
      go_roundw
      case rel => exact ⟨v + 1, by omega, by go_num, HF.out⟩
      case measure => simp [intOf]; omega
    · obtain rfl : v = S := by omega
      rw [HN.out, vfS_all] at hO
      have HDP := Lib.hid (detM p (2 * v) (vfM A D v) a9 c9 wr hO.rd HFT.out (by omega) HPR.out)
      rw [← HN.out] at HDP
      have HB := Lib.hid (HB4.out.2.2.1.trans (hch.below (by have := HB4.out.2.2.2; omega) (by have := HB4.out.2.2.2; omega)))
      clear hO hch
      go_wp2_with fail
      refine HDP.out.mono ?_
      rintro e w9 ⟨a7, c7, rfl, o7, b7⟩
      have HF := Lib.hid (⟨OwI.mono o7 HB.out.size (Nat.le_refl _), HB.out.next b7⟩ : _ ∧ _)
      clear o7 b7 HDP
      go_wp2
      go_ret2
      exact ⟨a7, c7, by rw [← HN.out]; rfl, by rw [← HN.out]; exact HF.out.1, HF.out.2⟩

set_option maxHeartbeats 3200000 in
theorem implBf {lo hi : Nat} (p s : Int) (a : Option Addr) (n c : Nat) (xss : List (List Int)) (t : Int) (w : World) (h : RdR lo hi w (.slice a n c) xss) (hn : xss.length = n) :
    Calls Try.prog 27 #[.int .i64 p, .agg #[.int .i64 s, .slice a n c], .int .i64 t] w fun e w' => ∃ a' c', e = .returned (.tuple #[.slice a' (bfOf p s xss t).1.length c', .int .i64 (bfOf p s xss t).2]) ∧ OwI w.heap.size w'.heap.size w' (.slice a' (bfOf p s xss t).1.length c') (bfOf p s xss t).1 ∧ Below w.heap.size w w' := by
  by_cases hc : numCode p s xss t = 0
  · obtain ⟨S, rfl⟩ : ∃ S : Nat, s = (S : Int) := ⟨s.toNat, by have := grB_iff (numCode_ok2 hc).1; omega⟩
    have e : bfOf p (S : Int) xss t = (bfL p S xss t, 0) := by unfold bfOf; rw [if_pos hc]; rfl
    rw [e]
    exact implBf_yes p S a n c xss t w h hn hc
  · have e : bfOf p s xss t = ([], numCode p s xss t) := by unfold bfOf; rw [if_neg hc]
    rw [e]
    have hb0 : ∀ o, Below w.heap.size w (w.alloc o) := fun o => (Below.refl _ _).alloc (Nat.le_refl _) o
    have HCK := Lib.hid (fun W (hB : Below w.heap.size w W) => checkResidue p s a n c xss t W (h.below hB) hn)
    have hcb : (numCode p s xss t != 0) = true := by simpa using hc
    generalize numCode p s xss t = cd at HCK hcb ⊢
    clear h hn hc e
    go_enter Try.func27, Try.ntmps27
    go_wp2_with fail
    refine calls_gen (fun W => Below w.heap.size w W) (hb0 _) ?_
    rintro W hB
    refine (HCK.out W hB).mono ?_
    rintro e w1 ⟨rfl, b1⟩
    replace hB := hB.next b1
    clear b1 HCK
    go_wp2
    go_ret2
    exact ⟨none, 0, rfl, OwI.nil' _ _ _, hB⟩
end Go.Proofs.Ytolipjemabmlkaa
