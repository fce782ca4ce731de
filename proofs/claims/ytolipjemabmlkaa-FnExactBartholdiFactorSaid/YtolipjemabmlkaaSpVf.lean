/- VertexFactor of the model. -/
import Derived.Test.YtolipjemabmlkaaVfJ
import Derived.Test.YtolipjemabmlkaaBk
import Derived.Test.YtolipjemabmlkaaSpecAdj
import Derived.Test.YtolipjemabmlkaaAz
import Derived.Deep.RegionLaw
set_option linter.unusedSimpArgs false
set_option linter.unusedVariables false
set_option maxRecDepth 100000
namespace Go.Proofs.Ytolipjemabmlkaa
open Go.RowKit

theorem vf_row1 (A : Nat → Nat → Int) (d : Nat → Int) {S v : Nat} (hv : v < S) : ((List.range S).map (A v) ++ List.replicate S 0).set (S + v) (d v) = (List.range (2 * S)).map (vfM A d S v) := by
  apply List.ext_getElem
  · simp; omega
  · intro j h1 h2
    have hj : j < 2 * S := by simpa using h2
    rw [List.getElem_set]
    simp only [List.getElem_map, List.getElem_range]
    unfold vfM
    rw [if_pos hv]
    by_cases e : S + v = j
    · rw [if_pos e, if_neg (by omega), if_pos e.symm]
    · rw [if_neg e]
      by_cases e2 : j < S
      · rw [if_pos e2, List.getElem_append_left (by simpa using e2)]; simp
      · rw [if_neg e2, if_neg (fun x => e x.symm), List.getElem_append_right (by simp; omega)]; simp
theorem vf_row2 (A : Nat → Nat → Int) (d : Nat → Int) {S v : Nat} (hv : v < S) : ((List.range (2 * S)).map (fun _ => (0 : Int))).set v 1 = (List.range (2 * S)).map (vfM A d S (S + v)) := by
  apply List.ext_getElem
  · simp
  · intro j h1 h2
    rw [List.getElem_set]
    simp only [List.getElem_map, List.getElem_range]
    unfold vfM
    rw [if_neg (show ¬ (S + v < S) by omega)]
    by_cases e : v = j
    · rw [if_pos e, if_pos (by omega)]
    · rw [if_neg e, if_neg (by omega)]
theorem vfM_I64 {A : Nat → Nat → Int} {d : Nat → Int} {S : Nat} (hA : ∀ i j, I64 (A i j)) (hd : ∀ i, i < S → I64 (d i)) (i j : Nat) : I64 (vfM A d S i j) := by
  unfold vfM
  split
  · rename_i h
    split
    · exact hA i j
    · split
      · exact hd i h
      · exact I64_zero
  · split
    · unfold I64; omega
    · exact I64_zero

theorem OwI.formS {lo hi : Nat} {w : World} {a : Option Addr} {n c : Nat} {xs : List Int} (h : OwI lo hi w (.slice a n c) xs) (hl : xs.length = n) (h0 : 0 < n) : ∃ g, a = some ⟨g, 0, none⟩ ∧ lo ≤ g ∧ g < w.heap.size ∧ w.ownsRow lo 2 1 (.slice (some ⟨g, 0, none⟩) n c) n (xs.map (Value.int .i64)) := by
  obtain ⟨_, _, h3, _⟩ := h
  rw [hl] at h3
  obtain ⟨g, cap, e, h1, h2⟩ := h3.form h0
  simp only [Value.slice.injEq] at e
  obtain ⟨rfl, -, rfl⟩ := e
  exact ⟨g, rfl, h1, h2, h3⟩

set_option maxHeartbeats 6400000 in
theorem specVf_yes {lo hi : Nat} (S : Nat) (a : Option Addr) (n c : Nat) (xss : List (List Int)) (w : World) (h : RdR lo hi w (.slice a n c) xss) (hn : xss.length = n) (hg : grB (S : Int) xss = true) :
    Calls Try.prog 18 #[.agg #[.int .i64 (S : Int), .slice a n c]] w fun e w' => ∃ a' c', e = .returned (.tuple #[.slice a' (vfL S xss).length c', .int .i64 0]) ∧ OwI w.heap.size w'.heap.size w' (.slice a' (vfL S xss).length c') (vfL S xss) ∧ Below w.heap.size w w' := by
  obtain ⟨i0, hi', z0, z1, z2⟩ := info_parts Try.info2
  obtain ⟨j0, hj', y0, y1, y2⟩ := info_parts Try.info26
  have hb0 : ∀ o, Below w.heap.size w (w.alloc o) := fun o => (Below.refl _ _).alloc (Nat.le_refl _) o
  have hg4 := grB_iff hg
  have hS8 : S ≤ 8 := by omega
  have hS1 : 1 ≤ S := by omega
  have HI := Lib.hid (fun W (hB : Below w.heap.size w W) => l01Is (S : Int) a n c xss W (h.below hB) hn)
  rw [hg] at HI
  have HAD := Lib.hid (fun W (hB : Below w.heap.size w W) => l01Adjacency S a n c xss W (h.below hB) hn hg)
  have HDG := Lib.hid (fun W (hB : Below w.heap.size w W) (v : Nat) => l01Degree (S : Int) (v : Int) a n c xss W (h.below hB) hg)
  have HDB := Lib.hid (fun v : Nat => show 0 ≤ deg xss (v : Int) ∧ deg xss (v : Int) ≤ 20 by have := deg_bd xss (v : Int); omega)
  have HFT := Lib.hid (vfM_fits hg)
  have HN := Lib.hid hn
  have HT := Lib.hid (adZ_tab hg S)
  have HAT := Lib.hid (show tab S (fun i j => adS (pairs xss) xss.length i j) = tab S (adF xss) from rfl)
  have HVL := Lib.hid (show vfL S xss = trim (dkL (vfM (adF xss) (dgF xss) S) (2 * S)) from rfl)
  have HD1 := Lib.hid (fun v : Nat => show dgF xss v = 1 - deg xss (v : Int) from rfl)
  have HAI := Lib.hid (fun i j => show I64 (adF xss i j) by have := adF_bd hg i j; unfold I64; omega)
  rw [HVL.out]
  generalize adF xss = A at HAT HFT HAI ⊢
  generalize dgF xss = D at HFT HD1 ⊢
  have HDI := Lib.hid (fun i => show I64 (D i) by rw [HD1.out]; have := HDB.out i; unfold I64; omega)
  have HMI := Lib.hid (fun i j => vfM_I64 (S := S) HAI.out (fun i _ => HDI.out i) i j)
  obtain ⟨N, hN⟩ : ∃ N, N = 2 * S := ⟨_, rfl⟩
  have HN2 := Lib.hid hN
  have hN16 : N ≤ 16 := by omega
  have HR1 := Lib.hid (fun v (hv : v < S) => show ((List.range S).map (A v) ++ List.replicate S 0).set (S + v) (D v) = (List.range N).map (vfM A D S v) by rw [hN]; exact vf_row1 A D hv)
  have HR2 := Lib.hid (fun v (hv : v < S) => show ((List.range N).map (fun _ => (0 : Int))).set v 1 = (List.range N).map (vfM A D S (S + v)) by rw [hN]; exact vf_row2 A D hv)
  rw [← hN] at HFT ⊢
  generalize vfM A D S = M at HFT HMI HR1 HR2 ⊢
  have HTL := Lib.hid (show (tab N M).length = N from tab_len _ _)
  clear h hn hg hg4 HVL hN
  go_enter Try.func18, Try.ntmps18
  go_wp2_with fail
  refine calls_gen (fun W => Below w.heap.size w W ∧ w.heap.size < W.heap.size ∧ W.cell? ⟨w.heap.size, 0, none⟩ = some (.int .i64 (S : Int)) ∧ W.cell? ⟨w.heap.size, 1, none⟩ = some (.slice a n c)) ⟨hb0 _, by simp, by go_simp, by go_simp⟩ ?_
  rintro W ⟨hB, hzz, k0, k1⟩
  refine (HI.out W hB).mono ?_
  rintro e wa ⟨rfl, ba⟩
  replace hB := hB.next ba
  replace k0 := ba.keep k0
  replace k1 := ba.keep k1
  replace hzz := Nat.lt_of_lt_of_le hzz ba.size
  clear ba HI
  have HB := Lib.hid (⟨hB, hzz⟩ : _ ∧ _)
  clear hB hzz
  go_wp2_with fail
  refine (HAD.out wa HB.out.1).mono ?_
  rintro e w1 ⟨aA, cA, rfl, o1, b1⟩
  have ho : RdR wa.heap.size w1.heap.size w1 (.slice aA S cA) (tab S A) := by
    have := o1.rd
    rw [← HN.out, HT.out, HAT.out] at this
    exact this
  have hB := HB.out.1.next b1
  replace k0 := b1.keep k0
  replace k1 := b1.keep k1
  have hzz := Nat.lt_of_lt_of_le HB.out.2 b1.size
  obtain ⟨B, hB0⟩ : ∃ B, B = w.heap.size := ⟨_, rfl⟩
  obtain ⟨L, hL⟩ : ∃ L, L = w1.heap.size := ⟨_, rfl⟩
  obtain ⟨LA, hLA⟩ : ∃ LA, LA = wa.heap.size := ⟨_, rfl⟩
  have hl0 := World.ownsRow_lit (base := w1.heap.size) (e := 26) (size := 1) w1 #[] 0 (Nat.le_refl _) (by unfold maxLen; omega) rfl
  have hbA := (Below.refl w1.heap.size w1).alloc (Nat.le_refl _) (.cells #[] 26)
  have hP0 : OwP w1.heap.size w.heap.size (w1.alloc (.cells #[] 26)) w1.heap.size 0 0 [] [] := OwP.empty hl0 (by omega)
  have HP0 := Lib.hid (⟨hP0, hB.next hbA, Nat.lt_of_lt_of_le hzz hbA.size, hbA.keep k0, hbA.keep k1, ho.below hbA⟩ : _ ∧ _ ∧ _ ∧ _ ∧ _ ∧ _)
  rw [← hB0] at HP0 hzz
  rw [← hL] at HP0 hzz
  rw [← hLA] at HP0
  have HEQ := Lib.hid (⟨hB0, hL, hLA⟩ : _ ∧ _ ∧ _)
  have hBL : B < L := hzz
  clear b1 o1 ho hB hzz hl0 hbA hP0 HAD HT HAT HB k1
  rw [hB0, hL] at hBL
  go_wp2
  clear k0
  rw [← hL, ← hB0]
  generalize w1.alloc (.cells #[] 26) = V at HP0 ⊢
  rw [← hB0, ← hL] at hBL
  clear hB0 hL hLA
  go_loopw [5, 6] (fun v y wr => ∃ (k : Nat) (rvs : List Value) (g cc : Nat), k ≤ S ∧ y = .int .i64 k ∧ v = .slice (some ⟨g, 0, none⟩) k cc ∧ OwP L B wr g k cc rvs ((tab N M).take k) ∧ Below B w wr ∧ B < wr.heap.size ∧ wr.cell? ⟨B, 0, none⟩ = some (.int .i64 (S : Int)) ∧ wr.cell? ⟨B, 1, none⟩ = some (.slice a n c) ∧ RdR LA L wr (.slice aA S cA) (tab S A)) (fun _ y _ => S - (intOf y).toNat)
  case atStart => exact ⟨0, [], L, 0, Nat.zero_le _, rfl, rfl, HP0.out⟩
  case round =>
    clear HP0
    obtain ⟨k, rvs, g, cc, hk, rfl, rfl, hP, hB, hzr, k0, k1, hA⟩ := hrel
    obtain ⟨U, rfl⟩ : ∃ U, U = wr := ⟨_, rfl⟩
    by_cases hlt : k < S
    · have hkS : (k : Int) < (S : Int) := by omega
      obtain ⟨b, off, rv, rfl, e2, e3⟩ := hA.at (tab_len _ _) k hlt
      obtain ⟨a', c', rfl⟩ := e3.shape
      rw [tab_rlen A hlt] at e2 e3
      rw [tab_row A hlt] at e3
      have HST := Lib.hid (tab_take M (show k < N by have := HN2.out; omega))
      have HPB := Lib.hid (⟨hP, hB, hzr, hA⟩ : _ ∧ _ ∧ _ ∧ _)
      have HKU := Lib.hid (⟨k0, k1⟩ : _ ∧ _)
      have d2 : U.drew.cell? ⟨b, off + k, none⟩ = _ := e2
      have d0 : U.drew.cell? ⟨B, 0, none⟩ = _ := k0
      have d1 : U.drew.cell? ⟨B, 1, none⟩ = _ := k1
      have HOW := Lib.hid (l01Own (.slice a' S c') _ U.drew (e3.qt (Qt.refl U).drew))
      have hlS : ((List.range S).map (A k)).length = S := by simp
      rw [hlS] at HOW
      have hbU : b < U.heap.size := World.block_lt_of_cell? U _ e2
      have hm63 : S + S ≤ maxLen := by unfold maxLen; omega
      have hby : (S + S) * 8 ≤ 140737488355328 := by omega
      have HDU := Lib.hid (show Below U.heap.size U U.drew from (Qt.refl U).drew.below)
      clear hP hB hA e3
      go_wp2
      go_region_law (first
          | (go_simp; go_at_call 57; (with_reducible refine HOW.out.mono ?_); rintro e w2 ⟨a2, c2, rfl, o2, b2⟩; have f0 := b2.keep d0; have f1 := b2.keep d1; have f2 := b2.keep d2; obtain ⟨q, rfl, hq1, hq2, hq3⟩ := o2.formS hlS hS1; have hq4 : U.heap.size ≤ q := hq1; have n2 : some b ≠ some q := (by simp; omega); have n0 : some B ≠ some q := (by simp; omega); have HO2 := Lib.hid (⟨b2, hq4⟩ : _ ∧ _); have hwb : U.heap.size ≤ w2.heap.size := b2.size)
          | (refine step_append_zeros _ rfl (.tmp 26) (.tmp 28) 26 2 rfl U.heap.size 2 i0 (.int .i64 0) 8 .i64 .i64 Try.underlying26 Try.underlying2 hi' z0 z1 z2 rfl rfl q S c2 (((List.range S).map (A k)).map (Value.int .i64)) (by simp [Act.eval, Act.put]) hq3 S (by simp [Act.eval, Act.put]) hS1 hm63 hby hwb ?_; intro q4 c4 w4 hown4 hgr4 hlie4 hlt4; have g0 := hgr4.cell f0 n0; have g1 := hgr4.cell f1 n0; have g2 := hgr4.cell f2 n2))
      all_goals
        have hb2U : Below U.heap.size U w2 := HDU.out.next HO2.out.1
        have hb4 : Below U.heap.size U w4 := hb2U.grown hgr4 hwb (fun p hp => by
          have : q = p := by simpa using hp
          have := HO2.out.2; omega)
        have hq4U : U.heap.size ≤ q4 := by
          have := HO2.out.2
          rcases hlie4 with e | e <;> omega
        obtain ⟨sk, hsk⟩ : ∃ sk, sk = S + k := ⟨_, rfl⟩
        have hlm : (((List.range S).map (A k)).map (Value.int .i64)).length = S := by simp
        have hl0 : (((List.range S).map (A k)).map (Value.int .i64) ++ List.replicate S (Value.int .i64 0))[sk]? = some (Value.int .i64 0) := by
          rw [List.getElem?_append_right (by rw [hlm]; omega), hlm, List.getElem?_replicate, if_pos (by omega)]
        have hrow : ((((List.range S).map (A k)).map (Value.int .i64) ++ List.replicate S (Value.int .i64 0)).set sk (Value.int .i64 (D k))) = ((List.range N).map (M k)).map (Value.int .i64) := by
          rw [← HR1.out k hlt, List.map_set, List.map_append, List.map_replicate, hsk]
        have c4c := (hown4.cellAt sk (by omega)).trans hl0
        have f4c := hown4.frozenAt sk
        have HRW := Lib.hid (⟨hown4, hb4, hq4U, hrow⟩ : _ ∧ _ ∧ _ ∧ _)
        have HDE := Lib.hid (HDG.out w4.drew (by rw [← HEQ.out.1]; exact ((HPB.out.2.1.trans (hb4.mono (by have := HPB.out.2.2.1; omega))).drew)) k)
        have hBq : B < q4 := by have := HPB.out.2.2.1; omega
        have HSC := Lib.hid (fun (W : World) (o : Nat) (u : Value) (hc : W.cell? ⟨B, o, none⟩ = some u) => show (W.setCell ⟨q4, sk, none⟩ (.int .i64 (D k))).cell? ⟨B, o, none⟩ = some u from ((Chg.refl q4 (q4+1) W).setCell (p := ⟨q4, sk, none⟩) ⟨Nat.le_refl _, Nat.lt_succ_self _⟩ _).cell hc (.inl hBq))
        have hdb := HDB.out k
        have hd1 := HD1.out k
        generalize deg xss (k : Int) = dg at HDE hdb hd1
        have p1 : IntKind.i64.wrap ((S : Int) + (k : Int)) = (sk : Int) := by rw [show (S : Int) + (k : Int) = (sk : Int) by omega]; exact IntWalk.i64_in _ (by omega)
        have p2 : wrap64 ((S : Int) + (k : Int)) = (sk : Int) := by rw [show (S : Int) + (k : Int) = (sk : Int) by clear p1; omega]; exact IntWalk.wrap64_in _ (by clear p1; omega)
        have p3 : IntKind.i64.wrap (1 - dg) = D k := by rw [hd1]; exact IntWalk.i64_in _ (by clear p1 p2; omega)
        have p4 : wrap64 (1 - dg) = D k := by rw [hd1]; exact IntWalk.wrap64_in _ (by clear p1 p2 p3; omega)
        have hskS : (sk : Int) < (S : Int) + (S : Int) := by clear p1 p2 p3 p4; omega
        have hsk0 : (0 : Int) ≤ (sk : Int) := by clear p1 p2 p3 p4; omega
        have HSK := Lib.hid (⟨hsk, hdb, hd1⟩ : _ ∧ _ ∧ _)
        have h0d : w4.drew.cell? ⟨B, 0, none⟩ = _ := g0
        have h1d : w4.drew.cell? ⟨B, 1, none⟩ = _ := g1
        have c4d : w4.drew.cell? ⟨q4, sk, none⟩ = _ := c4c
        clear hq1 hq2 hq3 f0 f1 f2 e2 d0 d1 d2 k0 k1 hb2U hb4 hq4U hl0 hrow hown4 hgr4 hlie4 hlt4 n0 n2 hsk hdb hd1 g2 hwb hBq hlm HO2 HOW HDU hzr hm63 hby hlS
        go_simp
        go_wp2
        go_region_held3 (fun W' => W'.cell? ⟨B, 0, none⟩ = some (.int .i64 (S : Int)) ∧ W'.cell? ⟨B, 1, none⟩ = some (.slice a n c))
          (first | (with_reducible exact ⟨g0, g1⟩) | (with_reducible exact ⟨h0d, h1d⟩) | (with_reducible exact ⟨i0c, i1c⟩) | (with_reducible exact ⟨s0c, s1c⟩) | (trace_state; fail))
          (first
            | (go_at_call 58; (with_reducible refine HDE.out.mono ?_); rintro e w5 ⟨rfl, b5⟩; have i0c := b5.keep h0d; have i1c := b5.keep h1d; have i2c := b5.keep c4d; have i3c : w5.frozen? ⟨q4, sk, none⟩ = false := b5.keepf (World.block_lt_of_cell? _ _ c4d) f4c; have s0c := HSC.out w5 0 _ i0c; have s1c := HSC.out w5 1 _ i1c))
        all_goals
          obtain ⟨hown4, hb4, hq4U, hrow⟩ := HRW.out
          obtain ⟨hP, hB, hzr, hA⟩ := HPB.out
          have hown5 := ownsRow_chg hown4 ((((Qt.refl w4).drew.below).next b5).chg 0 0) (fun _ _ => .inr (Nat.zero_le _))
          have hown6 := (hown5.stored sk (.int .i64 (D k))).1
          rw [hrow] at hown6
          obtain ⟨w6, hw6⟩ : ∃ w6, w6 = w5.setCell ⟨q4, sk, none⟩ (.int .i64 (D k)) := ⟨_, rfl⟩
          rw [← hw6] at hown6 s0c s1c ⊢
          have hb5U : Below U.heap.size U w5 := hb4.next ((Qt.refl w4).drew.below.next b5)
          have hbU6 : Below U.heap.size U w6 := by rw [hw6]; exact hb5U.setCell (p := ⟨q4, sk, none⟩) hq4U _
          have hO : OwI U.heap.size w6.heap.size w6 (.slice (some ⟨q4, 0, none⟩) (S + S) c4) ((List.range N).map (M k)) := OwI.mk hown6 (by omega) (fun x hx => by
            obtain ⟨j, _, rfl⟩ := List.mem_map.mp hx
            exact HMI.out k j)
          have hownV := (hP.below hbU6).out.alloc (.cells #[.slice (some ⟨q4, 0, none⟩) (S + S) c4] 26)
          have hnews := news_one w6 26 (.slice (some ⟨q4, 0, none⟩) (S + S) c4)
          have hszw := hbU6.size
          have hlt2 : L ≤ g ∧ g < U.heap.size := hP.lt
          have HF0 := Lib.hid (⟨hO, hP, hB, hA, hbU6, hlt2, hszw, hzr⟩ : _ ∧ _ ∧ _ ∧ _ ∧ _ ∧ _ ∧ _ ∧ _)
          have HOV := Lib.hid (⟨hownV, hnews⟩ : _ ∧ _)
          clear hown4 hb4 hq4U hrow hP hB hA hown5 hown6 hw6 hb5U hbU6 hO b5 i0c i1c i2c i3c h0d h1d c4d g0 g1 c4c f4c p1 p2 p3 p4 hskS hsk0 HRW HDE HPB HSK hownV hnews hszw hlt2 hzr HSC
          go_simp
          go_wp2_with (at_builtin; refine wpList_append_lies _ rfl _ _ 22 rfl L 26 j0 (.slice none 0 0) 1 24 Try.underlying22 hj' y0 y1 y2 rfl (by decide) _ _ _ rfl HOV.out.1 ⟨w6.heap.size, 0, none⟩ 1 1 [.slice (some ⟨q4, 0, none⟩) (S + S) c4] rfl rfl ?e1 ?e2 (by decide) ?e3 ?e4 ?e5 _ rfl ?_)
          case e1 => exact HOV.out.2
          case e2 => first | (intro u hu; simp at hu; subst hu; rfl) | rfl | simp
          case e3 => unfold maxLen; omega
          case e4 => omega
          case e5 => have := HF0.out.2.2.2.2.2; simp; omega
          intro g2 c3 w7 hown3 hgr hlie hlt3
          obtain ⟨hO, hP, hB, hA, hb, hlt2, hszw, hzr⟩ := HF0.out
          have hV3 := hP.snocF (hi := w6.heap.size) hzr hb hO hown3 hgr (hlie.imp id (fun e => by rw [e]; simp))
          have hb3 : Chg g (g + 1) U w7 := snocC hb hgr
          rw [← HST.out] at hV3
          have hBg : B < g := by omega
          have hB3 : Below B w w7 := hB.trans (hb3.below (by omega) (by omega))
          have HF := Lib.hid (⟨hV3, hB3, Nat.lt_of_lt_of_le hzr hb3.size, hb3.cell HKU.out.1 (.inl hBg), hb3.cell HKU.out.2 (.inl hBg), hA.chg hb3 (.inl hlt2.1)⟩ : _ ∧ _ ∧ _ ∧ _ ∧ _ ∧ _)
          clear hO hP hB hA hb hV3 hb3 hB3 hown3 hgr hlie HOV HF0 s0c s1c
          go_wp2
          go_roundw
          case rel => exact ⟨k+1, _, g2, c3, by omega, by go_num, rfl, HF.out⟩
          case measure => simp [intOf]; omega
    · obtain rfl : k = S := by omega
      have HP0 := Lib.hid (⟨hP, hB, hzr, k0, k1⟩ : _ ∧ _ ∧ _ ∧ _ ∧ _)
      have HMZ := Lib.hid (show (madeCells #[Value.int .i64 0] N).toList = ((List.range N).map (fun _ => (0 : Int))).map (Value.int .i64) by
        rw [toList_madeCells_one]
        apply List.ext_getElem
        · simp
        · intro j h1 h2; simp)
      have hNS := HN2.out
      have n1 : IntKind.i64.wrap (2 * (k : Int)) = (N : Int) := by rw [show 2 * (k : Int) = (N : Int) by omega]; exact IntWalk.i64_in _ (by omega)
      have n2 : wrap64 (2 * (k : Int)) = (N : Int) := by rw [show 2 * (k : Int) = (N : Int) by clear n1; omega]; exact IntWalk.wrap64_in _ (by clear n1; omega)
      have HNN := Lib.hid (⟨n1, n2⟩ : _ ∧ _)
      have hN0 : (0 : Int) ≤ (N : Int) := by clear n1 n2; omega
      clear hP hB hA k1 hNS n1 n2 hzr
      go_wp2
      clear k0
      go_loopw [5, 8] (fun l y wr => ∃ (v m : Nat) (rvs : List Value) (g cc : Nat), v ≤ k ∧ y = .int .i64 v ∧ Hid (m = k + v) ∧ l = .slice (some ⟨g, 0, none⟩) m cc ∧ OwP L B wr g m cc rvs ((tab N M).take m) ∧ Below B w wr ∧ B < wr.heap.size ∧ wr.cell? ⟨B, 0, none⟩ = some (.int .i64 (k : Int)) ∧ wr.cell? ⟨B, 1, none⟩ = some (.slice a n c)) (fun _ y _ => k - (intOf y).toNat)
      case atStart => exact ⟨0, k, rvs, g, cc, Nat.zero_le _, rfl, Lib.hid rfl, rfl, HP0.out⟩
      case round =>
        rename_i hrel
        clear HP0
        obtain ⟨v, m, rvs, g, cc, hv, rfl, HM, rfl, hP, hB, hzr, k0, k1⟩ := hrel
        obtain ⟨U, rfl⟩ : ∃ U, U = wr := ⟨_, rfl⟩
        by_cases hlv : v < k
        · have hvk : (v : Int) < (k : Int) := by omega
          have hmN : m < N := by have := HM.out; have := HN2.out; omega
          have HST := Lib.hid (tab_take M hmN)
          have HPB := Lib.hid (⟨hP, hB, hzr, k0, k1⟩ : _ ∧ _ ∧ _ ∧ _ ∧ _)
          have hR2 := HR2.out v hlv
          rw [← HM.out] at hR2
          have HR2v := Lib.hid hR2
          obtain ⟨n1, n2⟩ := HNN.out
          clear hP hB hzr k1 hR2
          go_wp2_with (at_make; refine wpList_make_full _ rfl _ _ 26 rfl U.heap.size 2 i0 (.int .i64 0) 1 Try.underlying26 hi' z0 z1 _ _ _ _ N rfl rfl rfl rfl ?c1 ?c2 ?c3 ?_)
          case c1 => clear n1 n2; rw [z2]; omega
          case c2 => clear n1 n2; unfold maxLen; omega
          case c3 => exact Nat.le_refl _
          clear n1 n2
          intro w2 hown hgr
          have hb1 : Below U.heap.size U w2 := (Below.refl _ _).grown hgr (Nat.le_refl _) (fun j hj => by cases hj)
          obtain ⟨R, hR⟩ : ∃ R, R = U.heap.size := ⟨_, rfl⟩
          have HRR := Lib.hid hR
          rw [HMZ.out] at hown
          rw [← hR] at hown ⊢
          have hvN : v < N := by have := HM.out; omega
          have hvNi : (v : Int) < (N : Int) := by omega
          have r0 := (hown.cellAt v (by omega)).trans (show (((List.range N).map (fun _ => (0 : Int))).map (Value.int .i64))[v]? = some (Value.int .i64 0) by simp [hvN])
          have rf := hown.frozenAt v
          have hown2 := (hown.stored v (.int .i64 1)).1
          rw [← List.map_set, HR2v.out] at hown2
          obtain ⟨w3, hw3⟩ : ∃ w3, w3 = w2.setCell ⟨R, v, none⟩ (.int .i64 1) := ⟨_, rfl⟩
          rw [← hw3] at hown2
          have hbU6 : Below U.heap.size U w3 := by rw [hw3]; exact hb1.setCell (p := ⟨R, v, none⟩) (by show U.heap.size ≤ R; omega) _
          have hO : OwI R w3.heap.size w3 (.slice (some ⟨R, 0, none⟩) N N) ((List.range N).map (M m)) := OwI.mk hown2 (by omega) (fun x hx => by
            obtain ⟨j, _, rfl⟩ := List.mem_map.mp hx
            exact HMI.out m j)
          obtain ⟨hP, hB, hzr, _, _⟩ := HPB.out
          have hownV := (hP.below hbU6).out.alloc (.cells #[.slice (some ⟨R, 0, none⟩) N N] 26)
          have hnews := news_one w3 26 (.slice (some ⟨R, 0, none⟩) N N)
          have hszw := hbU6.size
          have hlt2 : L ≤ g ∧ g < U.heap.size := hP.lt
          have HF0 := Lib.hid (⟨hO, hP, hB, hbU6, hlt2, hszw, hzr⟩ : _ ∧ _ ∧ _ ∧ _ ∧ _ ∧ _ ∧ _)
          have HOV := Lib.hid (⟨hownV, hnews⟩ : _ ∧ _)
          have HW3 := Lib.hid hw3
          clear hown hown2 hP hB hzr hO hb1 hbU6 hgr hownV hnews hszw hlt2 hR k0 hw3 hvN
          rw [HW3.out] at HOV HF0
          have HOV2 := HOV.out.2
          rw [World.size_setCell] at HOV2
          have HSZ := Lib.hid (World.size_setCell (w := w2) (a := ⟨R, v, none⟩) (v := .int .i64 1))
          go_wp2_with (at_builtin; refine wpList_append_lies _ rfl _ _ 22 rfl L 26 j0 (.slice none 0 0) 1 24 Try.underlying22 hj' y0 y1 y2 rfl (by decide) _ _ _ rfl HOV.out.1 ⟨w2.heap.size, 0, none⟩ 1 1 [.slice (some ⟨R, 0, none⟩) N N] rfl rfl ?e1 ?e2 (by decide) ?e3 ?e4 ?e5 _ rfl ?_)
          case e1 => exact HOV2
          case e2 => first | (intro u hu; simp at hu; subst hu; rfl) | rfl | simp
          case e3 => unfold maxLen; omega
          case e4 => omega
          case e5 => have := HF0.out.2.2.2.2; have := HSZ.out; simp; omega
          intro g2 c3 w7 hown3 hgr hlie hlt3
          obtain ⟨hO, hP, hB, hb, hlt2, hszw, hzr⟩ := HF0.out
          rw [HRR.out] at hO hown3
          have hV3 := hP.snocF (hi := _) hzr (by rw [HRR.out] at hb; exact hb) hO hown3 (by rw [HRR.out] at hgr; exact hgr) (hlie.imp id (fun e => by rw [e]; simp [HRR.out]))
          have hb3 : Chg g (g + 1) U w7 := snocC hb hgr
          rw [← HST.out] at hV3
          have hBg : B < g := by omega
          have hB3 : Below B w w7 := hB.trans (hb3.below (by omega) (by omega))
          have HF := Lib.hid (⟨hV3, hB3, Nat.lt_of_lt_of_le hzr hb3.size, hb3.cell HPB.out.2.2.2.1 (.inl hBg), hb3.cell HPB.out.2.2.2.2 (.inl hBg)⟩ : _ ∧ _ ∧ _ ∧ _ ∧ _)
          have HM2 := Lib.hid (show m + 1 = k + (v + 1) by have := HM.out; omega)
          clear hO hP hB hb hV3 hb3 hB3 hown3 hgr hlie HOV HF0 r0 rf
          go_wp2
          go_roundw
          case rel => exact ⟨v+1, m+1, _, g2, c3, by omega, by go_num, HM2, rfl, HF.out⟩
          case measure => simp [intOf]; omega
        · obtain rfl : v = k := by omega
          have hmN : m = N := by have := HM.out; have := HN2.out; omega
          subst hmN
          rw [List.take_of_length_le (by rw [HTL.out]; exact Nat.le_refl _)] at hP
          have hO := hP.owr (by omega)
          have HC1 := Lib.hid (specBk m M (some ⟨g, 0, none⟩) cc U hO.rd (by omega))
          rw [nowB_dk m M HFT.out] at HC1
          have HC2 : Hid (Calls Try.prog 59 #[.slice (some ⟨g, 0, none⟩) m cc] U fun e w' => ∃ a' c', e = .returned (.slice a' (trim (dkL M m)).length c') ∧ OwI U.heap.size w'.heap.size w' (.slice a' (trim (dkL M m)).length c') (trim (dkL M m)) ∧ Below U.heap.size U w') := HC1
          have HB := Lib.hid (⟨hB, hzr⟩ : _ ∧ _)
          clear hP hO hB hzr k1 HC1
          go_wp2_with fail
          refine HC2.out.mono ?_
          rintro e w2 ⟨a2, c2, rfl, o2, b2⟩
          have HF := Lib.hid (⟨OwI.mono o2 (Nat.le_of_lt HB.out.2) (Nat.le_refl _), HB.out.1.trans (b2.mono (Nat.le_of_lt HB.out.2))⟩ : _ ∧ _)
          clear o2 b2 HC2 k0
          go_wp2
          go_ret2
          rw [← HEQ.out.1]
          exact ⟨a2, c2, rfl, HF.out⟩

set_option maxHeartbeats 1600000 in
theorem specVf {lo hi : Nat} (s : Int) (a : Option Addr) (n c : Nat) (xss : List (List Int)) (w : World) (h : RdR lo hi w (.slice a n c) xss) (hn : xss.length = n) :
    Calls Try.prog 18 #[.agg #[.int .i64 s, .slice a n c]] w fun e w' => ∃ a' c', e = .returned (.tuple #[.slice a' (vfOf s xss).1.length c', .int .i64 (vfOf s xss).2]) ∧ OwI w.heap.size w'.heap.size w' (.slice a' (vfOf s xss).1.length c') (vfOf s xss).1 ∧ Below w.heap.size w w' := by
  have hb0 : ∀ o, Below w.heap.size w (w.alloc o) := fun o => (Below.refl _ _).alloc (Nat.le_refl _) o
  cases hg : grB s xss with
  | true =>
    have hg4 := grB_iff hg
    obtain ⟨S, hS⟩ : ∃ S : Nat, s = (S : Int) := ⟨s.toNat, by omega⟩
    subst hS
    rw [vfOf_yes hg]
    exact specVf_yes S a n c xss w h hn hg
  | false =>
    have HI := Lib.hid (fun W (hB : Below w.heap.size w W) => l01Is s a n c xss W (h.below hB) hn)
    rw [hg] at HI
    rw [vfOf_no hg]
    clear h hn hg
    go_enter Try.func18, Try.ntmps18
    go_wp2_with fail
    refine calls_gen (fun W => Below w.heap.size w W) (hb0 _) ?_
    rintro W hB
    refine (HI.out W hB).mono ?_
    rintro e w1 ⟨rfl, b1⟩
    replace hB := hB.next b1
    clear b1 HI
    go_wp2
    go_ret2
    exact ⟨none, 0, rfl, OwI.nil' _ _ _, hB⟩

end Go.Proofs.Ytolipjemabmlkaa
