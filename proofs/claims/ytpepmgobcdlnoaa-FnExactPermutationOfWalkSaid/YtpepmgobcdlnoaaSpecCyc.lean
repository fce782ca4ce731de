/- Cyclic covers by the model. -/
import Derived.Test.YtpepmgobcdlnoaaArr
import Derived.Test.YtpepmgobcdlnoaaCoreB
import Derived.Deep.AppendLies
set_option linter.unusedSimpArgs false
set_option linter.unusedVariables false
set_option maxRecDepth 100000
namespace Go.Proofs.Ytpepmgobcdlnoaa
open Go.RowKit

def wM (m y : Int) : Bool := decide (-m ≤ y) && decide (y ≤ m)
def listB (n : Nat) (m : Int) (ys : List Int) : Bool := ys.all (wM m) && decide (ys.length = n)

set_option maxHeartbeats 1600000 in
theorem l04List {lo hi : Nat} (s : Int) (a : Option Addr) (n c : Nat) (a2 : Option Addr) (n2 c2 : Nat) (ys : List Int) (m : Int) (w : World) (h2 : RdI lo hi w (.slice a2 n2 c2) ys) (hn2 : ys.length = n2) (h0 : 0 ≤ m) (h1 : m ≤ 1000) (hn : n ≤ 10) :
    Calls Try.prog 73 #[.agg #[.int .i64 s, .slice a n c], .slice a2 n2 c2, .int .i64 m] w fun e w' => e = .returned (.bool (listB n m ys)) ∧ Below w.heap.size w w' := by
  have hb0 : ∀ o, Below w.heap.size w (w.alloc o) := fun o => (Below.refl _ _).alloc (Nat.le_refl _) o
  have HN2 := Lib.hid hn2
  have HCells := Lib.hid (h2.cellsC hn2)
  have hlen2 := h2.1
  rw [hn2] at hlen2
  have hwr : IntKind.i64.wrap (-m) = -m := IntWalk.i64_in _ (by omega)
  clear hn2 h2
  go_enter Try.func73, Try.ntmps73
  go_wp2
  go_loopw [7] (fun i wr => ∃ k : Nat, k ≤ n2 ∧ i = .int .i64 k ∧ wr.cell? ⟨w.heap.size, 1, none⟩ = some (.slice a n c) ∧ Below w.heap.size w wr ∧ (ys.take k).all (wM m) = true) (fun i _ => n2 - (intOf i).toNat)
  case atStart => exact ⟨0, Nat.zero_le _, rfl, by go_simp, hb0 _, rfl⟩
  case round =>
    obtain ⟨k, hk, rfl, k1, hB, hall⟩ := hrel
    have HA := Lib.hid hall
    clear hall
    by_cases hlt : k < n2
    · obtain ⟨b, off, rfl, g1⟩ := HCells.out k hlt
      replace g1 := hB.keep g1
      have hlt' : k < ys.length := by rw [HN2.out]; exact hlt
      have HY := Lib.hid (fun e => all_takeI hlt' HA.out e : wM m (ys.getD k 0) = true → _)
      have HZ := Lib.hid (fun e => all_notI hlt' e : wM m (ys.getD k 0) = false → _)
      generalize ys.getD k 0 = y at *
      cases hw : wM m y with
      | true =>
        have HW := Lib.hid hw
        clear hw
        go_wp2_with (go_at_call 71; refine (l01In _ _ _ _).mono ?_; rintro e w3 ⟨rfl, q3⟩; rw [show (decide (-m ≤ y) && decide (y ≤ m)) = true from HW.out])
        go_roundw
        case rel => exact ⟨k+1, by omega, by go_num, q3.cell k1, hB.qt q3, HY.out HW.out⟩
        case measure => simp [intOf]; omega
      | false =>
        have HW := Lib.hid hw
        clear hw
        go_wp2_with (go_at_call 71; refine (l01In _ _ _ _).mono ?_; rintro e w3 ⟨rfl, q3⟩; rw [show (decide (-m ≤ y) && decide (y ≤ m)) = false from HW.out])
        go_ret
        exact ⟨by rw [show listB n m ys = false by unfold listB; rw [HZ.out HW.out]; rfl]; rfl, hB.qt q3⟩
    · obtain rfl : k = n2 := by omega
      have e := HA.out
      rw [List.take_of_length_le (by rw [HN2.out]; exact Nat.le_refl _)] at e
      have hfin : listB n m ys = ((k : Int) == (n : Int)) := by
        unfold listB; rw [e, HN2.out, Bool.true_and, Bool.eq_iff_iff]; simp; omega
      have HF := Lib.hid hfin
      clear hfin e
      go_wp2
      go_ret
      exact ⟨by rw [HF.out]; rfl, hB⟩

theorem Box4.put3 {w : World} {b : Nat} {v0 v1 v2 v3 : Value} (h : Box4 w b v0 v1 v2 v3) (u : Value) : Box4 (w.setCell ⟨b, 3, none⟩ u) b v0 v1 v2 u := by
  obtain ⟨lt, c0, c1, c2, c3, f0, f1, f2, f3⟩ := h
  refine ⟨by simpa [World.setCell] using lt, ?_, ?_, ?_, World.cell?_setCell_same _ _ _ c3, ?_, ?_, ?_, ?_⟩
  · rw [World.cell?_setCell_other _ _ _ _ (by simp)]; exact c0
  · rw [World.cell?_setCell_other _ _ _ _ (by simp)]; exact c1
  · rw [World.cell?_setCell_other _ _ _ _ (by simp)]; exact c2
  all_goals (rw [World.frozen?_setCell]; assumption)

def cycRows (sh : Int) (ys : List Int) : List (List Int) := ys.map (twB sh)
theorem cycRows_get {sh : Int} {ys : List Int} {k : Nat} (h : k < ys.length) : (cycRows sh ys).getD k [] = twB sh (ys.getD k 0) := by
  simp [cycRows, List.getD, h]
theorem cycRows_len (sh : Int) (ys : List Int) : (cycRows sh ys).length = ys.length := by simp [cycRows]
theorem cycRows_take {sh : Int} {ys : List Int} {k : Nat} (h : k < ys.length) : (cycRows sh ys).take (k+1) = (cycRows sh ys).take k ++ [twB sh (ys.getD k 0)] := by
  rw [take_snocR (by rw [cycRows_len]; exact h), cycRows_get h]

theorem getD_memI {ys : List Int} {k : Nat} (h : k < ys.length) : ys.getD k 0 ∈ ys := by
  simp only [List.getD, List.getElem?_eq_getElem h, Option.getD_some]; exact List.getElem_mem h

set_option maxHeartbeats 3200000 in
/-- one turn by the model: the inner loop, from an empty list on, within the function's frame -/
theorem l04Cyclic {lo hi lo2 hi2 : Nat} (s : Int) (a : Option Addr) (n c : Nat) (xss : List (List Int)) (S : Nat) (a2 : Option Addr) (n2 c2 : Nat) (ys : List Int) (w : World) (h : RdR lo hi w (.slice a n c) xss) (hn : xss.length = n) (hn1 : n ≤ 1000)
    (h2 : RdI lo2 hi2 w (.slice a2 n2 c2) ys) (hn2 : ys.length = n2) (hn21 : n2 ≤ 1000) (h1 : 1 ≤ S) (h4 : S ≤ 4) (hy : ∀ y ∈ ys, -1000 ≤ y ∧ y ≤ 1000) :
    Calls Try.prog 72 #[.agg #[.int .i64 s, .slice a n c], .int .i64 S, .slice a2 n2 c2] w fun e w' => ∃ a' c' ta' tc' m, e = .returned (.agg #[.int .i64 s, .slice a' xss.length c', .int .i64 S, .slice ta' (cycRows S ys).length tc']) ∧
      w.heap.size ≤ m ∧ m ≤ w'.heap.size ∧ OwR w.heap.size m w' (.slice a' xss.length c') xss ∧ OwR m w'.heap.size w' (.slice ta' (cycRows S ys).length tc') (cycRows S ys) ∧ Below w.heap.size w w' := by
  obtain ⟨i0, hi', z0, z1, z2⟩ := info_parts Try.info2
  obtain ⟨j0, hj', y0, y1, y2⟩ := info_parts Try.info45
  have hb0 : ∀ o o', Below w.heap.size w ((w.alloc o).alloc o') := fun o o' => ((Below.refl _ _).alloc (Nat.le_refl _) o).alloc (by simp) o'
  have HN := Lib.hid hn
  have HN2 := Lib.hid hn2
  have HCells := Lib.hid (h2.cellsC hn2)
  have HR := Lib.hid h
  have HY := Lib.hid hy
  have HTL := Lib.hid (show (cycRows S ys).length = n2 by rw [cycRows_len]; exact hn2)
  clear hn hn2 h h2 hy
  go_enter Try.func72, Try.ntmps72
  go_wp2_with fail
  obtain ⟨R, hR⟩ : ∃ R, R = w.heap.size + 1 := ⟨_, rfl⟩
  refine calls_gen (fun W => Below w.heap.size w W ∧ Box4 W R (.int .i64 0) (.slice none 0 0) (.int .i64 0) (.slice none 0 0)) ⟨hb0 _ _, ⟨?_, ?_, ?_, ?_, ?_, ?_, ?_, ?_, ?_⟩⟩ ?_
  · rw [hR]; simp
  iterate 8 (rw [hR]; go_simp)
  rw [← hR]
  have hRw : w.heap.size < R := by omega
  clear hR
  rintro W0 ⟨hB0, bR⟩
  refine (l01Copy s a n c xss W0 (HR.out.below hB0) HN.out hn1).mono ?_
  rintro e W ⟨a1, c1, rfl, o1, b1⟩
  have hR0 := bR.lt
  have bR := bR.below b1
  have hB := hB0.next b1
  have hs0 := hB0.size
  have hs1 := b1.size
  have hRW := bR.lt
  have O1 := Lib.hid o1
  rw [HN.out] at O1 ⊢
  clear o1 b1 hB0
  go_wp2
  obtain ⟨H, hH⟩ : ∃ H, H = W.heap.size := ⟨_, rfl⟩
  obtain ⟨X, hX⟩ : ∃ X, X = W.heap.size + 1 := ⟨_, rfl⟩
  have hl0 := World.ownsRow_lit (base := W.heap.size) (e := 45) (size := 1) W #[] 0 (Nat.le_refl _) (by unfold maxLen; omega) rfl
  have hl1 := hl0.alloc (.cells #[.int .i64 s, .slice a1 n c1, .int .i64 S, .slice (some ⟨W.heap.size, 0, none⟩) 0 0] 31)
  have hP0 : OwP H X ((W.alloc (.cells #[] 45)).alloc (.cells #[.int .i64 s, .slice a1 n c1, .int .i64 S, .slice (some ⟨W.heap.size, 0, none⟩) 0 0] 31)) H 0 0 [] [] := by
    rw [hH]
    exact OwP.empty hl1 (by omega)
  have hbW : Below W.heap.size W ((W.alloc (.cells #[] 45)).alloc (.cells #[.int .i64 s, .slice a1 n c1, .int .i64 S, .slice (some ⟨W.heap.size, 0, none⟩) 0 0] 31)) := ((Below.refl _ _).alloc (Nat.le_refl _) _).alloc (by simp) _
  have hbx : Box4 ((W.alloc (.cells #[] 45)).alloc (.cells #[.int .i64 s, .slice a1 n c1, .int .i64 S, .slice (some ⟨W.heap.size, 0, none⟩) 0 0] 31)) X (.int .i64 s) (.slice a1 n c1) (.int .i64 S) (.slice (some ⟨H, 0, none⟩) 0 0) := by
    rw [hX, hH]
    exact ⟨by simp, by go_simp, by go_simp, by go_simp, by go_simp, by go_simp, by go_simp, by go_simp, by go_simp⟩
  have HP0 := Lib.hid (⟨hP0, hbW, hbx⟩ : _ ∧ _ ∧ _)
  have hXH : H < X := by omega
  have hRH : R < H := by omega
  clear hl0 hl1 hP0 hbW hbx
  rw [← hX, ← hH]
  rw [← hH] at HP0
  have HH := Lib.hid (⟨hH, hX⟩ : _ ∧ _)
  generalize (W.alloc (.cells #[] 45)).alloc (.cells #[.int .i64 s, .slice a1 n c1, .int .i64 S, .slice (some ⟨H, 0, none⟩) 0 0] 31) = V at HP0 ⊢
  clear hH hX
  go_loopw [8] (fun i wr => ∃ (k g cc : Nat) (rvs : List Value), k ≤ n2 ∧ i = .int .i64 k ∧ OwP H X wr g k cc rvs ((cycRows S ys).take k) ∧ Below H W wr ∧ Box4 wr X (.int .i64 s) (.slice a1 n c1) (.int .i64 S) (.slice (some ⟨g, 0, none⟩) k cc)) (fun i _ => n2 - (intOf i).toNat)
  case atStart => exact ⟨0, H, 0, [], Nat.zero_le _, rfl, HP0.out⟩
  case round =>
    clear HP0
    obtain ⟨k, g, cc, rvs, hk, rfl, hP, hWr, hbx⟩ := hrel
    obtain ⟨U, rfl⟩ : ∃ U, U = wr := ⟨_, rfl⟩
    have HPB := Lib.hid (⟨hP, hWr, hbx⟩ : _ ∧ _ ∧ _)
    have hzr : H ≤ U.heap.size := by have := hWr.size; have := HH.out.1; omega
    have hzx := hbx.lt
    clear hP hWr hbx
    by_cases hlt : k < n2
    · have hlt' : k < ys.length := by rw [HN2.out]; exact hlt
      have HST := Lib.hid (cycRows_take (sh := S) hlt')
      obtain ⟨b, off, rfl, g1⟩ := HCells.out k hlt
      have hyb := HY.out _ (getD_memI hlt')
      generalize ys.getD k 0 = y at *
      have hrl : (twB S y).length = S := by simp [twB]
      have HRI := Lib.hid (twB_I64 (y := y) (show (1 : Int) ≤ S by omega) (by omega))
      have HRG := Lib.hid (fun j hj => twB_get (sh := S) (y := y) (k := j) hj)
      have hBU : Below w.heap.size w U := hB.trans ((HPB.out.2.1).mono (by have := HH.out.1; have := hB.size; omega))
      have g2 := hBU.keep g1
      have hgb := World.block_lt_of_cell? _ _ g2
      have HBU := Lib.hid hBU
      clear hBU g1
      go_wp2
      have hl0 := World.ownsRow_lit (base := U.heap.size) (e := 2) (size := 1) U #[] 0 (Nat.le_refl _) (by unfold maxLen; omega) rfl
      have hu1 : Below U.heap.size U (U.alloc (.cells #[] 2)) := (Below.refl _ _).alloc (Nat.le_refl _) _
      go_loopw [10, 9] (fun i v wr2 => ∃ (j gi ci : Nat), j ≤ S ∧ i = .int .i64 j ∧ v = .slice (some ⟨gi, 0, none⟩) j ci ∧ wr2.ownsRow U.heap.size 2 1 (.slice (some ⟨gi, 0, none⟩) j ci) j (((twB S y).take j).map (Value.int .i64)) ∧ Below U.heap.size U wr2) (fun i _ _ => S - (intOf i).toNat)
      case atStart => exact ⟨0, U.heap.size, 0, Nat.zero_le _, rfl, rfl, hl0, hu1⟩
      case round =>
        clear hl0 hu1
        obtain ⟨j, gi, ci, hj, rfl, rfl, hown, hU⟩ := hrel
        have g3 := hU.keep g2
        by_cases hjl : j < S
        · obtain ⟨x, hx⟩ : ∃ x, x = tw1 S y j := ⟨_, rfl⟩
          have hrg : (twB S y).getD j 0 = x := by rw [hx]; exact HRG.out j (by simp; exact hjl)
          have HTK := Lib.hid (take_snoc (t := twB S y) (k := j) (by rw [hrl]; exact hjl))
          rw [hrg] at HTK
          have hS0 : ((S : Int) == 0) = false := by simp; omega
          have hbd := tmod_bd (x := (j : Int) + y) (show (1 : Int) ≤ S by omega)
          have hx2 : Int.tmod (Int.tmod ((j : Int) + y) S + S) S = x := hx.symm
          have hg0 := (hown.lt gi rfl).1
          have hownV := hown.alloc (.cells #[.int .i64 x] 2)
          have hnews := news_one wr 2 (.int .i64 x)
          have hs3 := hU.size
          have hU2 := hU.alloc hU.size (.cells #[.int .i64 x] 2)
          have hU2s := hU2.size
          generalize hz : Int.tmod ((j : Int) + y) S = z at *
          have HU := Lib.hid (⟨hU, hU2⟩ : _ ∧ _)
          clear hrg hx hU hU2 hown
          go_wp2_with (at_builtin; refine wpList_append_lies _ rfl _ _ 45 rfl U.heap.size 2 i0 (.int .i64 0) 1 8 Try.underlying45 hi' z0 z1 z2 rfl (by decide) _ _ _ rfl hownV ⟨wr.heap.size, 0, none⟩ 1 1 [.int .i64 x] rfl rfl ?d1 ?d2 (by decide) ?d3 ?d4 ?d5 _ rfl ?_)
          case d1 => exact hnews
          case d2 => first | (intro u hu; simp at hu; subst hu; rfl) | rfl | simp
          case d3 => unfold maxLen; omega
          case d4 => omega
          case d5 => simp; omega
          intro g4 c4 w4 hown3 hgr hlie hlt3
          replace hown3 : w4.ownsRow U.heap.size 2 1 (.slice (some ⟨g4, 0, none⟩) (j + 1) c4) (j + 1) (((twB S y).take (j+1)).map (Value.int .i64)) := by
            rw [HTK.out]
            simpa using hown3
          have hb4 := HU.out.2.grown hgr hU2s (fun q hq => by
            have : gi = q := by simpa [Value.ownBlock] using hq
            omega)
          have F := Lib.hid (⟨hown3, hb4⟩ : _ ∧ _)
          clear hown3 hb4 hgr hlie
          go_wp2
          go_roundw
          case rel => exact ⟨j+1, g4, c4, by omega, by go_num, rfl, F.out⟩
          case measure => simp [intOf]; omega
        · obtain rfl : j = S := by omega
          rw [List.take_of_length_le (by rw [hrl]; exact Nat.le_refl _)] at hown
          have hO : OwI U.heap.size wr.heap.size wr (.slice (some ⟨gi, 0, none⟩) j ci) (twB j y) := OwI.mk hown (by omega) HRI.out
          obtain ⟨hP, hWr, hbx⟩ := HPB.out
          have hbx2 := hbx.below hU
          obtain ⟨_, r0, r1, r2, r3, f0, f1, f2, f3⟩ := hbx2
          have hownV := (hP.below hU).out.alloc (.cells #[.slice (some ⟨gi, 0, none⟩) j ci] 45)
          have hnews := news_one wr 45 (.slice (some ⟨gi, 0, none⟩) j ci)
          have hs3 := hU.size
          have hlt2 : H ≤ g ∧ g < U.heap.size := hP.lt
          have hgx := hP.exg
          have hgxx : X < g ∨ g + 1 ≤ X := by omega
          have HF := Lib.hid (⟨hO, hP, hWr, hU, hbx⟩ : _ ∧ _ ∧ _ ∧ _ ∧ _)
          have hbase : H ≤ (wr.alloc (.cells #[.slice (some ⟨gi, 0, none⟩) j ci] 45)).heap.size := by simp; omega
          clear hO hP hWr hU hbx hown r0 r1 r2 f0 f1 f2
          go_wp2_with (at_builtin; refine wpList_append_lies _ rfl _ _ 22 rfl H 45 j0 (.slice none 0 0) 1 24 Try.underlying22 hj' y0 y1 y2 rfl (by decide) _ _ _ rfl hownV ⟨wr.heap.size, 0, none⟩ 1 1 [.slice (some ⟨gi, 0, none⟩) j ci] rfl rfl ?d1 ?d2 (by decide) ?d3 ?d4 ?d5 _ rfl ?_)
          case d1 => exact hnews
          case d2 => first | (intro u hu; simp at hu; subst hu; rfl) | rfl | simp
          case d3 => unfold maxLen; omega
          case d4 => omega
          case d5 => exact hbase
          intro g4 c4 w4 hown3 hgr hlie hlt3
          obtain ⟨hO, hP, hWr, hU, hbx⟩ := HF.out
          have hch : Chg g (g+1) U w4 := snocC hU hgr
          have hb5 := hbx.chg hch hgxx
          have q3 := hb5.c3
          have qf3 := hb5.f3
          have hP4 := (hP.snocF hzx hU hO hown3 hgr (hlie.imp id (fun e => by rw [e]; simp))).box ((Chg.refl X (X+1) _).setCell (p := ⟨X, 3, none⟩) ⟨Nat.le_refl _, Nat.lt_succ_self _⟩ (.slice (some ⟨g4, 0, none⟩) (k + 1) c4))
          rw [← HST.out] at hP4
          have hW4 := (hWr.chgn hch (by have := hP.lt; omega) hzr).setCell (p := ⟨X, 3, none⟩) (show H ≤ X by omega) (.slice (some ⟨g4, 0, none⟩) (k + 1) c4)
          have F := Lib.hid (⟨hP4, hW4, hb5.put3 (.slice (some ⟨g4, 0, none⟩) (k + 1) c4)⟩ : _ ∧ _ ∧ _)
          clear hO hP hWr hU hbx hch hb5 hP4 hW4 hown3 hgr hlie r3 f3
          go_wp2
          go_roundw
          case rel => exact ⟨k+1, g4, c4, _, by omega, by go_num, F.out⟩
          case measure => simp [intOf]; omega
    · obtain rfl : k = n2 := by omega
      obtain ⟨hP, hWr, hbx⟩ := HPB.out
      rw [List.take_of_length_le (by rw [HTL.out]; exact Nat.le_refl _)] at hP
      have hWr2 : Below W.heap.size W U := by rw [← HH.out.1]; exact hWr
      have bR2 := bR.below hWr2
      obtain ⟨_, r0, r1, r2, r3, f0, f1, f2, f3⟩ := bR2
      obtain ⟨_, x0, x1, x2, x3, _, _, _, _⟩ := hbx
      have hO1 := O1.out.below hWr2
      have hne : ¬ R = X ∧ ¬ X = R := by omega
      obtain ⟨hne1, hne2⟩ := hne
      have HP2 := Lib.hid (⟨hP, hO1, hB.next hWr2⟩ : _ ∧ _ ∧ _)
      clear hP hO1 hWr hWr2 HPB
      go_wp2
      have hch : Chg R (R+1) U ((((U.setCell ⟨R, 0, none⟩ (.int .i64 s)).setCell ⟨R, 1, none⟩ (.slice a1 n c1)).setCell ⟨R, 2, none⟩ (.int .i64 S)).setCell ⟨R, 3, none⟩ (.slice (some ⟨g, 0, none⟩) k cc)) := by
        repeat (refine Chg.setCell ?_ (by constructor <;> simp <;> omega) _)
        exact Chg.refl _ _ _
      have hHW := HH.out.1
      obtain ⟨hP, hO1, hB2⟩ := HP2.out
      have hPl := hP.lt
      have hP2 := hP.chg hch (.inr (by omega)) (fun j hj q hq => Or.inr (Nat.le_trans (show R + 1 ≤ H by omega) ((hP.rows.own j (by rw [hP.len]; exact hj)).blk q hq).1))
      refine bodyPost_ret (v := .agg #[.int .i64 s, .slice a1 n c1, .int .i64 S, .slice (some ⟨g, 0, none⟩) k cc]) (by simp [results, Try.results72, go_sem, r0, r1, r2, r3, x0, x1, x2, x3, hne1, hne2]) rfl ⟨a1, c1, some ⟨g, 0, none⟩, cc, H, by rw [HN.out, HTL.out], by omega, by simp [World.setCell]; omega, ?_, ?_, ?_⟩
      · rw [HN.out]
        exact (hO1.chg hch (.inr (by omega))).mono hs0 (by omega)
      · exact (hP2.owr' (by omega)).mono (Nat.le_refl _) (Nat.le_refl _)
      · repeat (refine Below.setCell ?_ (by simp <;> omega) _)
        exact hB2

end Go.Proofs.Ytpepmgobcdlnoaa
