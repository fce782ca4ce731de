/- The rows of the edge matrix, by the model. -/
import Derived.Test.YtolipjemabmlkaaMat
import Derived.Test.YtolipjemabmlkaaWk
import Derived.Test.YtolipjemabmlkaaCoreB
import Derived.Test.YtolipjemabmlkaaNext
import Derived.Test.YtolipjemabmlkaaPartRows
import Derived.Deep.RegionHeld3
set_option linter.unusedSimpArgs false
set_option linter.unusedVariables false
namespace Go.Proofs.Ytolipjemabmlkaa
open Go.RowKit

theorem edgeM_I64 (ds : List (Int × Int)) (i j : Nat) : I64 (edgeM ds i j) := by unfold edgeM; split <;> (unfold I64; omega)
/-- a row of it, up to f -/
def rowTo (g : Nat → Int) (N f : Nat) : List Value := (List.range N).map (fun q => Value.int .i64 (if q < f then g q else 0))
theorem rowTo_zero (g : Nat → Int) (N : Nat) : (madeCells #[Value.int .i64 0] N).toList = rowTo g N 0 := by
  rw [toList_madeCells_one]
  apply List.ext_getElem
  · simp [rowTo]
  · intro j h1 h2
    simp [rowTo]
theorem rowTo_all (g : Nat → Int) (N : Nat) : rowTo g N N = ((List.range N).map g).map (Value.int .i64) := by
  unfold rowTo
  rw [List.map_map]
  refine List.map_congr_left fun j hj => ?_
  rw [if_pos (by simpa using hj)]
  rfl
theorem rowTo_put (g : Nat → Int) {N f : Nat} (hf : f < N) (x : Int) (h : g f = x) : (rowTo g N f).set f (.int .i64 x) = rowTo g N (f+1) := by
  apply List.ext_getElem
  · simp [rowTo]
  · intro j h1 h2
    rw [List.getElem_set]
    by_cases e : f = j
    · subst e; simp [rowTo, h]
    · rw [if_neg e]
      have : (j < f) ↔ (j < f + 1) := by omega
      simp [rowTo, this]
theorem rowTo_skip (g : Nat → Int) {N f : Nat} (h : g f = 0) : rowTo g N f = rowTo g N (f+1) := by
  unfold rowTo
  refine List.map_congr_left fun j hj => ?_
  by_cases e : j = f
  · subst e; simp [h]
  · have : (j < f) ↔ (j < f + 1) := by omega
    simp [this]
theorem rowTo_get (g : Nat → Int) {N f j : Nat} (hj : j < N) : (rowTo g N f)[j]? = some (.int .i64 (if j < f then g j else 0)) := by
  simp [rowTo, hj]

set_option maxRecDepth 100000 in
set_option maxHeartbeats 6400000 in
theorem l02Matrix {lo hi : Nat} (s : Int) (a : Option Addr) (n c : Nat) (xss : List (List Int)) (w : World) (h : RdR lo hi w (.slice a n c) xss) (hn : xss.length = n) (hg : grB s xss = true) :
    Calls Try.prog 125 #[.agg #[.int .i64 s, .slice a n c]] w fun e w' => ∃ a' c', e = .returned (.slice a' (2 * n) c') ∧ OwR w.heap.size w'.heap.size w' (.slice a' (2 * n) c') (tab (2 * n) (edgeM (dirE (pairs xss)))) ∧ Below w.heap.size w w' := by
  obtain ⟨i0, hi', z0, z1, z2⟩ := info_parts Try.info2
  obtain ⟨j0, hj', y0, y1, y2⟩ := info_parts Try.info26
  have hn10 : n ≤ 10 := by have := grB_iff hg; omega
  have HR := Lib.hid h
  have HEN := Lib.hid (fun W' (h' : RdR lo hi W' (.slice a n c) xss) k h0 h1 => l01Ends s a n c xss W' h' hn hg k h0 h1)
  obtain ⟨ds, hds⟩ : ∃ ds, ds = dirE (pairs xss) := ⟨_, rfl⟩
  obtain ⟨N, hN⟩ : ∃ N, N = 2 * n := ⟨_, rfl⟩
  have HDL := Lib.hid (show ds.length = N by rw [hds, dirE_len, pairs_len, hn, hN])
  rw [← hds] at HEN ⊢
  have hN20 : N ≤ 20 := by omega
  have hm2 : IntKind.i64.wrap (2 * (n : Int)) = (N : Int) := by rw [hN]; rw [IntWalk.i64_in _ (by omega)]; omega
  have hm2' : wrap64 (2 * (n : Int)) = (N : Int) := by rw [hN]; rw [IntWalk.wrap64_in _ (by omega)]; omega
  have HM3 := Lib.hid (show 2 * (n : Int) = (N : Int) by omega)
  have HTL := Lib.hid (show (tab N (edgeM ds)).length = N from tab_len _ _)
  rw [← hN]
  clear h hn hg hds hN
  go_enter Try.func125, Try.ntmps125
  go_wp2
  have hB := (Below.refl w.heap.size w).alloc (Nat.le_refl _) (.cells #[.int .i64 s, .slice a n c] 29)
  have k0 : (w.alloc (.cells #[.int .i64 s, .slice a n c] 29)).cell? ⟨w.heap.size, 0, none⟩ = some (.int .i64 s) := by go_simp
  have k1 : (w.alloc (.cells #[.int .i64 s, .slice a n c] 29)).cell? ⟨w.heap.size, 1, none⟩ = some (.slice a n c) := by go_simp
  have hz : w.heap.size < (w.alloc (.cells #[.int .i64 s, .slice a n c] 29)).heap.size := by simp
  generalize w.alloc (.cells #[.int .i64 s, .slice a n c] 29) = W at hB k0 k1 hz ⊢
  obtain ⟨B, hB0⟩ : ∃ B, B = w.heap.size := ⟨_, rfl⟩
  rw [← hB0] at k0 k1 hz ⊢
  have HB0 := Lib.hid hB0
  have hal : Below W.heap.size W (W.drew.alloc (.cells #[] 26)) := (Below.refl _ _).drew.alloc (Nat.le_refl _) _
  have k1b := hal.keep k1
  have k1c : (W.alloc (.cells #[] 26)).drew.cell? ⟨B, 1, none⟩ = some (.slice a n c) := k1b
  clear hB0
  go_region_held3 (fun W' => W'.cell? ⟨B, 1, none⟩ = some (.slice a n c))
    (first | (exact k1) | (exact k1b) | (exact k1c) | go_keep)
    (first | fail)
  have HB := Lib.hid (⟨hB.next ((Below.refl W.heap.size W).alloc (Nat.le_refl _) (.cells #[] 26)), ((Below.refl W.heap.size W).alloc (Nat.le_refl _) (.cells #[] 26)).keep k0⟩ : Below w.heap.size w (W.alloc (.cells #[] 26)) ∧ (W.alloc (.cells #[] 26)).cell? ⟨B, 0, none⟩ = some (.int .i64 s))
  have hl0 := World.ownsRow_lit (base := W.heap.size) (e := 26) (size := 1) W #[] 0 (Nat.le_refl _) (by unfold maxLen; omega) rfl
  have hP0 : OwP W.heap.size B (W.alloc (.cells #[] 26)).drew W.heap.size 0 0 [] [] := OwP.empty hl0 (by omega)
  have HP0 := Lib.hid (⟨hP0, HB.out.1.drew, by show B < (W.alloc (.cells #[] 26)).heap.size; simp; omega, HB.out.2, k1c⟩ : _ ∧ Below w.heap.size w (W.alloc (.cells #[] 26)).drew ∧ B < (W.alloc (.cells #[] 26)).drew.heap.size ∧ (W.alloc (.cells #[] 26)).drew.cell? ⟨B, 0, none⟩ = some (.int .i64 s) ∧ (W.alloc (.cells #[] 26)).drew.cell? ⟨B, 1, none⟩ = some (.slice a n c))
  obtain ⟨L, hL⟩ : ∃ L, L = W.heap.size := ⟨_, rfl⟩
  have hBL : B < L := by omega
  have hLw : w.heap.size ≤ L := by rw [hL]; exact hB.size
  rw [← hL] at HP0 ⊢
  generalize (W.alloc (.cells #[] 26)).drew = V at HP0 ⊢
  clear HB hl0 hP0 k0 k1 k1b k1c hal hB hz hL hm2 hm2'
  go_wp2
  go_loopw [5, 3] (fun i v wr => ∃ (k : Nat) (rvs : List Value) (g cc : Nat), k ≤ N ∧ i = .int .i64 k ∧ v = .slice (some ⟨g, 0, none⟩) k cc ∧ OwP L B wr g k cc rvs ((tab N (edgeM ds)).take k) ∧ Below w.heap.size w wr ∧ B < wr.heap.size ∧ wr.cell? ⟨B, 0, none⟩ = some (.int .i64 s) ∧ wr.cell? ⟨B, 1, none⟩ = some (.slice a n c)) (fun i _ _ => N - (intOf i).toNat)
  case atStart => exact ⟨0, [], L, 0, Nat.zero_le _, rfl, rfl, HP0.out⟩
  case round =>
    clear HP0
    obtain ⟨k, rvs, g, cc, hk, rfl, rfl, hP, hB, hzr, k0, k1⟩ := hrel
    obtain ⟨U, rfl⟩ : ∃ U, U = wr := ⟨_, rfl⟩
    by_cases hlt : k < N
    · have hst := tab_take (edgeM ds) hlt
      have HST := Lib.hid hst
      have HPB := Lib.hid (⟨hP, hB, hzr⟩ : _ ∧ _ ∧ _)
      have HKU := Lib.hid (⟨k0, k1⟩ : _ ∧ _)
      have hmk0 : (0 : Int) ≤ (k : Int) := by omega
      have hmk1 : (k : Int) < 2 * (n : Int) := by rw [HM3.out]; omega
      have HE1 := Lib.hid (fun W' h' => HEN.out W' h' (k : Int) hmk0 hmk1)
      clear hst hP hB hzr hmk0 hmk1
      go_wp2_with (at_make; refine wpList_make_full _ rfl _ _ 26 rfl U.heap.size 2 i0 (.int .i64 0) 1 Try.underlying26 hi' z0 z1 _ _ _ _ N rfl rfl rfl rfl ?c1 ?c2 ?c3 ?_)
      case c1 => rw [z2]; omega
      case c2 => unfold maxLen; omega
      case c3 => exact Nat.le_refl _
      intro w1 hown hgr
      rw [rowTo_zero (edgeM ds k) N] at hown
      have hb1 : Below U.heap.size U w1 := (Below.refl _ _).grown hgr (Nat.le_refl _) (fun j hj => by cases hj)
      replace k0 := hb1.keep k0
      replace k1 := hb1.keep k1
      clear hgr
      go_wp2_with fail
      refine (HE1.out w1 (HR.out.below (HPB.out.2.1.next hb1))).mono ?_
      clear HE1
      rintro e w2 ⟨rfl, b2⟩
      replace hown := ownsRow_chg hown (b2.chg 0 0) (fun _ _ => .inr (Nat.zero_le _))
      replace hb1 := hb1.next b2
      replace k0 := b2.keep k0
      replace k1 := b2.keep k1
      obtain ⟨p1, hp1⟩ : ∃ p, p = (ds.getD (k : Int).toNat (0, 0)).2 := ⟨_, rfl⟩
      obtain ⟨p0, hp0⟩ : ∃ p, p = (ds.getD (k : Int).toNat (0, 0)).1 := ⟨_, rfl⟩
      rw [← hp1, ← hp0]
      have HP1 := Lib.hid hp1
      have HW2 := Lib.hid (⟨hown, hb1, k0, k1⟩ : _ ∧ _ ∧ _ ∧ _)
      clear hown hb1 k0 k1 b2 hp1 hp0
      obtain ⟨R, hR⟩ : ∃ R, R = U.heap.size := ⟨_, rfl⟩
      have HRR := Lib.hid hR
      rw [← hR] at HW2 ⊢
      clear hR
      have hrv : bits BinOp.xor .i64 (k : Int) 1 = rv (k : Int) := rfl
      go_wp2
      go_loopw [9] (fun i wr' => ∃ f : Nat, f ≤ N ∧ i = .int .i64 f ∧ wr'.ownsRow R 2 1 (.slice (some ⟨R, 0, none⟩) N N) N (rowTo (edgeM ds k) N f) ∧ Below R U wr' ∧ wr'.cell? ⟨B, 0, none⟩ = some (.int .i64 s) ∧ wr'.cell? ⟨B, 1, none⟩ = some (.slice a n c)) (fun i _ => N - (intOf i).toNat)
      case atStart => exact ⟨0, Nat.zero_le _, rfl, HW2.out⟩
      case round =>
        rename_i hrel
        clear HW2
        obtain ⟨f, hf, rfl, hown, hb, k0, k1⟩ := hrel
        by_cases hlf : f < N
        · have hmf0 : (0 : Int) ≤ (f : Int) := by omega
          have hmf1 : (f : Int) < 2 * (n : Int) := by rw [HM3.out]; omega
          have HBU := HPB.out.2.1
          have hsq := stepQ_at (ds := ds) (x := (k : Int)) (y := (f : Int)) ⟨by omega, by rw [HDL.out]; omega⟩ ⟨by omega, by rw [HDL.out]; omega⟩
          rw [← HP1.out] at hsq
          obtain ⟨q0, hq0⟩ : ∃ p, p = (ds.getD (f : Int).toNat (0, 0)).1 := ⟨_, rfl⟩
          obtain ⟨q1, hq1⟩ : ∃ p, p = (ds.getD (f : Int).toNat (0, 0)).2 := ⟨_, rfl⟩
          rw [← hq0] at hsq
          have HSQ := Lib.hid hsq
          have hbw : Below w.heap.size w wr := HBU.trans (hb.mono (by rw [HRR.out]; exact HBU.size))
          have HF0 := Lib.hid (⟨hown, hb, hbw⟩ : _ ∧ _ ∧ _)
          clear hsq HBU hown hb hbw
          go_wp2_with fail
          refine (HEN.out wr (HR.out.below HF0.out.2.2) (f : Int) hmf0 hmf1).mono ?_
          rw [← hq0, ← hq1]
          rintro e w5 ⟨rfl, b5⟩
          obtain ⟨hown, hb, hbw⟩ := HF0.out
          replace hown := ownsRow_chg hown (b5.chg 0 0) (fun _ _ => .inr (Nat.zero_le _))
          have hRw := hb.size
          replace hb := hb.trans (b5.mono (by rw [HRR.out]; rw [HRR.out] at hb; exact hb.size))
          replace k0 := b5.keep k0
          replace k1 := b5.keep k1
          clear HF0 b5 hq0 hq1 hbw hRw hmf0 hmf1
          by_cases e1 : q0 = p1
          · have e1b : (q0 == p1) = true := by simpa using e1
            have e1c : (p1 == q0) = true := by simpa using e1.symm
            have hsq := HSQ.out
            rw [e1c, Bool.true_and] at hsq
            by_cases e2 : (f : Int) = rv (k : Int)
            · have e2b : ((f : Int) != rv (k : Int)) = false := by simpa using e2
              rw [e2b] at hsq
              have hsk := rowTo_skip (edgeM ds k) (N := N) (f := f) (by unfold edgeM; simp [hsq])
              rw [hsk] at hown
              have HF := Lib.hid (⟨hown, hb, k0, k1⟩ : _ ∧ _ ∧ _ ∧ _)
              clear hsq hsk hown hb k0 k1 e1 e2 e1c
              go_wp2
              go_roundw
              case rel => exact ⟨f+1, by omega, by go_num, HF.out⟩
              case measure => simp [intOf]; omega
            · have e2b : ((f : Int) != rv (k : Int)) = true := by simpa using e2
              rw [e2b] at hsq
              have hput := rowTo_put (edgeM ds k) hlf 1 (by unfold edgeM; simp [hsq])
              have h3 := (hown.cellAt f (by omega)).trans (rowTo_get (edgeM ds k) hlf)
              have h4 := hown.frozenAt f
              have hsto := (hown.stored f (.int .i64 1)).1
              rw [hput] at hsto
              have hch : Chg R (R + 1) w5 (w5.setCell ⟨R, f, none⟩ (.int .i64 1)) := (Chg.refl R (R + 1) w5).setCell (p := ⟨R, f, none⟩) ⟨Nat.le_refl _, Nat.lt_succ_self _⟩ _
              have hBR : B < R := by rw [HRR.out]; exact HPB.out.2.2
              have HF := Lib.hid (⟨hsto, hb.setCell (p := ⟨R, f, none⟩) (Nat.le_refl _) _, hch.cell k0 (.inl hBR), hch.cell k1 (.inl hBR)⟩ : _ ∧ Below R U (w5.setCell ⟨R, f, none⟩ (.int .i64 1)) ∧ _ ∧ _)
              clear hsq hput hsto hown hb k0 k1 e1 e2 e1c hch hBR
              go_wp2
              go_roundw
              case rel => exact ⟨f+1, by omega, by go_num, HF.out⟩
              case measure => simp [intOf]; omega
          · have e1b : (q0 == p1) = false := by simpa using e1
            have hsq := HSQ.out
            rw [show (p1 == q0) = false by simpa using fun e => e1 e.symm, Bool.false_and] at hsq
            have hsk := rowTo_skip (edgeM ds k) (N := N) (f := f) (by unfold edgeM; simp [hsq])
            rw [hsk] at hown
            have HF := Lib.hid (⟨hown, hb, k0, k1⟩ : _ ∧ _ ∧ _ ∧ _)
            clear hsq hsk hown hb k0 k1 e1
            go_wp2
            go_roundw
            case rel => exact ⟨f+1, by omega, by go_num, HF.out⟩
            case measure => simp [intOf]; omega
        · obtain rfl : f = N := by omega
          rw [rowTo_all] at hown
          have hO : OwI R wr.heap.size wr (.slice (some ⟨R, 0, none⟩) f f) ((List.range f).map (edgeM ds k)) := OwI.mk hown (by omega) (fun x hx => by
            simp only [List.mem_map] at hx
            obtain ⟨j, _, rfl⟩ := hx
            exact edgeM_I64 ds k j)
          obtain ⟨hP, hB, hzr⟩ := HPB.out
          rw [HRR.out] at hO hb
          have hownV := (hP.below hb).out.alloc (.cells #[.slice (some ⟨R, 0, none⟩) f f] 26)
          have hnews := news_one wr 26 (.slice (some ⟨R, 0, none⟩) f f)
          have hszw := hb.size
          have hlt2 := hP.lt
          rw [← HRR.out] at hO
          have HP := Lib.hid (⟨hO, hP, hB, hb, k0, k1⟩ : _ ∧ _ ∧ _ ∧ _ ∧ _ ∧ _)
          clear hO hP hB hown hb
          go_wp2_with (at_builtin; refine wpList_append_lies _ rfl _ _ 22 rfl L 26 j0 (.slice none 0 0) 1 24 Try.underlying22 hj' y0 y1 y2 rfl (by decide) _ _ _ rfl hownV ⟨wr.heap.size, 0, none⟩ 1 1 [.slice (some ⟨R, 0, none⟩) f f] rfl rfl ?c1 ?c2 (by decide) ?c3 ?c4 ?c5 _ rfl ?_)
          case c1 => exact hnews
          case c2 => first | (intro u hu; simp at hu; subst hu; rfl) | rfl | simp
          case c3 => unfold maxLen; omega
          case c4 => omega
          case c5 => simp; omega
          intro g2 c3 w3 hown3 hgr hlie hlt3
          obtain ⟨hO, hP, hB, hb, k0, k1⟩ := HP.out
          rw [HRR.out] at hO hown3
          have hV3 := hP.snocF (hi := wr.heap.size) hzr hb hO hown3 hgr (hlie.imp id (fun e => by rw [e]; simp))
          have hb3 : Chg g (g + 1) U w3 := snocC hb hgr
          have hlt2 : L ≤ g ∧ g < U.heap.size := hlt2
          have hBg : B < g := by omega
          rw [← HST.out] at hV3
          have hB3 := hB.chgn hb3 (Nat.le_trans hLw (by omega)) hB.size
          have HF := Lib.hid (⟨hV3, hB3, Nat.lt_of_lt_of_le hzr hb3.size, hb3.cell HKU.out.1 (.inl hBg), hb3.cell HKU.out.2 (.inl hBg)⟩ : _ ∧ _ ∧ _ ∧ _ ∧ _)
          clear hO hP hB hb k0 k1 hV3 hb3 hB3 hown3 hgr hlie hnews hownV
          go_wp2
          go_roundw
          case rel => exact ⟨k+1, _, g2, c3, by omega, by go_num, rfl, HF.out⟩
          case measure => simp [intOf]; omega
    · obtain rfl : k = N := by omega
      rw [List.take_of_length_le (by rw [HTL.out]; exact Nat.le_refl _)] at hP
      have hbig : k ≤ 8796093022208 := Nat.le_trans hN20 (by decide)
      have hO := OwR.mono (hP.owr hbig) hLw (Nat.le_refl _)
      have HF := Lib.hid (⟨hO, hB⟩ : _ ∧ _)
      clear hO hbig
      clear hP hB k0 k1
      go_wp2
      go_ret
      exact ⟨_, _, rfl, HF.out⟩

end Go.Proofs.Ytolipjemabmlkaa
