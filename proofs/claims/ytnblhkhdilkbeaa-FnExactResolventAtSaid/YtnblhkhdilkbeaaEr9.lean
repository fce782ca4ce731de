/- EdgeRows, both sides. -/
import Derived.Test.YtnblhkhdilkbeaaCoreC
import Derived.Test.YtnblhkhdilkbeaaEdgeMat
import Derived.Test.YtnblhkhdilkbeaaCoreF
set_option linter.unusedSimpArgs false
set_option linter.unusedVariables false
namespace Go.Proofs.Ytnblhkhdilkbeaa
open Go.RowKit

set_option maxRecDepth 100000 in
set_option maxHeartbeats 6400000 in
theorem l09Rows {lo hi : Nat} (s : Int) (a : Option Addr) (n c : Nat) (xss : List (List Int)) (w : World) (h : RdR lo hi w (.slice a n c) xss) (hn : xss.length = n) (hg : grB s xss = true) :
    Calls Try.prog 101 #[.agg #[.int .i64 s, .slice a n c]] w fun e w' => ∃ a' c', e = .returned (.slice a' (2 * n) c') ∧ OwR w.heap.size w'.heap.size w' (.slice a' (2 * n) c') (tab (2 * n) (edgeM (dirE (pairs xss)))) ∧ Below w.heap.size w w' := by
  obtain ⟨i0, hi', z0, z1, z2⟩ := info_parts Try.info2
  obtain ⟨j0, hj', y0, y1, y2⟩ := info_parts Try.info25
  have hn10 : n ≤ 10 := by have := grB_iff hg; omega
  have HR := Lib.hid h
  have HNX := Lib.hid (fun W' (h' : RdR lo hi W' (.slice a n c) xss) x y i0 i1 j0 j1 => l03Next s a n c xss W' h' hn hg x y i0 i1 j0 j1)
  obtain ⟨ds, hds⟩ : ∃ ds, ds = dirE (pairs xss) := ⟨_, rfl⟩
  obtain ⟨N, hN⟩ : ∃ N, N = 2 * n := ⟨_, rfl⟩
  have HDL := Lib.hid (show ds.length = N by rw [hds, dirE_len, pairs_len, hn, hN])
  rw [← hds] at HNX ⊢
  have hN20 : N ≤ 20 := by omega
  have hm2 : IntKind.i64.wrap (2 * (n : Int)) = (N : Int) := by rw [hN]; rw [IntWalk.i64_in _ (by omega)]; omega
  have hm2' : wrap64 (2 * (n : Int)) = (N : Int) := by rw [hN]; rw [IntWalk.wrap64_in _ (by omega)]; omega
  have HM3 := Lib.hid (show 2 * (n : Int) = (N : Int) by omega)
  have HTL := Lib.hid (show (tab N (edgeM ds)).length = N from tab_len _ _)
  rw [← hN]
  clear h hn hg hds hN
  go_enter Try.func101, Try.ntmps101
  go_wp2
  have hB := (Below.refl w.heap.size w).alloc (Nat.le_refl _) (.cells #[.int .i64 s, .slice a n c] 30)
  have k0 : (w.alloc (.cells #[.int .i64 s, .slice a n c] 30)).cell? ⟨w.heap.size, 0, none⟩ = some (.int .i64 s) := by go_simp
  have k1 : (w.alloc (.cells #[.int .i64 s, .slice a n c] 30)).cell? ⟨w.heap.size, 1, none⟩ = some (.slice a n c) := by go_simp
  have hz : w.heap.size < (w.alloc (.cells #[.int .i64 s, .slice a n c] 30)).heap.size := by simp
  generalize w.alloc (.cells #[.int .i64 s, .slice a n c] 30) = W at hB k0 k1 hz ⊢
  obtain ⟨B, hB0⟩ : ∃ B, B = w.heap.size := ⟨_, rfl⟩
  rw [← hB0] at k0 k1 hz ⊢
  have HB0 := Lib.hid hB0
  have hal : Below W.heap.size W (W.drew.alloc (.cells #[] 25)) := (Below.refl _ _).drew.alloc (Nat.le_refl _) _
  have k1b := hal.keep k1
  have k1c : (W.alloc (.cells #[] 25)).drew.cell? ⟨B, 1, none⟩ = some (.slice a n c) := k1b
  clear hB0
  go_region_held3 (fun W' => W'.cell? ⟨B, 1, none⟩ = some (.slice a n c))
    (first | (exact k1) | (exact k1b) | (exact k1c) | go_keep)
    (first | fail)
  have HB := Lib.hid (⟨hB.next ((Below.refl W.heap.size W).alloc (Nat.le_refl _) (.cells #[] 25)), ((Below.refl W.heap.size W).alloc (Nat.le_refl _) (.cells #[] 25)).keep k0⟩ : Below w.heap.size w (W.alloc (.cells #[] 25)) ∧ (W.alloc (.cells #[] 25)).cell? ⟨B, 0, none⟩ = some (.int .i64 s))
  have hl0 := World.ownsRow_lit (base := W.heap.size) (e := 25) (size := 1) W #[] 0 (Nat.le_refl _) (by unfold maxLen; omega) rfl
  have hP0 : OwP W.heap.size B (W.alloc (.cells #[] 25)).drew W.heap.size 0 0 [] [] := OwP.empty hl0 (by omega)
  have HP0 := Lib.hid (⟨hP0, HB.out.1.drew, by show B < (W.alloc (.cells #[] 25)).heap.size; simp; omega, HB.out.2, k1c⟩ : _ ∧ Below w.heap.size w (W.alloc (.cells #[] 25)).drew ∧ B < (W.alloc (.cells #[] 25)).drew.heap.size ∧ (W.alloc (.cells #[] 25)).drew.cell? ⟨B, 0, none⟩ = some (.int .i64 s) ∧ (W.alloc (.cells #[] 25)).drew.cell? ⟨B, 1, none⟩ = some (.slice a n c))
  obtain ⟨L, hL⟩ : ∃ L, L = W.heap.size := ⟨_, rfl⟩
  have hBL : B < L := by omega
  have hLw : w.heap.size ≤ L := by rw [hL]; exact hB.size
  rw [← hL] at HP0 ⊢
  generalize (W.alloc (.cells #[] 25)).drew = V at HP0 ⊢
  clear HB hl0 hP0 k0 k1 k1b k1c hal hB hz hL hm2 hm2'
  go_wp2
  go_loopw [5, 3] (fun i v wr => ∃ (k : Nat) (rvs : List Value) (g cc : Nat), k ≤ N ∧ i = .int .i64 k ∧ v = .slice (some ⟨g, 0, none⟩) k cc ∧ OwP L B wr g k cc rvs ((tab N (edgeM ds)).take k) ∧ Below w.heap.size w wr ∧ B < wr.heap.size ∧ wr.cell? ⟨B, 0, none⟩ = some (.int .i64 s) ∧ wr.cell? ⟨B, 1, none⟩ = some (.slice a n c)) (fun i _ _ => N - (intOf i).toNat)
  case atStart => exact ⟨0, [], L, 0, Nat.zero_le _, rfl, rfl, HP0.out⟩
  case round =>
    clear HP0
    obtain ⟨k, rvs, g, cc, hk, rfl, rfl, hP, hB, hzr, k0, k1⟩ := hrel
    obtain ⟨U, rfl⟩ : ∃ U, U = wr := ⟨_, rfl⟩
    by_cases hlt : k < N
    · have hst := tab_take (edgeM ds) hlt
      have HST := Lib.hid hst
      have HPB := Lib.hid (⟨hP, hB, hzr⟩ : _ ∧ _ ∧ _)
      have HKU := Lib.hid (⟨k0, k1⟩ : _ ∧ _)
      clear hst hP hB hzr
      go_wp2_with (at_make; refine wpList_make_full _ rfl _ _ 25 rfl U.heap.size 2 i0 (.int .i64 0) 1 Try.underlying25 hi' z0 z1 _ _ _ _ N rfl rfl rfl rfl ?c1 ?c2 ?c3 ?_)
      case c1 => rw [z2]; omega
      case c2 => unfold maxLen; omega
      case c3 => exact Nat.le_refl _
      intro w1 hown hgr
      rw [rowTo_zero (edgeM ds k) N] at hown
      have hb1 : Below U.heap.size U w1 := (Below.refl _ _).grown hgr (Nat.le_refl _) (fun j hj => by cases hj)
      replace k0 := hb1.keep k0
      replace k1 := hb1.keep k1
      clear hgr
      have HW2 := Lib.hid (⟨hown, hb1, k0, k1⟩ : _ ∧ _ ∧ _ ∧ _)
      clear hown hb1 k0 k1
      obtain ⟨R, hR⟩ : ∃ R, R = U.heap.size := ⟨_, rfl⟩
      have HRR := Lib.hid hR
      rw [← hR] at HW2 ⊢
      clear hR
      go_wp2
      go_loopw [7] (fun i wr' => ∃ f : Nat, f ≤ N ∧ i = .int .i64 f ∧ wr'.ownsRow R 2 1 (.slice (some ⟨R, 0, none⟩) N N) N (rowTo (edgeM ds k) N f) ∧ Below R U wr' ∧ wr'.cell? ⟨B, 0, none⟩ = some (.int .i64 s) ∧ wr'.cell? ⟨B, 1, none⟩ = some (.slice a n c)) (fun i _ => N - (intOf i).toNat)
      case atStart => exact ⟨0, Nat.zero_le _, rfl, HW2.out⟩
      case round =>
        rename_i hrel
        clear HW2
        obtain ⟨f, hf, rfl, hown, hb, k0, k1⟩ := hrel
        by_cases hlf : f < N
        · have HBU := HPB.out.2.1
          have hbw : Below w.heap.size w wr := HBU.trans (hb.mono (by rw [HRR.out]; exact HBU.size))
          obtain ⟨b0, hb0⟩ : ∃ b0 : Bool, b0 = stepQ ds (k : Int) (f : Int) := ⟨_, rfl⟩
          have hnx := HNX.out wr (HR.out.below hbw) (k : Int) (f : Int) (by omega) (by rw [HM3.out]; omega) (by omega) (by rw [HM3.out]; omega)
          rw [← hb0] at hnx
          have HME := Lib.hid (show edgeM ds k f = if b0 = true then 1 else 0 by rw [hb0]; rfl)
          have HF0 := Lib.hid (⟨hown, hb, k0, k1⟩ : _ ∧ _ ∧ _ ∧ _)
          have HX := Lib.hid hnx
          have hlfI : (f : Int) < (N : Int) := by omega
          clear HBU hown hb hbw hb0 hnx
          go_wp2_with fail
          refine HX.out.mono ?_
          clear HX
          rintro e w5 ⟨rfl, b5⟩
          obtain ⟨hown, hb, k0', k1'⟩ := HF0.out
          clear k0 k1
          replace hown := ownsRow_chg hown (b5.chg 0 0) (fun _ _ => .inr (Nat.zero_le _))
          replace hb := hb.trans (b5.mono (by rw [HRR.out]; rw [HRR.out] at hb; exact hb.size))
          have k0 := b5.keep k0'
          have k1 := b5.keep k1'
          clear HF0 b5 k0' k1'
          cases b0 with
          | false =>
            have hm0 := HME.out
            rw [if_neg (by simp)] at hm0
            rw [rowTo_skip (edgeM ds k) (N := N) (f := f) hm0] at hown
            have HF := Lib.hid (⟨hown, hb, k0, k1⟩ : _ ∧ _ ∧ _ ∧ _)
            clear hown hb k0 k1 hm0 HME
            go_wp2
            go_roundw
            case rel => exact ⟨f+1, by omega, by go_num, HF.out⟩
            case measure => simp [intOf]; omega
          | true =>
            have hm1 := HME.out
            rw [if_pos rfl] at hm1
            have hput := rowTo_put (edgeM ds k) hlf 1 hm1
            have h3 := (hown.cellAt f (by omega)).trans (rowTo_get (edgeM ds k) hlf)
            have h4 := hown.frozenAt f
            have hsto := (hown.stored f (.int .i64 1)).1
            rw [hput] at hsto
            have hch : Chg R (R + 1) w5 (w5.setCell ⟨R, f, none⟩ (.int .i64 1)) := (Chg.refl R (R + 1) w5).setCell (p := ⟨R, f, none⟩) ⟨Nat.le_refl _, Nat.lt_succ_self _⟩ _
            have hBR : B < R := by rw [HRR.out]; exact HPB.out.2.2
            have HF := Lib.hid (⟨hsto, hb.setCell (p := ⟨R, f, none⟩) (Nat.le_refl _) _, hch.cell k0 (.inl hBR), hch.cell k1 (.inl hBR)⟩ : _ ∧ Below R U (w5.setCell ⟨R, f, none⟩ (.int .i64 1)) ∧ _ ∧ _)
            clear hput hsto hown hb k0 k1 hm1 HME hch hBR
            go_wp2
            go_roundw
            case rel => exact ⟨f+1, by omega, by go_num, HF.out⟩
            case measure => simp [intOf]; omega
        · obtain rfl : f = N := by omega
          rw [rowTo_all] at hown
          have hO : OwI R wr.heap.size wr (.slice (some ⟨R, 0, none⟩) f f) ((List.range f).map (edgeM ds k)) := OwI.mk hown (by omega) (fun x hx => by
            simp only [List.mem_map] at hx
            obtain ⟨j, _, rfl⟩ := hx
            exact edgeM_I64 ds k j)
          obtain ⟨hP, hB, hzr⟩ := HPB.out
          rw [HRR.out] at hO hb
          have hownV := (hP.below hb).out.alloc (.cells #[.slice (some ⟨R, 0, none⟩) f f] 25)
          have hnews := news_one wr 25 (.slice (some ⟨R, 0, none⟩) f f)
          have hszw := hb.size
          have hlt2 := hP.lt
          rw [← HRR.out] at hO
          have HP := Lib.hid (⟨hO, hP, hB, hb, k0, k1⟩ : _ ∧ _ ∧ _ ∧ _ ∧ _ ∧ _)
          clear hO hP hB hown hb
          go_wp2_with (at_builtin; refine wpList_append_lies _ rfl _ _ 22 rfl L 25 j0 (.slice none 0 0) 1 24 Try.underlying22 hj' y0 y1 y2 rfl (by decide) _ _ _ rfl hownV ⟨wr.heap.size, 0, none⟩ 1 1 [.slice (some ⟨R, 0, none⟩) f f] rfl rfl ?c1 ?c2 (by decide) ?c3 ?c4 ?c5 _ rfl ?_)
          case c1 => exact hnews
          case c2 => first | (intro u hu; simp at hu; subst hu; rfl) | rfl | simp
          case c3 => unfold maxLen; omega
          case c4 => omega
          case c5 => simp; omega
          intro g2 c3 w3 hown3 hgr hlie hlt3
          obtain ⟨hO, hP, hB, hb, k0, k1⟩ := HP.out
          rw [HRR.out] at hO hown3
          have hV3 := hP.snocF (hi := wr.heap.size) hzr hb hO hown3 hgr (hlie.imp id (fun e => by rw [e]; simp))
          have hb3 : Chg g (g + 1) U w3 := snocC hb hgr
          have hlt2 : L ≤ g ∧ g < U.heap.size := hlt2
          have hBg : B < g := by omega
          rw [← HST.out] at hV3
          have hB3 := hB.chgn hb3 (Nat.le_trans hLw (by omega)) hB.size
          have HF := Lib.hid (⟨hV3, hB3, Nat.lt_of_lt_of_le hzr hb3.size, hb3.cell HKU.out.1 (.inl hBg), hb3.cell HKU.out.2 (.inl hBg)⟩ : _ ∧ _ ∧ _ ∧ _ ∧ _)
          clear hO hP hB hb k0 k1 hV3 hb3 hB3 hown3 hgr hlie hnews hownV
          go_wp2
          go_roundw
          case rel => exact ⟨k+1, _, g2, c3, by omega, by go_num, rfl, HF.out⟩
          case measure => simp [intOf]; omega
    · obtain rfl : k = N := by omega
      rw [List.take_of_length_le (by rw [HTL.out]; exact Nat.le_refl _)] at hP
      have hbig : k ≤ 8796093022208 := Nat.le_trans hN20 (by decide)
      have hO := OwR.mono (hP.owr hbig) hLw (Nat.le_refl _)
      have HF := Lib.hid (⟨hO, hB⟩ : _ ∧ _)
      clear hO hbig
      clear hP hB k0 k1
      go_wp2
      go_ret
      exact ⟨_, _, rfl, HF.out⟩


end Go.Proofs.Ytnblhkhdilkbeaa
