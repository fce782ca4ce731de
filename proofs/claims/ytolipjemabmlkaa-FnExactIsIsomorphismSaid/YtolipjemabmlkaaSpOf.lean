/- Graphs of rows of 0 and 1, by the model. -/
import Derived.Test.YtolipjemabmlkaaSmg
import Derived.Test.YtolipjemabmlkaaCoreB
set_option linter.unusedSimpArgs false
set_option linter.unusedVariables false
set_option maxRecDepth 100000
namespace Go.Proofs.Ytolipjemabmlkaa
open Go.RowKit

/-- what the model's loops keep -/
structure SoI (y x S : Nat) (w : World) (g m cc : Nat) (W : World) : Prop where
  base : SmI y w W
  x0 : W.cell? ⟨x, 0, none⟩ = some (.int .i64 (S : Int))
  x1 : W.cell? ⟨x, 1, none⟩ = some (.slice (some ⟨g, 0, none⟩) m cc)
  xf : W.frozen? ⟨x, 1, none⟩ = false
  xlt : x < W.heap.size
theorem unp_snoc (es : List (Int × Int)) (e : Int × Int) : unp (es ++ [e]) = unp es ++ [[e.1, e.2]] := by simp [unp]

set_option maxHeartbeats 3200000 in
theorem l08Of {lo hi : Nat} (S : Nat) (f : Nat → Nat → Int) (a : Option Addr) (c : Nat) (w : World) (h : RdR lo hi w (.slice a S c) (tab S f)) (hS8 : S ≤ 8) (h01 : ∀ i j, i < S → j < S → f i j = 0 ∨ f i j = 1) :
    Calls Try.prog 88 #[.slice a S c] w fun e w' => ∃ a' c', e = .returned (.tuple #[.agg #[.int .i64 (smgOf f S).1.1, .slice a' (smgOf f S).1.2.length c'], .int .i64 (smgOf f S).2]) ∧ OwR w.heap.size w'.heap.size w' (.slice a' (smgOf f S).1.2.length c') (smgOf f S).1.2 ∧ Below w.heap.size w w' := by
  obtain ⟨i0, hi', z0, z1, z2⟩ := info_parts Try.info26
  have HROW := Lib.hid (fun i (hi : i < S) => rowsAt h hi)
  have HY := Lib.hid (fun he => smgOf_yes (f := f) (S := S) he)
  have HNO := Lib.hid (fun he => smgOf_no (f := f) (S := S) he)
  have HTL := Lib.hid (smT_len f S hS8)
  have HEE := Lib.hid (show simE f S = smT f S S from rfl)
  have H01 := Lib.hid h01
  generalize simE f S = E at HY HNO HEE
  generalize smgOf f S = R at HY HNO ⊢
  have hlit : (w.alloc (.cells #[.int .i64 0, .slice none 0 0] 29)).heap.size = w.heap.size + 1 := by simp
  have hl0 := World.ownsRow_lit (base := w.heap.size + 1) (e := 26) (size := 1) (w.alloc (.cells #[.int .i64 0, .slice none 0 0] 29)) #[] 0 (by rw [hlit]; exact Nat.le_refl _) (by unfold maxLen; omega) rfl
  rw [hlit] at hl0
  have hl1 := hl0.alloc (.cells #[.int .i64 (S : Int), .slice (some ⟨w.heap.size + 1, 0, none⟩) 0 0] 29)
  obtain ⟨V, hV⟩ : ∃ V, V = (((w.alloc (.cells #[.int .i64 0, .slice none 0 0] 29)).alloc (.cells #[] 26)).alloc (.cells #[.int .i64 (S : Int), .slice (some ⟨w.heap.size + 1, 0, none⟩) 0 0] 29)) := ⟨_, rfl⟩
  rw [← hV] at hl1
  obtain ⟨y, hy⟩ : ∃ y, y = w.heap.size := ⟨_, rfl⟩
  have hI : SoI y (y + 2) S w (y + 1) 0 0 V := by
    subst hy
    subst hV
    refine ⟨⟨(((Below.refl _ _).alloc (Nat.le_refl _) _).alloc (by simp) _).alloc (by simp; omega) _, by go_simp, by go_simp, by go_simp, by go_simp, by simp; omega⟩, by go_simp, by go_simp, by go_simp, by simp⟩
  have HV := Lib.hid hV
  rw [← hy] at hl1
  have hP0 : OwP (y + 1) (y + 2) V (y + 1) 0 0 [] [] := OwP.empty hl1 (by omega)
  clear h h01 hlit hl0 hl1 hV
  go_enter Try.func88, Try.ntmps88
  go_wp2
  rw [← HV.out]
  obtain ⟨G, hG⟩ : ∃ G, G = y + 1 := ⟨_, rfl⟩
  obtain ⟨x, hx⟩ : ∃ x, x = y + 2 := ⟨_, rfl⟩
  rw [← hG, ← hx] at hI hP0
  have hxs : w.heap.size + 1 + 1 = x := by omega
  have hGs : w.heap.size + 1 = G := by omega
  rw [hxs]
  rw [← hy] at HROW ⊢
  have HO := Lib.hid (show y < G ∧ G < x by omega)
  have HYY := Lib.hid hy
  have HI0 := Lib.hid (⟨hP0, hI⟩ : _ ∧ _)
  clear hI hP0 hy hG hx hxs hGs HV
  go_loopw [5] (fun v wr => ∃ (k m g cc : Nat) (rvs : List Value) (es : List (Int × Int)), k ≤ S ∧ v = .int .i64 k ∧ Hid (es = smT f S k ∧ m ≤ 8 * k) ∧ OwP G x wr g m cc rvs (unp es) ∧ SoI y x S w g m cc wr) (fun v _ => S - (intOf v).toNat)
  case atStart => exact ⟨0, 0, G, 0, [], [], Nat.zero_le _, rfl, Lib.hid ⟨rfl, Nat.le_refl _⟩, HI0.out⟩
  case round =>
    clear HI0
    obtain ⟨k, m, g, cc, rvs, es, hk, rfl, HX, hP, hI⟩ := hrel
    obtain ⟨U, rfl⟩ : ∃ U, U = wr := ⟨_, rfl⟩
    have x0 := hI.x0
    by_cases hlt : k < S
    · obtain ⟨b, off, b', off', c', rfl, e2, hb1, hb2, e3⟩ := HROW.out k hlt
      have hkS : (k : Int) < (S : Int) := by omega
      have HP := Lib.hid (⟨by rw [smR_low f k (k + 1) (Nat.le_refl _), List.append_nil]; exact HX.out.1, by have := HX.out.2; omega, hP, hI⟩ : es = smT f S k ++ smR f k (k + 1) ∧ m ≤ 8 * k + (k + 1) ∧ _ ∧ _)
      have E3 := Lib.hid (⟨hb1, e2, hb2, e3⟩ : _ ∧ _ ∧ _ ∧ _)
      clear HX hP hI e2 e3 hb1 hb2
      go_wp2
      clear x0
      go_loopw [6] (fun v wr => ∃ (j m g cc : Nat) (rvs : List Value) (es : List (Int × Int)), k + 1 ≤ j ∧ j ≤ S ∧ v = .int .i64 j ∧ Hid (es = smT f S k ++ smR f k j ∧ m ≤ 8 * k + j) ∧ OwP G x wr g m cc rvs (unp es) ∧ SoI y x S w g m cc wr) (fun v _ => S - (intOf v).toNat)
      case atStart => exact ⟨k + 1, m, g, cc, rvs, es, Nat.le_refl _, hlt, rfl, Lib.hid ⟨HP.out.1, HP.out.2.1⟩, HP.out.2.2⟩
      case round =>
        rename_i hrel
        clear HP
        obtain ⟨j, m, g, cc, rvs, es, hkj, hj, rfl, HX, hP, hI⟩ := hrel
        have x0 := hI.x0
        by_cases hlj : j < S
        · obtain ⟨hb1, e2, hb2, e3⟩ := E3.out
          have g2 : wr.cell? ⟨b, off + k, none⟩ = _ := (hI.base.below.cell hb1).trans e2
          have g3 : wr.cell? ⟨b', off' + j, none⟩ = _ := (hI.base.below.cell hb2).trans (e3 j hlj)
          have hjS : (j : Int) < (S : Int) := by omega
          clear hb1 e2 hb2 e3
          rcases H01.out k j hlt hlj with hx | hx
          · rw [hx] at g3
            have HP := Lib.hid (⟨by rw [smR_out hx]; exact HX.out.1, by have := HX.out.2; omega, hP, hI⟩ : es = smT f S k ++ smR f k (j + 1) ∧ m ≤ 8 * k + (j + 1) ∧ _ ∧ _)
            clear HX hP hI hx
            go_wp2
            go_roundw
            case rel => exact ⟨j+1, m, g, cc, rvs, es, by omega, by omega, by go_num, Lib.hid ⟨HP.out.1, HP.out.2.1⟩, HP.out.2.2⟩
            case measure => simp [intOf]; omega
          · rw [hx] at g3
            have hst := smR_in (f := f) (i := k) (m := j) (by omega) (by rw [hx]; decide)
            have HST := Lib.hid (show unp (smT f S k ++ smR f k (j + 1)) = unp es ++ [[(k : Int), (j : Int)]] by rw [hst, HX.out.1, ← List.append_assoc, unp_snoc])
            have hgl := hP.lt
            have hgx := hP.exg
            have hxl := hI.xlt
            have x1 := hI.x1
            have xf := hI.xf
            have hv := OwI.two (lo := wr.heap.size) (w := wr) (x := (k : Int)) (y := (j : Int)) (by unfold I64; omega) (by unfold I64; omega) (Nat.le_refl _)
            have bb : Below wr.heap.size wr (wr.alloc (.cells #[.int .i64 (k : Int), .int .i64 (j : Int)] 2)) := (Below.refl _ _).alloc (Nat.le_refl _) _
            have hs1 : (wr.alloc (.cells #[.int .i64 (k : Int), .int .i64 (j : Int)] 2)).heap.size = wr.heap.size + 1 := by simp
            have hownV := (hP.below bb).out.alloc (.cells #[.slice (some ⟨wr.heap.size, 0, none⟩) 2 2] 26)
            have hnews := news_one (wr.alloc (.cells #[.int .i64 (k : Int), .int .i64 (j : Int)] 2)) 26 (.slice (some ⟨wr.heap.size, 0, none⟩) 2 2)
            rw [hs1] at hnews
            have HN := Lib.hid (⟨hP, hI, hv, bb, hgl, hgx, hxl, show m ≤ 72 by have := HX.out.2; omega, show m + 1 ≤ 8 * k + (j + 1) by have := HX.out.2; omega⟩ : _ ∧ _ ∧ _ ∧ _ ∧ _ ∧ _ ∧ _ ∧ _ ∧ _)
            have HOW := Lib.hid (⟨hownV, hnews⟩ : _ ∧ _)
            clear hP hI hst hx HX hv hgl hgx hxl bb hs1 hownV hnews
            go_wp2_with (at_builtin; refine wpList_append_lies _ rfl _ _ 22 rfl G 26 i0 (.slice none 0 0) 1 24 Try.underlying22 hi' z0 z1 z2 rfl (by decide) _ _ _ rfl HOW.out.1 ⟨wr.heap.size + 1, 0, none⟩ 1 1 [.slice (some ⟨wr.heap.size, 0, none⟩) 2 2] rfl rfl ?d1 ?d2 (by decide) ?d3 ?d4 ?d5 _ rfl ?_)
            case d1 => exact HOW.out.2
            case d2 => first | (intro u hu; simp at hu; subst hu; rfl) | rfl | simp
            case d3 => have := HN.out.2.2.2.2.2.2.2.1; unfold maxLen; omega
            case d4 => have := HN.out.2.2.2.2.2.2.2.1; omega
            case d5 => have := HN.out.2.2.2.2.1; simp; omega
            intro g4 c4 w4 hown3 hgr hlie hlt3
            obtain ⟨hP, hI, hv, bb, hgl, hgx, hxl, hm72, hm1⟩ := HN.out
            have hch := snocC bb hgr
            have hgxx : x < g ∨ g + 1 ≤ x := by omega
            have y1 := hch.cell hI.x1 hgxx
            have yf := hch.frozen (show x < wr.heap.size from hxl) hgxx hI.xf
            have hP3 := copy_close hP hxl bb hv hown3 hgr (hlie.imp id (fun e => by rw [e]; simp)) (.slice (some ⟨g4, 0, none⟩) (m + 1) c4)
            rw [← HST.out] at hP3
            have hbx : Chg x (x+1) w4 (w4.setCell ⟨x, 1, none⟩ (.slice (some ⟨g4, 0, none⟩) (m + 1) c4)) := (Chg.refl x (x+1) _).setCell (p := ⟨x, 1, none⟩) ⟨Nat.le_refl _, Nat.lt_succ_self _⟩ _
            have hyg : y < g := by have := HO.out; omega
            have hyx : y < x := by have := HO.out; omega
            have hsz := hch.size
            have hI4 : SoI y x S w g4 (m + 1) c4 (w4.setCell ⟨x, 1, none⟩ (.slice (some ⟨g4, 0, none⟩) (m + 1) c4)) := ⟨⟨(hI.base.below.chgn hch (Nat.le_of_lt hyg) (by have := hI.base.ylt; omega)).chgn hbx (Nat.le_of_lt hyx) (by have := hI.base.ylt; omega), hbx.cell (hch.cell hI.base.y0 (.inl hyg)) (.inl hyx), hbx.cell (hch.cell hI.base.y1 (.inl hyg)) (.inl hyx), hbx.frozen (show y < w4.heap.size by have := hI.base.ylt; omega) (.inl hyx) (hch.frozen (show y < wr.heap.size from hI.base.ylt) (.inl hyg) hI.base.f0), hbx.frozen (show y < w4.heap.size by have := hI.base.ylt; omega) (.inl hyx) (hch.frozen (show y < wr.heap.size from hI.base.ylt) (.inl hyg) hI.base.f1), by rw [World.size_setCell]; have := hI.base.ylt; omega⟩,
              by rw [World.cell?_setCell_other _ _ _ _ (by simp)]; exact hch.cell hI.x0 hgxx, World.cell?_setCell_same _ _ _ y1, by rw [World.frozen?_setCell]; exact yf, by rw [World.size_setCell]; omega⟩
            have HF := Lib.hid (⟨hP3, hI4, hm1⟩ : _ ∧ _ ∧ _)
            clear hP hI hv bb hgl hgx hxl hm72 hm1 hch hgxx hP3 hbx hyg hyx hsz hI4 hown3 hgr hlie hlt3 HOW g2 g3 x0 x1 xf
            go_wp2
            go_roundw
            case rel => exact ⟨j+1, m+1, g4, c4, _, _, by omega, by omega, by go_num, Lib.hid ⟨rfl, HF.out.2.2⟩, HF.out.1, HF.out.2.1⟩
            case measure => simp [intOf]; omega
        · obtain rfl : j = S := by omega
          have HP := Lib.hid (⟨HX.out.1, by have := HX.out.2; omega, hP, hI⟩ : es = smT f j (k + 1) ∧ m ≤ 8 * (k + 1) ∧ _ ∧ _)
          clear HX hP hI
          go_wp2
          go_roundw
          case rel => exact ⟨k+1, m, g, cc, rvs, es, by omega, by go_num, Lib.hid ⟨HP.out.1, HP.out.2.1⟩, HP.out.2.2⟩
          case measure => simp [intOf]; omega
    · obtain rfl : k = S := by omega
      have hx := HX.out.1
      rw [← HEE.out] at hx
      subst hx
      have hml : es.length = m := by have := hP.len; rw [unp_len] at this; exact this
      have hm64 : m ≤ 64 := by have := HX.out.2; omega
      obtain ⟨x1, y0, y1, f0, f1, ylt, hB5⟩ := (⟨hI.x1, hI.base.y0, hI.base.y1, hI.base.f0, hI.base.f1, hI.base.ylt, hI.base.below⟩ : _ ∧ _ ∧ _ ∧ _ ∧ _ ∧ _ ∧ _)
      have HB := Lib.hid hB5
      by_cases h10 : m ≤ 10
      · have hb : decide ((10 : Int) < (m : Int)) = false := decide_eq_false (by omega)
        have hR := HY.out (by omega)
        subst hR
        have hor := hP.owr' (by omega)
        have hyG := HO.out
        have hch : Chg y (y + 1) U ((U.setCell ⟨y, 0, none⟩ (.int .i64 (k : Int))).setCell ⟨y, 1, none⟩ (.slice (some ⟨g, 0, none⟩) m cc)) := by
          repeat (refine Chg.setCell ?_ (by constructor <;> simp <;> omega) _)
          exact Chg.refl _ _ _
        have hP2 := hP.chg hch (.inr (by have := hP.lt; omega)) (fun j hj q hq => Or.inr (by have := ((hP.rows.own j (by rw [hP.len]; exact hj)).blk q hq).1; omega))
        have hor2 := (hP2.owr' (by omega)).mono (show y ≤ G by omega) (Nat.le_refl _)
        have HF := Lib.hid (⟨hor2, (show m = (unp es).length by rw [unp_len, hml])⟩ : _ ∧ _)
        clear hP hI HX HEE HTL hml hor hch hP2 hor2 hB5
        go_wp2
        rw [← HYY.out]
        refine bodyPost_ret (v := .tuple #[.agg #[.int .i64 (k : Int), .slice (some ⟨g, 0, none⟩) m cc], .int .i64 0]) (by simp [results, Try.results88, go_sem, y0, y1, f0, f1, x0, x1]) rfl ⟨some ⟨g, 0, none⟩, cc, by rw [HF.out.2], HF.out.1, ?_⟩
        repeat (refine Below.setCell ?_ (by simp <;> omega) _)
        exact HB.out
      · have hb : decide ((10 : Int) < (m : Int)) = true := decide_eq_true (by omega)
        have hR := HNO.out (by omega)
        subst hR
        clear hP hI HX HEE HTL hml hB5
        go_wp2
        rw [← HYY.out]
        refine bodyPost_ret (v := .tuple #[.agg #[.int .i64 0, .slice none 0 0], .int .i64 3]) (by simp [results, Try.results88, go_sem, y0, y1, f0, f1]) rfl ⟨none, 0, rfl, OwR.nil (World.ownsRow_nil _ _ _ _) (Nat.le_refl _), ?_⟩
        repeat (refine Below.setCell ?_ (by simp <;> omega) _)
        exact HB.out

end Go.Proofs.Ytolipjemabmlkaa
