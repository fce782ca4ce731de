/- Laplacian rows of the model. -/
import Derived.Test.YtkhfhdmhhkfehaaLap
set_option linter.unusedSimpArgs false
set_option linter.unusedVariables false
set_option maxRecDepth 100000
namespace Go.Proofs.Ytkhfhdmhhkfehaa
open Go.RowKit

theorem OwR.row2 {lo hi : Nat} {w : World} {g n c b cb : Nat} {f : Nat → Nat → Int} (h : OwR lo hi w (.slice (some ⟨g, 0, none⟩) n c) (tab n f)) {i j : Nat} (hi' : i < n) (hj : j < n) (hc : w.cell? ⟨g, i, none⟩ = some (.slice (some ⟨b, 0, none⟩) n cb)) :
    w.cell? ⟨b, j, none⟩ = some (.int .i64 (f i j)) ∧ w.frozen? ⟨b, j, none⟩ = false ∧ lo ≤ b ∧ b < hi ∧ b < w.heap.size ∧ g ≠ b ∧
      ∀ x, I64 x → OwR lo hi (w.setCell ⟨b, j, none⟩ (.int .i64 x)) (.slice (some ⟨g, 0, none⟩) n c) (tab n (put f i j x)) := by
  obtain ⟨g', c', b', cb', e1, e2, e3, e4, e5, e6, e7, _, _, _, e9, _, e8⟩ := h.store (k := i) (j := j) (by rw [tab_len]; exact hi') (by rw [tab_rlen f hi']; exact hj)
  rw [tab_rlen f hi'] at e2
  rw [tab_get f hi' hj] at e3
  simp only [Value.slice.injEq, Option.some.injEq, Addr.mk.injEq] at e1
  obtain ⟨⟨rfl, _⟩, _, rfl⟩ := e1
  rw [hc] at e2
  simp only [Option.some.injEq, Value.slice.injEq, Addr.mk.injEq] at e2
  obtain ⟨⟨rfl, _⟩, _, rfl⟩ := e2
  refine ⟨e3, e4, e5, e6, e7, e9, fun x hx => ?_⟩
  have := e8 x hx
  rw [tab_set f x hi' hj] at this
  exact this
/-- the rows while the edges are counted, with the headers of two rows known -/
structure LapJ (L H1 S g c A B b1 c1 b2 c2 : Nat) (a : Option Addr) (n cc B0 : Nat) (w : World) (f : Nat → Nat → Int) (W : World) : Prop where
  rows : OwR L H1 W (.slice (some ⟨g, 0, none⟩) S c) (tab S f)
  r1 : W.cell? ⟨g, A, none⟩ = some (.slice (some ⟨b1, 0, none⟩) S c1)
  r2 : W.cell? ⟨g, B, none⟩ = some (.slice (some ⟨b2, 0, none⟩) S c2)
  below : Below B0 w W
  k0 : W.cell? ⟨B0, 0, none⟩ = some (.int .i64 (S : Int))
  k1 : W.cell? ⟨B0, 1, none⟩ = some (.slice a n cc)
  size : H1 ≤ W.heap.size
  lo : B0 < L
theorem LapJ.drewN {L H1 S g c A B b1 c1 b2 c2 : Nat} {a : Option Addr} {n cc B0 : Nat} {w : World} {f : Nat → Nat → Int} {W : World} (h : LapJ L H1 S g c A B b1 c1 b2 c2 a n cc B0 w f W) (N : Nat) : LapJ L H1 S g c A B b1 c1 b2 c2 a n cc B0 w f (W.drewN N) :=
  ⟨h.rows.qt ((Qt.refl W).drewN N), h.r1, h.r2, h.below.drewN N, h.k0, h.k1, h.size, h.lo⟩
theorem LapJ.bump1 {L H1 S g c A B b1 c1 b2 c2 : Nat} {a : Option Addr} {n cc B0 : Nat} {w : World} {f : Nat → Nat → Int} {W : World} (h : LapJ L H1 S g c A B b1 c1 b2 c2 a n cc B0 w f W) (hA : A < S) {j : Nat} (hj : j < S) :
    W.cell? ⟨b1, j, none⟩ = some (.int .i64 (f A j)) ∧ W.frozen? ⟨b1, j, none⟩ = false ∧ ∀ x, I64 x → LapJ L H1 S g c A B b1 c1 b2 c2 a n cc B0 w (put f A j x) (W.setCell ⟨b1, j, none⟩ (.int .i64 x)) := by
  obtain ⟨e1, e2, e3, e4, e5, e6, e7⟩ := h.rows.row2 hA hj h.r1
  have hlo := h.lo
  have hch : Chg b1 (b1 + 1) W (W.setCell ⟨b1, j, none⟩ (.int .i64 (0 : Int))) := (Chg.refl b1 (b1 + 1) W).setCell (p := ⟨b1, j, none⟩) ⟨Nat.le_refl _, Nat.lt_succ_self _⟩ _
  refine ⟨e1, e2, fun x hx => ?_⟩
  have hch : Chg b1 (b1 + 1) W (W.setCell ⟨b1, j, none⟩ (.int .i64 x)) := (Chg.refl b1 (b1 + 1) W).setCell (p := ⟨b1, j, none⟩) ⟨Nat.le_refl _, Nat.lt_succ_self _⟩ _
  exact ⟨e7 x hx, hch.cell h.r1 (by show g < b1 ∨ b1 + 1 ≤ g; omega), hch.cell h.r2 (by show g < b1 ∨ b1 + 1 ≤ g; omega), h.below.setCell (p := ⟨b1, j, none⟩) (by show B0 ≤ b1; omega) _, hch.cell h.k0 (.inl (by show B0 < b1; omega)), hch.cell h.k1 (.inl (by show B0 < b1; omega)), by rw [World.size_setCell]; exact h.size, h.lo⟩
theorem LapJ.bump2 {L H1 S g c A B b1 c1 b2 c2 : Nat} {a : Option Addr} {n cc B0 : Nat} {w : World} {f : Nat → Nat → Int} {W : World} (h : LapJ L H1 S g c A B b1 c1 b2 c2 a n cc B0 w f W) (hB : B < S) {j : Nat} (hj : j < S) :
    W.cell? ⟨b2, j, none⟩ = some (.int .i64 (f B j)) ∧ W.frozen? ⟨b2, j, none⟩ = false ∧ ∀ x, I64 x → LapJ L H1 S g c A B b1 c1 b2 c2 a n cc B0 w (put f B j x) (W.setCell ⟨b2, j, none⟩ (.int .i64 x)) := by
  obtain ⟨e1, e2, e3, e4, e5, e6, e7⟩ := h.rows.row2 hB hj h.r2
  have hlo := h.lo
  refine ⟨e1, e2, fun x hx => ?_⟩
  have hch : Chg b2 (b2 + 1) W (W.setCell ⟨b2, j, none⟩ (.int .i64 x)) := (Chg.refl b2 (b2 + 1) W).setCell (p := ⟨b2, j, none⟩) ⟨Nat.le_refl _, Nat.lt_succ_self _⟩ _
  exact ⟨e7 x hx, hch.cell h.r1 (by show g < b2 ∨ b2 + 1 ≤ g; omega), hch.cell h.r2 (by show g < b2 ∨ b2 + 1 ≤ g; omega), h.below.setCell (p := ⟨b2, j, none⟩) (by show B0 ≤ b2; omega) _, hch.cell h.k0 (.inl (by show B0 < b2; omega)), hch.cell h.k1 (.inl (by show B0 < b2; omega)), by rw [World.size_setCell]; exact h.size, h.lo⟩

set_option maxRecDepth 100000 in
set_option maxHeartbeats 6400000 in
theorem l05Laplacian {lo hi : Nat} (S : Nat) (a : Option Addr) (n c : Nat) (xss : List (List Int)) (w : World) (h : RdR lo hi w (.slice a n c) xss) (hn : xss.length = n) (hg : grB (S : Int) xss = true) :
    Calls Try.prog 61 #[.agg #[.int .i64 (S : Int), .slice a n c]] w fun e w' => ∃ a' c', e = .returned (.slice a' S c') ∧ OwR w.heap.size w'.heap.size w' (.slice a' S c') (tab S (lapS (pairs xss) n)) ∧ Below w.heap.size w w' := by
  obtain ⟨i0, hi', z0, z1, z2⟩ := info_parts Try.info2
  obtain ⟨j0, hj', y0, y1, y2⟩ := info_parts Try.info24
  have hg4 := grB_iff hg
  have hn10 : n ≤ 10 := by omega
  have hS8 : S ≤ 8 := by omega
  have HR := Lib.hid h
  have HPI := Lib.hid (show ∀ q, q < n → (xss.getD q []).length = 2 ∧ ∃ A B : Nat, (pairs xss).getD q (0, 0) = ((A : Int), (B : Int)) ∧ (xss.getD q []).getD 0 0 = (A : Int) ∧ (xss.getD q []).getD 1 0 = (B : Int) ∧ A < S ∧ B < S from fun q hq => by
    have := hg4.2.2.2 q (by omega)
    rw [pairs_getD]
    exact ⟨this.1, ((xss.getD q []).getD 0 0).toNat, ((xss.getD q []).getD 1 0).toNat, by simp only [Prod.mk.injEq]; omega, by omega, by omega, by omega, by omega⟩)
  have HN := Lib.hid hn
  generalize pairs xss = es at HPI ⊢
  have HTL := Lib.hid (show (tab S zeros).length = S from tab_len _ _)
  clear h hn hg hg4
  go_enter Try.func61, Try.ntmps61
  go_wp2
  have hB := (Below.refl w.heap.size w).alloc (Nat.le_refl _) (.cells #[.int .i64 (S : Int), .slice a n c] 36)
  have k0 : (w.alloc (.cells #[.int .i64 (S : Int), .slice a n c] 36)).cell? ⟨w.heap.size, 0, none⟩ = some (.int .i64 (S : Int)) := by go_simp
  have k1 : (w.alloc (.cells #[.int .i64 (S : Int), .slice a n c] 36)).cell? ⟨w.heap.size, 1, none⟩ = some (.slice a n c) := by go_simp
  have hz : w.heap.size < (w.alloc (.cells #[.int .i64 (S : Int), .slice a n c] 36)).heap.size := by simp
  have hsz : w.heap.size + 1 = (w.alloc (.cells #[.int .i64 (S : Int), .slice a n c] 36)).heap.size := by simp
  rw [hsz]
  generalize w.alloc (.cells #[.int .i64 (S : Int), .slice a n c] 36) = W at hB k0 k1 hz ⊢
  obtain ⟨B, hB0⟩ : ∃ B, B = w.heap.size := ⟨_, rfl⟩
  rw [← hB0] at k0 k1 hz hB ⊢
  have HB0 := Lib.hid hB0
  have hbA := (Below.refl W.heap.size W).alloc (Nat.le_refl _) (.cells #[] 24)
  have hl0 := World.ownsRow_lit (base := W.heap.size) (e := 24) (size := 1) W #[] 0 (Nat.le_refl _) (by unfold maxLen; omega) rfl
  have hP0 : OwP W.heap.size B (W.alloc (.cells #[] 24)) W.heap.size 0 0 [] [] := OwP.empty hl0 (by omega)
  have HP0 := Lib.hid (⟨hP0, hB.trans (hbA.mono (by omega)), by show B < (W.alloc (.cells #[] 24)).heap.size; simp; omega, hbA.keep k0, hbA.keep k1⟩ : _ ∧ Below B w (W.alloc (.cells #[] 24)) ∧ B < (W.alloc (.cells #[] 24)).heap.size ∧ _ ∧ _)
  obtain ⟨L, hL⟩ : ∃ L, L = W.heap.size := ⟨_, rfl⟩
  have hBL : B < L := by omega
  rw [← hL] at HP0 ⊢
  generalize W.alloc (.cells #[] 24) = V at HP0 ⊢
  clear hl0 hP0 k0 k1 hB hz hL hbA hsz hB0
  go_loopw [4, 3] (fun y v wr => ∃ (k : Nat) (rvs : List Value) (g cc : Nat), k ≤ S ∧ y = .int .i64 k ∧ v = .slice (some ⟨g, 0, none⟩) k cc ∧ OwP L B wr g k cc rvs ((tab S zeros).take k) ∧ Below B w wr ∧ B < wr.heap.size ∧ wr.cell? ⟨B, 0, none⟩ = some (.int .i64 (S : Int)) ∧ wr.cell? ⟨B, 1, none⟩ = some (.slice a n c)) (fun y _ _ => S - (intOf y).toNat)
  case atStart => exact ⟨0, [], L, 0, Nat.zero_le _, rfl, rfl, HP0.out⟩
  case round =>
    clear HP0
    obtain ⟨k, rvs, g, cc, hk, rfl, rfl, hP, hB, hzr, k0, k1⟩ := hrel
    obtain ⟨U, rfl⟩ : ∃ U, U = wr := ⟨_, rfl⟩
    by_cases hlt : k < S
    · have HST := Lib.hid (tab_take zeros hlt)
      have HPB := Lib.hid (⟨hP, hB, hzr, k0, k1⟩ : _ ∧ _ ∧ _ ∧ _ ∧ _)
      clear hP hB hzr
      go_wp2_with (at_make; refine wpList_make_full _ rfl _ _ 24 rfl U.heap.size 2 i0 (.int .i64 0) 1 Try.underlying24 hi' z0 z1 _ _ _ _ S rfl rfl rfl rfl ?c1 ?c2 ?c3 ?_)
      case c1 => rw [z2]; omega
      case c2 => unfold maxLen; omega
      case c3 => exact Nat.le_refl _
      intro w2 hown hgr
      have hb1 : Below U.heap.size U w2 := (Below.refl _ _).grown hgr (Nat.le_refl _) (fun j hj => by cases hj)
      obtain ⟨R, hR⟩ : ∃ R, R = U.heap.size := ⟨_, rfl⟩
      have HRR := Lib.hid hR
      rw [← hR] at hown ⊢
      have hO : OwI R w2.heap.size w2 (.slice (some ⟨R, 0, none⟩) S S) ((List.range S).map (zeros k)) := by
        rw [hR]
        exact row_OwI (by omega) (by rw [← hR]; exact hown)
      obtain ⟨hP, hB, hzr, _, _⟩ := HPB.out
      have hownV := (hP.below hb1).out.alloc (.cells #[.slice (some ⟨R, 0, none⟩) S S] 24)
      have hnews := news_one w2 24 (.slice (some ⟨R, 0, none⟩) S S)
      have hszw := hb1.size
      have hlt2 : L ≤ g ∧ g < U.heap.size := hP.lt
      have HP := Lib.hid (⟨hO, hP, hB, hb1⟩ : _ ∧ _ ∧ _ ∧ _)
      clear hO hP hB hown hb1 k0 k1 hgr hR
      go_wp2_with (at_builtin; refine wpList_append_lies _ rfl _ _ 22 rfl L 24 j0 (.slice none 0 0) 1 24 Try.underlying22 hj' y0 y1 y2 rfl (by decide) _ _ _ rfl hownV ⟨w2.heap.size, 0, none⟩ 1 1 [.slice (some ⟨R, 0, none⟩) S S] rfl rfl ?d1 ?d2 (by decide) ?d3 ?d4 ?d5 _ rfl ?_)
      case d1 => exact hnews
      case d2 => first | (intro u hu; simp at hu; subst hu; rfl) | rfl | simp
      case d3 => unfold maxLen; omega
      case d4 => omega
      case d5 => simp; omega
      intro g2 c3 w4 hown3 hgr hlie hlt3
      obtain ⟨hO, hP, hB, hb⟩ := HP.out
      rw [HRR.out] at hO hown3
      have hV3 := hP.snocF (hi := w2.heap.size) (by omega) hb hO hown3 hgr (hlie.imp id (fun e => by rw [e]; simp))
      have hb3 : Chg g (g + 1) U w4 := snocC hb hgr
      rw [← HST.out] at hV3
      have hBg : B < g := by omega
      have hB3 : Below B w w4 := hB.trans (hb3.below (by omega) (by omega))
      have HF := Lib.hid (⟨hV3, hB3, Nat.lt_of_lt_of_le HPB.out.2.2.1 hb3.size, hb3.cell HPB.out.2.2.2.1 (.inl hBg), hb3.cell HPB.out.2.2.2.2 (.inl hBg)⟩ : _ ∧ _ ∧ _ ∧ _ ∧ _)
      clear hO hP hB hb hV3 hb3 hB3 hown3 hgr hlie hnews hownV
      go_wp2
      go_roundw
      case rel => exact ⟨k+1, _, g2, c3, by omega, by go_num, rfl, HF.out⟩
      case measure => simp [intOf]; omega
    · obtain rfl : k = S := by omega
      rw [List.take_of_length_le (by rw [HTL.out]; exact Nat.le_refl _)] at hP
      have hbig : k ≤ 8796093022208 := by omega
      have hO := hP.owr hbig
      have HP0 := Lib.hid (⟨hO, hB, k0, k1⟩ : OwR L U.heap.size U (.slice (some ⟨g, 0, none⟩) k cc) (tab k (lapS es 0)) ∧ _ ∧ _ ∧ _)
      obtain ⟨H1, hH1⟩ : ∃ H, H = U.heap.size := ⟨_, rfl⟩
      rw [← hH1] at HP0
      have hBH : B < H1 := by omega
      have hHU : H1 ≤ U.heap.size := by omega
      clear hP hO hB hH1
      go_wp2
      clear k0 k1
      go_loopw [5] (fun y wr => ∃ f : Nat, f ≤ n ∧ y = .int .i64 f ∧ OwR L H1 wr (.slice (some ⟨g, 0, none⟩) k cc) (tab k (lapS es f)) ∧ Below B w wr ∧ wr.cell? ⟨B, 0, none⟩ = some (.int .i64 (k : Int)) ∧ wr.cell? ⟨B, 1, none⟩ = some (.slice a n c) ∧ H1 ≤ wr.heap.size) (fun y _ => n - (intOf y).toNat)
      case atStart => exact ⟨0, Nat.zero_le _, rfl, HP0.out.1, HP0.out.2.1, HP0.out.2.2.1, HP0.out.2.2.2, hHU⟩
      case round =>
        rename_i hrel
        clear HP0
        obtain ⟨f, hf, rfl, hO, hB, k0, k1, hHz⟩ := hrel
        have HO := Lib.hid (⟨hO, hB, k0, k1, hHz⟩ : _ ∧ _ ∧ _ ∧ _ ∧ _)
        have hRX := HR.out.below (by rw [HB0.out] at hB; exact hB)
        by_cases hlf : f < n
        · obtain ⟨h2, A, B2, hAB, hA', hB', hA, hBB⟩ := HPI.out f hlf
          obtain ⟨rb, roff, rv, rfl, r0, rrd⟩ := hRX.at HN.out f hlf
          obtain ⟨eb, eoff, ecap, rfl, e0, e1⟩ := rrd.two h2
          rw [hA'] at e0
          rw [hB'] at e1
          have hst := lapS_step es f
          rw [hAB] at hst
          dsimp only at hst
          rw [Int.toNat_natCast, Int.toNat_natCast] at hst
          have HST := Lib.hid hst
          obtain ⟨ga, b1, c1, ea, rA, _⟩ := HO.out.1.ent hA hA
          obtain rfl : g = ga := by simpa using ea
          obtain ⟨gb, b2, c2, ebb, rB, _⟩ := HO.out.1.ent hBB hBB
          obtain rfl : g = gb := by simpa using ebb
          generalize hf : lapS es f = F at *
          have hA0 : (0 : Int) ≤ (A : Int) := by omega
          have hA1 : (A : Int) < (k : Int) := by omega
          have hB0 : (0 : Int) ≤ (B2 : Int) := by omega
          have hB1 : (B2 : Int) < (k : Int) := by omega
          clear hst hAB hA' hB' h2 hRX rrd hO hB ea ebb hf
          by_cases hab : A = B2
          · have hb : ((A : Int) == (B2 : Int)) = true := by simp; omega
            have hfin : lapS es (f+1) = F := by rw [HST.out]; unfold lapE; rw [if_pos hab]
            have HF := Lib.hid (fun N => (⟨by rw [hfin]; exact HO.out.1.qt ((Qt.refl wr).drewN N), HO.out.2.1.drewN N, HO.out.2.2.1, HO.out.2.2.2.1, HO.out.2.2.2.2⟩ : OwR L H1 (wr.drewN N) (.slice (some ⟨g, 0, none⟩) k cc) (tab k (lapS es (f+1))) ∧ Below B w (wr.drewN N) ∧ (wr.drewN N).cell? ⟨B, 0, none⟩ = some (.int .i64 (k : Int)) ∧ (wr.drewN N).cell? ⟨B, 1, none⟩ = some (.slice (some ⟨rb, roff, none⟩) n c) ∧ H1 ≤ (wr.drewN N).heap.size))
            clear hfin HO HST hab rA rB
            go_wp2_with fail
            go_quiet (fail)
            go_wp2_with fail
            go_roundw
            case rel => exact ⟨f+1, by omega, by go_num, HF.out _⟩
            case measure => simp [intOf]; omega
          · have hb : ((A : Int) == (B2 : Int)) = false := by simp; omega
            have hfin0 : lapS es (f+1) = dn1 (up1 (dn1 (up1 F A A) A B2) B2 B2) B2 A := by rw [HST.out, lapE_model hab]
            have HFN := Lib.hid hfin0
            have H0 := Lib.hid (⟨HO.out.1, rA, rB, HO.out.2.1, k0, k1, HO.out.2.2.2.2, hBL⟩ : LapJ L H1 k g cc A B2 b1 c1 b2 c2 (some ⟨rb, roff, none⟩) n c B w F wr)
            clear hfin0 HST HO
            go_wp2_with fail
            go_quiet (fail)
            obtain ⟨nq1, hnq1⟩ : ∃ N1, N1 = nq := ⟨_, rfl⟩
            rw [← hnq1]
            clear hnq1
            go_wp2_with fail
            go_quiet (fail)
            have H0 := Lib.hid ((H0.out.drewN nq1).drewN nq)
            clear e0 e1 r0 rA rB k0 k1
            generalize (wr.drewN nq1).drewN nq = Y0 at H0 ⊢
            obtain ⟨p1, q1, hput⟩ := H0.out.bump1 hA (j := A) hA
            obtain ⟨t1, ht⟩ : ∃ t, t = wrap64 (F A A + 1) := ⟨_, rfl⟩
            have J1 := hput t1 (by rw [ht]; exact wrap_I64 _)
            rw [show put (F) A A t1 = up1 (F) A A from by rw [ht]; rfl] at J1
            have s1 : IntKind.i64.wrap (F A A + 1) = t1 := by rw [IntWalk.i64_left, ht]
            have z1 : wrap64 (F A A + 1) = t1 := ht.symm
            generalize F A A = d1 at p1 s1 z1
            clear hput ht
            obtain ⟨p2, q2, hput⟩ := J1.bump1 hA (j := B2) hBB
            obtain ⟨t2, ht⟩ : ∃ t, t = wrap64 (up1 F A A A B2 - 1) := ⟨_, rfl⟩
            have J2 := hput t2 (by rw [ht]; exact wrap_I64 _)
            rw [show put (up1 F A A) A B2 t2 = dn1 (up1 F A A) A B2 from by rw [ht]; rfl] at J2
            have s2 : IntKind.i64.wrap (up1 F A A A B2 - 1) = t2 := by rw [IntWalk.i64_left, ht]
            have z2 : wrap64 (up1 F A A A B2 - 1) = t2 := ht.symm
            generalize up1 F A A A B2 = d2 at p2 s2 z2
            clear hput ht
            obtain ⟨p3, q3, hput⟩ := J2.bump2 hBB (j := B2) hBB
            obtain ⟨t3, ht⟩ : ∃ t, t = wrap64 (dn1 (up1 F A A) A B2 B2 B2 + 1) := ⟨_, rfl⟩
            have J3 := hput t3 (by rw [ht]; exact wrap_I64 _)
            rw [show put (dn1 (up1 F A A) A B2) B2 B2 t3 = up1 (dn1 (up1 F A A) A B2) B2 B2 from by rw [ht]; rfl] at J3
            have s3 : IntKind.i64.wrap (dn1 (up1 F A A) A B2 B2 B2 + 1) = t3 := by rw [IntWalk.i64_left, ht]
            have z3 : wrap64 (dn1 (up1 F A A) A B2 B2 B2 + 1) = t3 := ht.symm
            generalize dn1 (up1 F A A) A B2 B2 B2 = d3 at p3 s3 z3
            clear hput ht
            obtain ⟨p4, q4, hput⟩ := J3.bump2 hBB (j := A) hA
            obtain ⟨t4, ht⟩ : ∃ t, t = wrap64 (up1 (dn1 (up1 F A A) A B2) B2 B2 B2 A - 1) := ⟨_, rfl⟩
            have J4 := hput t4 (by rw [ht]; exact wrap_I64 _)
            rw [show put (up1 (dn1 (up1 F A A) A B2) B2 B2) B2 A t4 = dn1 (up1 (dn1 (up1 F A A) A B2) B2 B2) B2 A from by rw [ht]; rfl] at J4
            have s4 : IntKind.i64.wrap (up1 (dn1 (up1 F A A) A B2) B2 B2 B2 A - 1) = t4 := by rw [IntWalk.i64_left, ht]
            have z4 : wrap64 (up1 (dn1 (up1 F A A) A B2) B2 B2 B2 A - 1) = t4 := ht.symm
            generalize up1 (dn1 (up1 F A A) A B2) B2 B2 B2 A = d4 at p4 s4 z4
            clear hput ht
            rw [← HFN.out] at J4
            have HF := Lib.hid (⟨J4.rows, J4.below, J4.k0, J4.k1, J4.size⟩ : OwR L H1 _ (.slice (some ⟨g, 0, none⟩) k cc) (tab k (lapS es (f+1))) ∧ _ ∧ _ ∧ _ ∧ _)
            clear J1 J2 J3 J4 H0 HFN hb
            go_wp2_with fail
            go_roundw
            case rel => exact ⟨f+1, by omega, by go_num, HF.out⟩
            case measure => simp [intOf]; omega
        · obtain rfl : f = n := by omega
          have hlw : w.heap.size ≤ L := by rw [← HB0.out]; omega
          rw [HB0.out] at hB
          have HF := Lib.hid (⟨hO.mono hlw hHz, hB⟩ : OwR w.heap.size wr.heap.size wr (.slice (some ⟨g, 0, none⟩) k cc) (tab k (lapS es f)) ∧ _)
          clear hO hB HO hRX k0
          go_wp2
          go_ret
          exact ⟨_, _, rfl, HF.out⟩

end Go.Proofs.Ytkhfhdmhhkfehaa
