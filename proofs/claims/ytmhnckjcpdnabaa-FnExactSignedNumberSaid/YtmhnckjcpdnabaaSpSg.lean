/- The signed Laplacian rows of the model. -/
import Derived.Test.YtmhnckjcpdnabaaSgl
set_option linter.unusedSimpArgs false
set_option linter.unusedVariables false
set_option maxRecDepth 100000
namespace Go.Proofs.Ytmhnckjcpdnabaa
open Go.RowKit

def dgM (xss : List (List Int)) : Nat → Nat → Int := fun i j => if i = j then deg xss (i : Int) else 0
theorem dgM_row (xss : List (List Int)) {S k : Nat} (hk : k < S) : (madeCells #[Value.int .i64 0] S).toList.set k (.int .i64 (deg xss (k : Int))) = ((List.range S).map (dgM xss k)).map (Value.int .i64) := by
  rw [toList_madeCells_one]
  apply List.ext_getElem?
  intro j
  rw [List.getElem?_set]
  by_cases e : k = j
  · subst e
    simp [hk, dgM]
  · rw [if_neg e]
    by_cases hj : j < S
    · simp [hj, dgM, e]
    · simp [hj]
def smS (es : List (Int × Int)) (ys : List Int) (D : Nat → Nat → Int) : Nat → Nat → Nat → Int
  | 0 => D
  | q + 1 => sb1 (sb1 (smS es ys D q) (es.getD q (0, 0)).1.toNat (es.getD q (0, 0)).2.toNat (ys.getD q 0)) (es.getD q (0, 0)).2.toNat (es.getD q (0, 0)).1.toNat (ys.getD q 0)
theorem smS_step (es : List (Int × Int)) (ys : List Int) (D : Nat → Nat → Int) (q : Nat) : smS es ys D (q + 1) = sb1 (sb1 (smS es ys D q) (es.getD q (0, 0)).1.toNat (es.getD q (0, 0)).2.toNat (ys.getD q 0)) (es.getD q (0, 0)).2.toNat (es.getD q (0, 0)).1.toNat (ys.getD q 0) := rfl

set_option maxRecDepth 100000 in
set_option maxHeartbeats 6400000 in
theorem l10Signed {lo hi lo' hi' : Nat} (S : Nat) (a : Option Addr) (n c : Nat) (xss : List (List Int)) (aS : Option Addr) (nS cS : Nat) (ys : List Int) (w : World) (h : RdR lo hi w (.slice a n c) xss) (hn : xss.length = n) (hS : RdI lo' hi' w (.slice aS nS cS) ys) (hnS : ys.length = nS) (hd : dblCode (S : Int) xss ys = 0) :
    Calls Try.prog 57 #[.agg #[.int .i64 (S : Int), .slice a n c], .slice aS nS cS] w fun e w' => ∃ a' c', e = .returned (.slice a' S c') ∧ OwR w.heap.size w'.heap.size w' (.slice a' S c') (tab S (smS (pairs xss) ys (dgM xss) n)) ∧ Below w.heap.size w w' := by
  obtain ⟨i0, hi', z0, z1, z2⟩ := info_parts Try.info2
  obtain ⟨j0, hj', y0, y1, y2⟩ := info_parts Try.info25
  obtain ⟨hg, hyl, hys, _⟩ := dbl_ok hd
  have hSn : n = nS := by omega
  subst hSn
  have hg4 := grB_iff hg
  have hn10 : n ≤ 10 := by omega
  have hS8 : S ≤ 8 := by omega
  have HR := Lib.hid h
  have HPI := Lib.hid (show ∀ q, q < n → (xss.getD q []).length = 2 ∧ ∃ A B : Nat, (pairs xss).getD q (0, 0) = ((A : Int), (B : Int)) ∧ (xss.getD q []).getD 0 0 = (A : Int) ∧ (xss.getD q []).getD 1 0 = (B : Int) ∧ A < S ∧ B < S from fun q hq => by
    have := hg4.2.2.2 q (by omega)
    rw [pairs_getD]
    exact ⟨this.1, ((xss.getD q []).getD 0 0).toNat, ((xss.getD q []).getD 1 0).toNat, by simp only [Prod.mk.injEq]; omega, by omega, by omega, by omega, by omega⟩)
  have HN := Lib.hid hn
  have HS := Lib.hid hS
  have HSL := Lib.hid hnS
  have HDG := Lib.hid (fun W' (hB : Below w.heap.size w W') (v : Nat) => l01Degree (S : Int) (v : Int) a n c xss W' (h.below hB) hg)
  have HDI := Lib.hid (show ∀ i j : Nat, I64 (dgM xss i j) from fun i j => by
    unfold dgM
    split
    · have := deg_bd xss (i : Int); unfold I64; omega
    · unfold I64; omega)
  have HDE := Lib.hid (fun k : Nat => dgM_row xss (S := S) (k := k))
  generalize pairs xss = es at HPI ⊢
  generalize dgM xss = DG at HDI HDE ⊢
  have HTL := Lib.hid (show (tab S DG).length = S from tab_len _ _)
  clear h hn hg hg4 hS hnS hd hyl hys
  go_enter Try.func57, Try.ntmps57
  go_wp2
  have hB := (Below.refl w.heap.size w).alloc (Nat.le_refl _) (.cells #[.int .i64 (S : Int), .slice a n c] 29)
  have k0 : (w.alloc (.cells #[.int .i64 (S : Int), .slice a n c] 29)).cell? ⟨w.heap.size, 0, none⟩ = some (.int .i64 (S : Int)) := by go_simp
  have k1 : (w.alloc (.cells #[.int .i64 (S : Int), .slice a n c] 29)).cell? ⟨w.heap.size, 1, none⟩ = some (.slice a n c) := by go_simp
  have hz : w.heap.size < (w.alloc (.cells #[.int .i64 (S : Int), .slice a n c] 29)).heap.size := by simp
  have hsz : w.heap.size + 1 = (w.alloc (.cells #[.int .i64 (S : Int), .slice a n c] 29)).heap.size := by simp
  rw [hsz]
  generalize w.alloc (.cells #[.int .i64 (S : Int), .slice a n c] 29) = W at hB k0 k1 hz ⊢
  obtain ⟨B, hB0⟩ : ∃ B, B = w.heap.size := ⟨_, rfl⟩
  rw [← hB0] at k0 k1 hz hB ⊢
  have HB0 := Lib.hid hB0
  have hbA := (Below.refl W.heap.size W).alloc (Nat.le_refl _) (.cells #[] 25)
  have hl0 := World.ownsRow_lit (base := W.heap.size) (e := 25) (size := 1) W #[] 0 (Nat.le_refl _) (by unfold maxLen; omega) rfl
  have hP0 : OwP W.heap.size B (W.alloc (.cells #[] 25)) W.heap.size 0 0 [] [] := OwP.empty hl0 (by omega)
  have HP0 := Lib.hid (⟨hP0, hB.trans (hbA.mono (by omega)), by show B < (W.alloc (.cells #[] 25)).heap.size; simp; omega, hbA.keep k0, hbA.keep k1⟩ : _ ∧ Below B w (W.alloc (.cells #[] 25)) ∧ B < (W.alloc (.cells #[] 25)).heap.size ∧ _ ∧ _)
  obtain ⟨L, hL⟩ : ∃ L, L = W.heap.size := ⟨_, rfl⟩
  have hBL : B < L := by omega
  rw [← hL] at HP0 ⊢
  generalize W.alloc (.cells #[] 25) = V at HP0 ⊢
  clear hl0 hP0 k0 k1 hB hz hL hbA hsz hB0
  go_loopw [6, 5] (fun y v wr => ∃ (k : Nat) (rvs : List Value) (g cc : Nat), k ≤ S ∧ y = .int .i64 k ∧ v = .slice (some ⟨g, 0, none⟩) k cc ∧ OwP L B wr g k cc rvs ((tab S DG).take k) ∧ Below B w wr ∧ B < wr.heap.size ∧ wr.cell? ⟨B, 0, none⟩ = some (.int .i64 (S : Int)) ∧ wr.cell? ⟨B, 1, none⟩ = some (.slice a n c)) (fun y _ _ => S - (intOf y).toNat)
  case atStart => exact ⟨0, [], L, 0, Nat.zero_le _, rfl, rfl, HP0.out⟩
  case round =>
    clear HP0
    obtain ⟨k, rvs, g, cc, hk, rfl, rfl, hP, hB, hzr, k0, k1⟩ := hrel
    obtain ⟨U, rfl⟩ : ∃ U, U = wr := ⟨_, rfl⟩
    by_cases hlt : k < S
    · have HST := Lib.hid (tab_take DG hlt)
      have HPB := Lib.hid (⟨hP, hB, hzr, k0, k1⟩ : _ ∧ _ ∧ _ ∧ _ ∧ _)
      clear hP hB hzr
      go_wp2_with (at_make; refine wpList_make_full _ rfl _ _ 25 rfl U.heap.size 2 i0 (.int .i64 0) 1 Try.underlying25 hi' z0 z1 _ _ _ _ S rfl rfl rfl rfl ?c1 ?c2 ?c3 ?_)
      case c1 => rw [z2]; omega
      case c2 => unfold maxLen; omega
      case c3 => exact Nat.le_refl _
      intro w2 hown hgr
      have hb1 : Below U.heap.size U w2 := (Below.refl _ _).grown hgr (Nat.le_refl _) (fun j hj => by cases hj)
      obtain ⟨R, hR⟩ : ∃ R, R = U.heap.size := ⟨_, rfl⟩
      have HRR := Lib.hid hR
      rw [← hR] at hown ⊢
      have HW2 := Lib.hid (⟨hown, hb1⟩ : _ ∧ _)
      have k0b := hb1.keep k0
      have k1b := hb1.keep k1
      have hdg := HDG.out w2 (by rw [← HB0.out]; exact HPB.out.2.1.trans (hb1.mono (by have := HPB.out.2.2.1; omega))) k
      have hkI : (k : Int) < (S : Int) := by omega
      have hk0 : (0 : Int) ≤ (k : Int) := by omega
      clear hown hb1 hgr k0 k1 hR
      go_wp2_with fail
      refine hdg.mono ?_
      clear hdg
      rintro e w3 ⟨rfl, bd⟩
      have hown := ownsRow_chg HW2.out.1 (bd.chg 0 0) (fun _ _ => .inr (Nat.zero_le _))
      have hb3 : Below U.heap.size U w3 := HW2.out.2.next bd
      have hm0 : ((madeCells #[Value.int .i64 0] S).toList)[k]? = some (.int .i64 0) := by
        rw [toList_madeCells_one]; simp [hlt]
      have d3 := (hown.cellAt k (by omega)).trans hm0
      have d4 := hown.frozenAt k
      have hsto := (hown.stored k (.int .i64 (deg xss (k : Int)))).1
      rw [HDE.out k hlt] at hsto
      have hbs : Below R U (w3.setCell ⟨R, k, none⟩ (.int .i64 (deg xss (k : Int)))) := (hb3.mono (by rw [HRR.out]; exact Nat.le_refl _)).setCell (p := ⟨R, k, none⟩) (Nat.le_refl _) _
      have HW3 := Lib.hid (⟨hsto, hbs⟩ : _ ∧ _)
      clear hown hsto hbs hb3 bd k0b k1b hm0 HW2
      obtain ⟨hown, hb1'⟩ := HW3.out
      obtain ⟨w2, hw2⟩ : ∃ x, x = w3.setCell ⟨R, k, none⟩ (.int .i64 (deg xss (k : Int))) := ⟨_, rfl⟩
      have hsz2 : w2.heap.size = w3.heap.size := by rw [hw2]; exact World.size_setCell _ _ _
      rw [← hw2] at hown hb1'
      have hb1 : Below U.heap.size U w2 := by rw [HRR.out] at hb1'; exact hb1'
      have hR := HRR.out
      have hO : OwI R w2.heap.size w2 (.slice (some ⟨R, 0, none⟩) S S) ((List.range S).map (DG k)) := OwI.mk hown (by omega) (fun x hx => by
        simp only [List.mem_map] at hx
        obtain ⟨j, _, rfl⟩ := hx
        exact HDI.out k j)
      clear HW3 hb1'
      obtain ⟨hP, hB, hzr, _, _⟩ := HPB.out
      have hownV := (hP.below hb1).out.alloc (.cells #[.slice (some ⟨R, 0, none⟩) S S] 25)
      have hnews := news_one w2 25 (.slice (some ⟨R, 0, none⟩) S S)
      have hszw := hb1.size
      have hlt2 : L ≤ g ∧ g < U.heap.size := hP.lt
      have hO2 : OwI U.heap.size w3.heap.size w2 (.slice (some ⟨R, 0, none⟩) S S) ((List.range S).map (DG k)) := by rw [← hsz2, ← HRR.out]; exact hO
      have HP := Lib.hid (⟨hO2, hP, hB, hb1⟩ : _ ∧ _ ∧ _ ∧ _)
      clear hO2
      clear hO hP hB hown hb1 hR
      rw [hsz2] at hnews hszw
      clear hsz2
      subst hw2
      go_wp2_with (at_builtin; refine wpList_append_lies _ rfl _ _ 22 rfl L 25 j0 (.slice none 0 0) 1 24 Try.underlying22 hj' y0 y1 y2 rfl (by decide) _ _ _ rfl hownV ⟨w3.heap.size, 0, none⟩ 1 1 [.slice (some ⟨R, 0, none⟩) S S] rfl rfl ?d1 ?d2 (by decide) ?d3 ?d4 ?d5 _ rfl ?_)
      case d1 => exact hnews
      case d2 => first | (intro u hu; simp at hu; subst hu; rfl) | rfl | simp
      case d3 => unfold maxLen; omega
      case d4 => omega
      case d5 => simp; omega
      intro g2 c3 w4 hown3 hgr hlie hlt3
      obtain ⟨hO, hP, hB, hb⟩ := HP.out
      have hV3 := hP.snocF (hi := w3.heap.size) (by omega) hb hO hown3 hgr (hlie.imp id (fun e => by rw [e]; simp))
      have hb3 : Chg g (g + 1) U w4 := snocC hb hgr
      rw [← HST.out] at hV3
      have hBg : B < g := by omega
      have hB3 : Below B w w4 := hB.trans (hb3.below (by omega) (by omega))
      have HF := Lib.hid (⟨hV3, hB3, Nat.lt_of_lt_of_le HPB.out.2.2.1 hb3.size, hb3.cell HPB.out.2.2.2.1 (.inl hBg), hb3.cell HPB.out.2.2.2.2 (.inl hBg)⟩ : _ ∧ _ ∧ _ ∧ _ ∧ _)
      clear hO hP hB hb hV3 hb3 hB3 hown3 hgr hlie hnews hownV
      go_wp2
      go_roundw
      case rel => exact ⟨k+1, _, g2, c3, by omega, by go_num, rfl, HF.out⟩
      case measure => simp [intOf]; omega
    · obtain rfl : k = S := by omega
      rw [List.take_of_length_le (by rw [HTL.out]; exact Nat.le_refl _)] at hP
      have hbig : k ≤ 8796093022208 := by omega
      have hO := hP.owr hbig
      have HP0 := Lib.hid (⟨hO, hB, k0, k1⟩ : OwR L U.heap.size U (.slice (some ⟨g, 0, none⟩) k cc) (tab k (smS es ys DG 0)) ∧ _ ∧ _ ∧ _)
      obtain ⟨H1, hH1⟩ : ∃ H, H = U.heap.size := ⟨_, rfl⟩
      rw [← hH1] at HP0
      have hBH : B < H1 := by omega
      have hHU : H1 ≤ U.heap.size := by omega
      clear hP hO hB hH1
      go_wp2
      clear k0 k1
      go_loopw [8] (fun y wr => ∃ f : Nat, f ≤ n ∧ y = .int .i64 f ∧ OwR L H1 wr (.slice (some ⟨g, 0, none⟩) k cc) (tab k (smS es ys DG f)) ∧ Below B w wr ∧ wr.cell? ⟨B, 0, none⟩ = some (.int .i64 (k : Int)) ∧ wr.cell? ⟨B, 1, none⟩ = some (.slice a n c) ∧ H1 ≤ wr.heap.size) (fun y _ => n - (intOf y).toNat)
      case atStart => exact ⟨0, Nat.zero_le _, rfl, HP0.out.1, HP0.out.2.1, HP0.out.2.2.1, HP0.out.2.2.2, hHU⟩
      case round =>
        rename_i hrel
        clear HP0
        obtain ⟨f, hf, rfl, hO, hB, k0, k1, hHz⟩ := hrel
        have HO := Lib.hid (⟨hO, hB, k0, k1, hHz⟩ : _ ∧ _ ∧ _ ∧ _ ∧ _)
        have hRX := HR.out.below (by rw [HB0.out] at hB; exact hB)
        by_cases hlf : f < n
        · obtain ⟨h2, A, B2, hAB, hA', hB', hA, hBB⟩ := HPI.out f hlf
          obtain ⟨rb, roff, rv, rfl, r0, rrd⟩ := hRX.at HN.out f hlf
          obtain ⟨eb, eoff, ecap, rfl, e0, e1⟩ := rrd.two h2
          rw [hA'] at e0
          rw [hB'] at e1
          obtain ⟨bS, oS, rfl, hs0⟩ := HS.out.at HSL.out f hlf
          have hst := smS_step es ys DG f
          generalize ys.getD f 0 = y at hs0 hst
          have HS0 := Lib.hid hs0
          rw [hAB] at hst
          dsimp only at hst
          rw [Int.toNat_natCast, Int.toNat_natCast] at hst
          have HST := Lib.hid hst
          obtain ⟨ga, b1, c1, ea, rA, _⟩ := HO.out.1.ent hA hA
          obtain rfl : g = ga := by simpa using ea
          obtain ⟨gb, b2, c2, ebb, rB, _⟩ := HO.out.1.ent hBB hBB
          obtain rfl : g = gb := by simpa using ebb
          generalize hf : smS es ys DG f = F at *
          have hA0 : (0 : Int) ≤ (A : Int) := by omega
          have hA1 : (A : Int) < (k : Int) := by omega
          have hB0 : (0 : Int) ≤ (B2 : Int) := by omega
          have hB1 : (B2 : Int) < (k : Int) := by omega
          have hfI : (f : Int) < (n : Int) := by omega
          have hf0 : (0 : Int) ≤ (f : Int) := by omega
          have H0 := Lib.hid (⟨HO.out.1, rA, rB, HO.out.2.1, k0, k1, HO.out.2.2.2.2, hBL⟩ : LapJ L H1 k g cc A B2 b1 c1 b2 c2 (some ⟨rb, roff, none⟩) n c B w F wr)
          clear hst hAB hA' hB' h2 hRX rrd hO hB ea ebb hf HO hs0
          go_wp2_with fail
          go_quiet (fail)
          have H0 := Lib.hid (H0.out.drewN nq)
          clear e0 e1 r0 rA rB k0 k1
          generalize wr.drewN nq = Y0 at H0 ⊢
          have rA := H0.out.r1
          go_wp2_with fail
          clear rA
          have HD1 := Lib.hid (show LapJ L H1 k g cc A B2 b1 c1 b2 c2 (some ⟨rb, roff, none⟩) n c B w F Y0.drew from H0.out.drewN 1)
          obtain ⟨p1, q1, hput⟩ := HD1.out.bump1 hA (j := B2) hBB
          obtain ⟨t1, ht⟩ : ∃ t, t = wrap64 (F A B2 - y) := ⟨_, rfl⟩
          have J1 := hput t1 (by rw [ht]; exact wrap_I64 _)
          rw [show put F A B2 t1 = sb1 F A B2 y from by rw [ht]; rfl] at J1
          have s1 : IntKind.i64.wrap (F A B2 - y) = t1 := by rw [IntWalk.i64_left, ht]
          have z1 : wrap64 (F A B2 - y) = t1 := ht.symm
          generalize F A B2 = d1 at p1 s1 z1
          have p1y : Y0.cell? ⟨b1, B2, none⟩ = _ := p1
          have q1y : Y0.frozen? ⟨b1, B2, none⟩ = _ := q1
          have s0 := (show Below w.heap.size w Y0 by rw [← HB0.out]; exact H0.out.below).keep (show (w).cell? ⟨bS, oS + f, none⟩ = some (.int .i64 y) from HS0.out)
          have s0d : Y0.drew.cell? ⟨bS, oS + f, none⟩ = some (.int .i64 y) := s0
          have HJ1 := Lib.hid J1
          clear hput ht J1 H0 HD1
          go_still_tail 12, (by kernel_rfl)
          change wpList _ _ _ _ _ Y0.drew
          clear s1 z1 p1y q1y s0 s0d
          generalize Y0.drew = Z1 at HJ1 p1 q1 ⊢
          have rB := HJ1.out.r2
          go_wp2_with fail
          clear p1 q1 rB
          generalize Z1.setCell _ _ = Y1 at HJ1 ⊢
          have HD2 := Lib.hid (show LapJ L H1 k g cc A B2 b1 c1 b2 c2 (some ⟨rb, roff, none⟩) n c B w (sb1 F A B2 y) Y1.drew from HJ1.out.drewN 1)
          obtain ⟨p1, q1, hput⟩ := HD2.out.bump2 hBB (j := A) hA
          obtain ⟨t1, ht⟩ : ∃ t, t = wrap64 (sb1 F A B2 y B2 A - y) := ⟨_, rfl⟩
          have J1 := hput t1 (by rw [ht]; exact wrap_I64 _)
          rw [show put (sb1 F A B2 y) B2 A t1 = sb1 (sb1 F A B2 y) B2 A y from by rw [ht]; rfl, ← HST.out] at J1
          have s1 : IntKind.i64.wrap (sb1 F A B2 y B2 A - y) = t1 := by rw [IntWalk.i64_left, ht]
          have z1 : wrap64 (sb1 F A B2 y B2 A - y) = t1 := ht.symm
          generalize sb1 F A B2 y B2 A = d1 at p1 s1 z1
          have p1y : Y1.cell? ⟨b2, A, none⟩ = _ := p1
          have q1y : Y1.frozen? ⟨b2, A, none⟩ = _ := q1
          have s0 := (show Below w.heap.size w Y1 by rw [← HB0.out]; exact HJ1.out.below).keep (show (w).cell? ⟨bS, oS + f, none⟩ = some (.int .i64 y) from HS0.out)
          have s0d : Y1.drew.cell? ⟨bS, oS + f, none⟩ = some (.int .i64 y) := s0
          have HF := Lib.hid (⟨J1.rows, J1.below, J1.k0, J1.k1, J1.size⟩ : OwR L H1 _ (.slice (some ⟨g, 0, none⟩) k cc) (tab k (smS es ys DG (f+1))) ∧ _ ∧ _ ∧ _ ∧ _)
          clear hput ht J1 HJ1 HD2 HST
          go_still_tail 12, (by kernel_rfl)
          change wpList _ _ _ _ _ Y1.drew
          clear s1 z1 p1y q1y s0 s0d
          generalize Y1.drew = Z2 at HF p1 q1 ⊢
          go_wp2_with fail
          go_roundw
          case rel => exact ⟨f+1, by omega, by go_num, HF.out⟩
          case measure => simp [intOf]; omega
        · obtain rfl : f = n := by omega
          have hlw : w.heap.size ≤ L := by rw [← HB0.out]; omega
          rw [HB0.out] at hB
          have HF := Lib.hid (⟨hO.mono hlw hHz, hB⟩ : OwR w.heap.size wr.heap.size wr (.slice (some ⟨g, 0, none⟩) k cc) (tab k (smS es ys DG f)) ∧ _)
          clear hO hB HO hRX k0
          go_wp2
          go_ret
          exact ⟨_, _, rfl, HF.out⟩

end Go.Proofs.Ytmhnckjcpdnabaa
