/- WalkMatrix of the model. -/
import Derived.Test.YtgcidkcedfliiaaSpecCl
set_option linter.unusedSimpArgs false
set_option linter.unusedVariables false
namespace Go.Proofs.Ytgcidkcedfliiaa
open Go.RowKit

/-- the numbers of the walks from the directed edge a, added up by their last edges below b -/
def wmI (P : Nat → Nat → Int) (ds : List (Int × Int)) (a : Nat) (f : Nat → Nat → Int) : Nat → Nat → Nat → Int
  | 0 => f
  | b + 1 => put (wmI P ds a f b) (ds.getD a (0, 0)).1.toNat (ds.getD b (0, 0)).2.toNat (wrap64 (wmI P ds a f b (ds.getD a (0, 0)).1.toNat (ds.getD b (0, 0)).2.toNat + P a b))
def wmO (P : Nat → Nat → Int) (ds : List (Int × Int)) (N : Nat) : Nat → Nat → Nat → Int
  | 0 => zeros
  | a + 1 => wmI P ds a (wmO P ds N a) N
def wmRes (S kk N : Nat) (ds : List (Int × Int)) : List (List Int) := if kk = 0 then tab S unitM else tab S (wmO (pwZ N (edgeM ds) (kk - 1)) ds N N)
theorem wmRes_len (S kk N : Nat) (ds : List (Int × Int)) : (wmRes S kk N ds).length = S := by unfold wmRes; split <;> simp [tab_len]
theorem wmRes_lens (S kk N : Nat) (ds : List (Int × Int)) : lens (wmRes S kk N ds) = S * S := by unfold wmRes; split <;> simp [tab_lens]
def wmOf (s : Int) (xss : List (List Int)) (k : Int) : List (List Int) × Int :=
  if ccode s xss k 0 12 = 0 then (wmRes s.toNat k.toNat (2 * xss.length) (dirE (pairs xss)), 0) else ([], ccode s xss k 0 12)
theorem wmOf_lens (s : Int) (xss : List (List Int)) (k : Int) : lens (wmOf s xss k).1 ≤ 1000 := by
  unfold wmOf
  by_cases h : ccode s xss k 0 12 = 0
  · rw [if_pos h]
    have h1 := grB_iff (ccode_ok h).1
    have h2 : s.toNat ≤ 8 := by omega
    have h3 := Nat.mul_le_mul h2 h2
    simp only [wmRes_lens]; omega
  · rw [if_neg h]; simp [lens]
/-- the ends of directed edges are vertices -/
theorem dirE_in {s : Int} {xss : List (List Int)} (hg : grB s xss = true) {m : Nat} (hm : m < (dirE (pairs xss)).length) : (0 ≤ ((dirE (pairs xss)).getD m (0, 0)).1 ∧ ((dirE (pairs xss)).getD m (0, 0)).1 < s) ∧ (0 ≤ ((dirE (pairs xss)).getD m (0, 0)).2 ∧ ((dirE (pairs xss)).getD m (0, 0)).2 < s) := by
  obtain ⟨_, _, _, h4⟩ := grB_iff hg
  rw [dirE_len, pairs_len] at hm
  obtain ⟨q, hq⟩ : ∃ q, m = 2 * q ∨ m = 2 * q + 1 := ⟨m / 2, by omega⟩
  rcases hq with rfl | rfl
  · have := h4 q (by omega)
    rw [dirE_even, pairs_getD]
    simp only
    omega
  · have := h4 q (by omega)
    rw [dirE_odd _ _ (by rw [pairs_len]; omega), pairs_getD]
    simp only
    omega

/-- rows of zeros, the first k ones with a 1 on the diagonal where told -/
def zu (z : Bool) : Nat → Nat → Int := if z then unitM else zeros
theorem zu_row (z : Bool) {S k : Nat} (h : k < S) : (if z then ((madeCells #[Value.int .i64 0] S).toList).set k (.int .i64 1) else (madeCells #[Value.int .i64 0] S).toList) = ((List.range S).map (zu z k)).map (Value.int .i64) := by
  cases z with
  | true =>
    rw [if_pos rfl, toList_madeCells_one]
    apply List.ext_getElem
    · simp
    · intro j h1 h2
      rw [List.getElem_set]
      by_cases e : k = j
      · subst e; simp [zu, unitM]
      · simp [zu, unitM, e]
  | false =>
    rw [if_neg (by simp), toList_madeCells_one]
    apply List.ext_getElem
    · simp
    · intro j h1 h2
      simp [zu, zeros]
theorem zu_I64 (z : Bool) (i j : Nat) : I64 (zu z i j) := by
  cases z <;> simp [zu, zeros, unitM]
  · exact I64_zero
  · split <;> (unfold I64; omega)

theorem OwR.ent2 {lo hi : Nat} {w : World} {a : Option Addr} {n c : Nat} {f : Nat → Nat → Int} (h : OwR lo hi w (.slice a n c) (tab n f)) {i j : Nat} (hi' : i < n) (hj : j < n) :
    ∃ g b cb, a = some ⟨g, 0, none⟩ ∧ w.cell? ⟨g, i, none⟩ = some (.slice (some ⟨b, 0, none⟩) n cb) ∧ w.cell? ⟨b, j, none⟩ = some (.int .i64 (f i j)) ∧ w.frozen? ⟨b, j, none⟩ = false ∧ lo ≤ b ∧ b < hi ∧ b < w.heap.size ∧ g ≠ b ∧
      ∀ x, I64 x → OwR lo hi (w.setCell ⟨b, j, none⟩ (.int .i64 x)) (.slice a n c) (tab n (put f i j x)) := by
  obtain ⟨g, c', b, cb, e1, e2, e3, e4, e5, e6, e7, _, _, _, e9, _, e8⟩ := h.store (k := i) (j := j) (by rw [tab_len]; exact hi') (by rw [tab_rlen f hi']; exact hj)
  rw [tab_rlen f hi'] at e2
  rw [tab_get f hi' hj] at e3
  simp only [Value.slice.injEq] at e1
  refine ⟨g, b, cb, e1.1, e2, e3, e4, e5, e6, e7, e9, fun x hx => ?_⟩
  have := e8 x hx
  rw [tab_set f x hi' hj] at this
  exact this

set_option maxRecDepth 100000 in
set_option maxHeartbeats 6400000 in
theorem specWM_yes {lo hi : Nat} (S : Nat) (a : Option Addr) (n c : Nat) (xss : List (List Int)) (kk : Nat) (w : World) (h : RdR lo hi w (.slice a n c) xss) (hn : xss.length = n) (hg : grB (S : Int) xss = true) (hk12 : kk ≤ 12) :
    Calls Try.prog 52 #[.agg #[.int .i64 (S : Int), .slice a n c], .int .i64 kk] w fun e w' => ∃ a' c', e = .returned (.tuple #[.slice a' S c', .int .i64 0]) ∧ OwR w.heap.size w'.heap.size w' (.slice a' S c') (wmRes S kk (2 * n) (dirE (pairs xss))) ∧ Below w.heap.size w w' := by
  obtain ⟨i0, hi', z0, z1, z2⟩ := info_parts Try.info2
  obtain ⟨j0, hj', y0, y1, y2⟩ := info_parts Try.info25
  have hg4 := grB_iff hg
  have hn10 : n ≤ 10 := by omega
  have hS8 : S ≤ 8 := by omega
  have HR := Lib.hid h
  have hlc : ccode (S : Int) xss (kk : Int) 0 12 = 0 := by unfold ccode; rw [if_pos hg, if_pos (by omega)]
  have hLE := @l03Length lo hi (S : Int) a n c xss (kk : Int) 0
  rw [hlc] at hLE
  have HLE := Lib.hid (fun W' (h' : RdR lo hi W' (.slice a n c) xss) => hLE W' h' hn)
  have HEN := Lib.hid (fun W' (h' : RdR lo hi W' (.slice a n c) xss) k h0 h1 => l01Ends (S : Int) a n c xss W' h' hn hg k h0 h1)
  have HRO := Lib.hid (fun W' (h' : RdR lo hi W' (.slice a n c) xss) hk1 => l03Rows (S : Int) a n c xss kk W' h' hn hg hk1 hk12)
  have HDI := Lib.hid (fun m (hm : m < (dirE (pairs xss)).length) => dirE_in hg hm)
  have hdl : (dirE (pairs xss)).length = 2 * n := by rw [dirE_len, pairs_len, hn]
  generalize dirE (pairs xss) = ds at HEN HRO HDI hdl ⊢
  obtain ⟨N, hN⟩ : ∃ N, N = 2 * n := ⟨_, rfl⟩
  rw [← hN] at HRO hdl ⊢
  have HDL := Lib.hid hdl
  have hN20 : N ≤ 20 := by omega
  have HM3 := Lib.hid (show 2 * (n : Int) = (N : Int) by omega)
  obtain ⟨z, hz⟩ : ∃ z : Bool, z = decide (kk = 0) := ⟨_, rfl⟩
  have HTL := Lib.hid (show (tab S (zu z)).length = S from tab_len _ _)
  have HZ := Lib.hid hz
  clear h hn hg hg4 hlc hLE hdl hN hz
  go_enter Try.func52, Try.ntmps52
  go_wp2_with fail
  refine calls_gen (fun W => Below w.heap.size w W ∧ w.heap.size < W.heap.size ∧ W.cell? ⟨w.heap.size, 0, none⟩ = some (.int .i64 (S : Int)) ∧ W.cell? ⟨w.heap.size, 1, none⟩ = some (.slice a n c)) ⟨(Below.refl _ _).alloc (Nat.le_refl _) _, by simp, by go_simp, by go_simp⟩ ?_
  rintro W ⟨hB, hzz, k0, k1⟩
  refine (HLE.out W (HR.out.below hB)).mono ?_
  rintro e w1 ⟨rfl, b1⟩
  replace hB := hB.next b1
  replace k0 := b1.keep k0
  replace k1 := b1.keep k1
  obtain ⟨B, hB0⟩ : ∃ B, B = w.heap.size := ⟨_, rfl⟩
  have hzB : B < w1.heap.size := by have := b1.size; omega
  rw [← hB0] at k0 k1 hB ⊢
  have HB0 := Lib.hid hB0
  have hbA := (Below.refl w1.heap.size w1).alloc (Nat.le_refl _) (.cells #[] 25)
  have hl0 := World.ownsRow_lit (base := w1.heap.size) (e := 25) (size := 1) w1 #[] 0 (Nat.le_refl _) (by unfold maxLen; omega) rfl
  have hP0 : OwP w1.heap.size B (w1.alloc (.cells #[] 25)) w1.heap.size 0 0 [] [] := OwP.empty hl0 (by omega)
  have HP0 := Lib.hid (⟨hP0, hB.trans (hbA.mono (by omega)), by show B < (w1.alloc (.cells #[] 25)).heap.size; simp; omega, hbA.keep k0, hbA.keep k1⟩ : _ ∧ Below B w (w1.alloc (.cells #[] 25)) ∧ B < (w1.alloc (.cells #[] 25)).heap.size ∧ _ ∧ _)
  obtain ⟨L, hL⟩ : ∃ L, L = w1.heap.size := ⟨_, rfl⟩
  have hBL : B < L := by omega
  clear hl0 hP0 k0 k1 hB hzz hbA hB0 b1 HLE hzB
  go_wp2
  rw [← hL] at HP0 ⊢
  generalize w1.alloc (.cells #[] 25) = V at HP0 ⊢
  clear hL
  go_loopw [8, 7] (fun y v wr => ∃ (k : Nat) (rvs : List Value) (g cc : Nat), k ≤ S ∧ y = .int .i64 k ∧ v = .slice (some ⟨g, 0, none⟩) k cc ∧ OwP L B wr g k cc rvs ((tab S (zu z)).take k) ∧ Below B w wr ∧ B < wr.heap.size ∧ wr.cell? ⟨B, 0, none⟩ = some (.int .i64 (S : Int)) ∧ wr.cell? ⟨B, 1, none⟩ = some (.slice a n c)) (fun y _ _ => S - (intOf y).toNat)
  case atStart => exact ⟨0, [], L, 0, Nat.zero_le _, rfl, rfl, HP0.out⟩
  case round =>
    clear HP0
    obtain ⟨k, rvs, g, cc, hk, rfl, rfl, hP, hB, hzr, k0, k1⟩ := hrel
    obtain ⟨U, rfl⟩ : ∃ U, U = wr := ⟨_, rfl⟩
    by_cases hlt : k < S
    · have HST := Lib.hid (tab_take (zu z) hlt)
      have HPB := Lib.hid (⟨hP, hB, hzr, k0, k1⟩ : _ ∧ _ ∧ _ ∧ _ ∧ _)
      clear hP hB hzr
      go_wp2_with (at_make; refine wpList_make_full _ rfl _ _ 25 rfl U.heap.size 2 i0 (.int .i64 0) 1 Try.underlying25 hi' z0 z1 _ _ _ _ S rfl rfl rfl rfl ?c1 ?c2 ?c3 ?_)
      case c1 => rw [z2]; omega
      case c2 => unfold maxLen; omega
      case c3 => exact Nat.le_refl _
      intro w2 hown hgr
      have hb1 : Below U.heap.size U w2 := (Below.refl _ _).grown hgr (Nat.le_refl _) (fun j hj => by cases hj)
      obtain ⟨R, hR⟩ : ∃ R, R = U.heap.size := ⟨_, rfl⟩
      have HRR := Lib.hid hR
      rw [← hR] at hown hb1 ⊢
      have h3 := (hown.cellAt k (by omega)).trans (zero_get hlt)
      have h4 := hown.frozenAt k
      have hsto := (hown.stored k (.int .i64 1)).1
      have hzu := zu_row z hlt
      have HRES : Hid (∀ w3, (w3 = (if z = true then w2.setCell ⟨R, k, none⟩ (.int .i64 1) else w2)) → w3.ownsRow R 2 1 (.slice (some ⟨R, 0, none⟩) S S) S (((List.range S).map (zu z k)).map (Value.int .i64)) ∧ Below R U w3) := Lib.hid (fun w3 e => by
        subst e
        rw [← hzu]
        cases z with
        | true => exact ⟨hsto, hb1.setCell (p := ⟨R, k, none⟩) (Nat.le_refl _) _⟩
        | false => exact ⟨hown, hb1⟩)
      have HKK := Lib.hid (show z = true ↔ kk = 0 by rw [HZ.out]; simp)
      have HB2 := Lib.hid (show Below U.heap.size U w2 by rw [← HRR.out]; exact hb1)
      clear hsto hzu hown hb1 hgr hR k0 k1
      cases z with
      | true =>
        have hkk := HKK.out
        have hk0 : kk = 0 := hkk.1 rfl
        have hkb : ((kk : Int) == 0) = true := by simp [hk0]
        have hkb2 : (kk == 0) = true := by simp [hk0]
        have hkb3 : decide (kk = 0) = true := by simp [hk0]
        have hkb4 : decide ((kk : Int) = 0) = true := by simp [hk0]
        clear hk0
        obtain ⟨w3, hw3⟩ : ∃ w3, w3 = (w2.setCell ⟨R, k, none⟩ (.int .i64 1)) := ⟨_, rfl⟩
        obtain ⟨hown, hb⟩ := HRES.out w3 (by rw [hw3]; rfl)
        have hO : OwI R w3.heap.size w3 (.slice (some ⟨R, 0, none⟩) S S) ((List.range S).map (zu true k)) := OwI.mk hown (by omega) (fun x hx => by
          simp only [List.mem_map] at hx
          obtain ⟨j, _, rfl⟩ := hx
          exact zu_I64 _ k j)
        obtain ⟨hP, hB, hzr, k0, k1⟩ := HPB.out
        rw [HRR.out] at hO hb
        have hownV := (hP.below hb).out.alloc (.cells #[.slice (some ⟨R, 0, none⟩) S S] 25)
        have hnews := news_one w3 25 (.slice (some ⟨R, 0, none⟩) S S)
        have hszw := hb.size
        have hlt2 : L ≤ g ∧ g < U.heap.size := hP.lt
        rw [← HRR.out] at hO
        have HP := Lib.hid (⟨hO, hP, hB, hb, k0, k1⟩ : _ ∧ _ ∧ _ ∧ _ ∧ _ ∧ _)
        have kb0 := (show Below U.heap.size U w2 from HB2.out).keep k0
        have kb1 := HB2.out.keep k1
        clear hO hP hB hown hb k0 k1 hkk HRES
        rw [hw3] at hownV hnews
        rw [World.size_setCell] at hnews
        have HW3 := Lib.hid hw3
        have hsz2 : U.heap.size ≤ w2.heap.size := HB2.out.size
        clear hw3
        go_wp2_with (at_builtin; refine wpList_append_lies _ rfl _ _ 22 rfl L 25 j0 (.slice none 0 0) 1 24 Try.underlying22 hj' y0 y1 y2 rfl (by decide) _ _ _ rfl hownV ⟨w2.heap.size, 0, none⟩ 1 1 [.slice (some ⟨R, 0, none⟩) S S] rfl rfl ?ct ?dt (by decide) ?et ?ft ?gt _ rfl ?_)
        case dt => first | (intro u hu; simp at hu; subst hu; rfl) | rfl | simp
        case et => unfold maxLen; omega
        case ft => omega
        case gt => omega
        intro g2 c3 w4 hown3 hgr hlie hlt3
        rw [← HW3.out] at hgr
        have hsw : w3.heap.size = w2.heap.size := by rw [HW3.out]; exact World.size_setCell _ _ _
        rw [← hsw] at hlie
        obtain ⟨hO, hP, hB, hb, k0, k1⟩ := HP.out
        rw [HRR.out] at hO hown3
        have hV3 := hP.snocF (hi := w3.heap.size) (by omega) hb hO hown3 hgr (hlie.imp id (fun e => by rw [e]; simp))
        have hb3 : Chg g (g + 1) U w4 := snocC hb hgr
        rw [← HST.out] at hV3
        have hBg : B < g := by omega
        have hB3 : Below B w w4 := hB.trans (hb3.below (by omega) (by omega))
        have HF := Lib.hid (⟨hV3, hB3, Nat.lt_of_lt_of_le HPB.out.2.2.1 hb3.size, hb3.cell HPB.out.2.2.2.1 (.inl hBg), hb3.cell HPB.out.2.2.2.2 (.inl hBg)⟩ : _ ∧ _ ∧ _ ∧ _ ∧ _)
        clear hO hP hB hb k0 k1 hV3 hb3 hB3 hown3 hgr hlie hnews hownV
        go_wp2
        go_roundw
        case rel => exact ⟨k+1, _, g2, c3, by omega, by go_num, rfl, HF.out⟩
        case measure => simp [intOf]; omega
      | false =>
        have hkk := HKK.out
        have hk0 : ¬ kk = 0 := fun e => by have := hkk.2 e; cases this
        have hkb : ((kk : Int) == 0) = false := by simpa using hk0
        have hkb2 : (kk == 0) = false := by simpa using hk0
        have hkb3 : decide (kk = 0) = false := by simpa using hk0
        have hkb4 : decide ((kk : Int) = 0) = false := by simpa using hk0
        clear hk0
        obtain ⟨w3, hw3⟩ : ∃ w3, w3 = (w2) := ⟨_, rfl⟩
        obtain ⟨hown, hb⟩ := HRES.out w3 (by rw [hw3]; rfl)
        have hO : OwI R w3.heap.size w3 (.slice (some ⟨R, 0, none⟩) S S) ((List.range S).map (zu false k)) := OwI.mk hown (by omega) (fun x hx => by
          simp only [List.mem_map] at hx
          obtain ⟨j, _, rfl⟩ := hx
          exact zu_I64 _ k j)
        obtain ⟨hP, hB, hzr, k0, k1⟩ := HPB.out
        rw [HRR.out] at hO hb
        have hownV := (hP.below hb).out.alloc (.cells #[.slice (some ⟨R, 0, none⟩) S S] 25)
        have hnews := news_one w3 25 (.slice (some ⟨R, 0, none⟩) S S)
        have hszw := hb.size
        have hlt2 : L ≤ g ∧ g < U.heap.size := hP.lt
        rw [← HRR.out] at hO
        have HP := Lib.hid (⟨hO, hP, hB, hb, k0, k1⟩ : _ ∧ _ ∧ _ ∧ _ ∧ _ ∧ _)
        have kb0 := (show Below U.heap.size U w2 from HB2.out).keep k0
        have kb1 := HB2.out.keep k1
        clear hO hP hB hown hb k0 k1 hkk HRES
        rw [hw3] at hownV hnews
        have HW3 := Lib.hid hw3
        have hsz2 : U.heap.size ≤ w2.heap.size := HB2.out.size
        clear hw3
        go_wp2_with (at_builtin; refine wpList_append_lies _ rfl _ _ 22 rfl L 25 j0 (.slice none 0 0) 1 24 Try.underlying22 hj' y0 y1 y2 rfl (by decide) _ _ _ rfl hownV ⟨(w2).heap.size, 0, none⟩ 1 1 [.slice (some ⟨R, 0, none⟩) S S] rfl rfl ?cf ?df (by decide) ?ef ?ff ?gf _ rfl ?_)
        case cf => exact hnews
        case df => first | (intro u hu; simp at hu; subst hu; rfl) | rfl | simp
        case ef => unfold maxLen; omega
        case ff => omega
        case gf => rw [← HW3.out]; simp; omega
        intro g2 c3 w4 hown3 hgr hlie hlt3
        rw [← HW3.out] at hgr hlie
        obtain ⟨hO, hP, hB, hb, k0, k1⟩ := HP.out
        rw [HRR.out] at hO hown3
        have hV3 := hP.snocF (hi := w3.heap.size) (by omega) hb hO hown3 hgr (hlie.imp id (fun e => by rw [e]; simp))
        have hb3 : Chg g (g + 1) U w4 := snocC hb hgr
        rw [← HST.out] at hV3
        have hBg : B < g := by omega
        have hB3 : Below B w w4 := hB.trans (hb3.below (by omega) (by omega))
        have HF := Lib.hid (⟨hV3, hB3, Nat.lt_of_lt_of_le HPB.out.2.2.1 hb3.size, hb3.cell HPB.out.2.2.2.1 (.inl hBg), hb3.cell HPB.out.2.2.2.2 (.inl hBg)⟩ : _ ∧ _ ∧ _ ∧ _ ∧ _)
        clear hO hP hB hb k0 k1 hV3 hb3 hB3 hown3 hgr hlie hnews hownV
        go_wp2
        go_roundw
        case rel => exact ⟨k+1, _, g2, c3, by omega, by go_num, rfl, HF.out⟩
        case measure => simp [intOf]; omega
    · obtain rfl : k = S := by omega
      rw [List.take_of_length_le (by rw [HTL.out]; exact Nat.le_refl _)] at hP
      have hbig : k ≤ 8796093022208 := by omega
      have hO := hP.owr hbig
      clear hP
      have hkk : z = true ↔ kk = 0 := by rw [HZ.out]; simp
      cases z with
      | true =>
        have hk0 : kk = 0 := hkk.1 rfl
        have hkb : ((kk : Int) == 0) = true := by simp [hk0]
        have hkb2 : (kk == 0) = true := by simp [hk0]
        have hkb3 : decide (kk = 0) = true := by simp [hk0]
        have hkb4 : decide ((kk : Int) = 0) = true := by simp [hk0]
        have hlw : w.heap.size ≤ L := by rw [← HB0.out]; omega
        rw [HB0.out] at hB
        have HK0 := Lib.hid hk0
        have HF := Lib.hid (⟨hO.mono hlw (Nat.le_refl _), hB⟩ : OwR w.heap.size U.heap.size U (.slice (some ⟨g, 0, none⟩) k cc) (tab k (zu true)) ∧ _)
        clear hO hB hk0 hkk
        go_wp2
        go_ret2
        refine ⟨some ⟨g, 0, none⟩, cc, rfl, ?_, HF.out.2⟩
        unfold wmRes
        rw [if_pos HK0.out]
        exact HF.out.1
      | false =>
        have hk0 : ¬ kk = 0 := fun e => by have := hkk.2 e; cases this
        have hkb : ((kk : Int) == 0) = false := by simpa using hk0
        have hkb2 : (kk == 0) = false := by simpa using hk0
        have hkb3 : decide (kk = 0) = false := by simpa using hk0
        have hkb4 : decide ((kk : Int) = 0) = false := by simpa using hk0
        have HK0 := Lib.hid hk0
        have hro := HRO.out U (HR.out.below (by rw [HB0.out] at hB; exact hB)) (by omega)
        obtain ⟨P, hP⟩ : ∃ P, P = pwZ N (edgeM ds) (kk - 1) := ⟨_, rfl⟩
        rw [← hP] at hro
        have HPP := Lib.hid hP
        have HO := Lib.hid (⟨hO, hB, k0, k1⟩ : _ ∧ _ ∧ _ ∧ _)
        clear hO hB hk0 hkk hP HRO
        go_wp2_with fail
        refine hro.mono ?_
        clear hro
        rintro e w5 ⟨a5, c5, rfl, o5, b5⟩
        obtain ⟨hO, hB, k0', k1'⟩ := HO.out
        obtain ⟨hi5, hr5⟩ : ∃ hi5, RdR U.heap.size hi5 w5 (.slice a5 N c5) (tab N P) := ⟨_, o5.rd⟩
        have HP0 := Lib.hid (⟨hO.below b5, hr5, hB.trans (b5.mono (Nat.le_of_lt hzr)), b5.keep k0', b5.keep k1', b5.size⟩ : OwR L U.heap.size w5 (.slice (some ⟨g, 0, none⟩) k cc) (tab k (wmO P ds N 0)) ∧ RdR U.heap.size hi5 w5 (.slice a5 N c5) (tab N P) ∧ Below B w w5 ∧ _ ∧ _ ∧ U.heap.size ≤ w5.heap.size)
        clear hO hB k0 k1 k0' k1' o5 b5 HO
        clear hr5
        obtain ⟨H1, hH1⟩ : ∃ H, H = U.heap.size := ⟨_, rfl⟩
        rw [← hH1] at HP0
        have hBH : B < H1 := by omega
        clear hH1
        go_wp2
        go_loopw [11] (fun y wr => ∃ f : Nat, f ≤ N ∧ y = .int .i64 f ∧ OwR L H1 wr (.slice (some ⟨g, 0, none⟩) k cc) (tab k (wmO P ds N f)) ∧ RdR H1 hi5 wr (.slice a5 N c5) (tab N P) ∧ Below B w wr ∧ wr.cell? ⟨B, 0, none⟩ = some (.int .i64 (k : Int)) ∧ wr.cell? ⟨B, 1, none⟩ = some (.slice a n c) ∧ H1 ≤ wr.heap.size) (fun y _ => N - (intOf y).toNat)
        case atStart => exact ⟨0, Nat.zero_le _, rfl, HP0.out⟩
        case round =>
          clear HP0
          obtain ⟨f, hf, rfl, hO, hRD, hB, k0, k1, hHz⟩ := hrel
          by_cases hlf : f < N
          · obtain ⟨hd1, _⟩ := HDI.out f (by rw [HDL.out]; exact hlf)
            have HE1 := HEN.out wr (HR.out.below (by rw [HB0.out] at hB; exact hB)) (f : Int) (by omega) (by rw [HM3.out]; omega)
            rw [Int.toNat_natCast] at HE1
            have hwo : wmO P ds N (f + 1) = wmI P ds f (wmO P ds N f) N := rfl
            have hwi : ∀ q, wmI P ds f (wmO P ds N f) (q + 1) = put (wmI P ds f (wmO P ds N f) q) (ds.getD f (0, 0)).1.toNat (ds.getD q (0, 0)).2.toNat (wrap64 (wmI P ds f (wmO P ds N f) q (ds.getD f (0, 0)).1.toNat (ds.getD q (0, 0)).2.toNat + P f q)) := fun q => rfl
            have hw0 : wmI P ds f (wmO P ds N f) 0 = wmO P ds N f := rfl
            generalize hF0 : wmI P ds f (wmO P ds N f) = F at hwo hwi hw0
            rw [← hw0] at hO
            obtain ⟨st, hst⟩ : ∃ st : Nat, (ds.getD f (0, 0)).1 = (st : Int) := ⟨(ds.getD f (0, 0)).1.toNat, by omega⟩
            rw [hst] at HE1 hwi hd1
            rw [Int.toNat_natCast] at hwi
            have hsl : st < k := by omega
            generalize (ds.getD f (0, 0)).2 = e1 at HE1
            have HWI := Lib.hid hwi
            have HWO := Lib.hid hwo
            have HO := Lib.hid (⟨hO, hRD, hB, hHz⟩ : _ ∧ _ ∧ _ ∧ _)
            clear hwo hwi hw0 hst hd1 hF0 hO hRD hB
            go_wp2_with fail
            refine HE1.mono ?_
            clear HE1
            rintro e w6 ⟨rfl, b6⟩
            obtain ⟨hO, hRD, hB, _⟩ := HO.out
            replace hO := hO.below b6
            replace hRD := hRD.below b6
            have hBw : B ≤ wr.heap.size := by omega
            replace hB := hB.trans (b6.mono hBw)
            replace k0 := b6.keep k0
            replace k1 := b6.keep k1
            replace hHz := Nat.le_trans hHz b6.size
            obtain ⟨g', b, cb, hgg, g1, _, _, _, _, _, _⟩ := hO.ent hsl hsl
            obtain rfl : g = g' := by simpa using hgg
            have hi0 : (0 : Int) ≤ (st : Int) := by omega
            have hi1 : (st : Int) < (k : Int) := by omega
            have HW := Lib.hid (⟨hO, g1, hRD, hB, k0, k1, hHz⟩ : _ ∧ _ ∧ _ ∧ _ ∧ _ ∧ _ ∧ _)
            clear hO hRD hB k0 k1 b6 HO hgg hHz hBw
            go_wp2
            clear g1
            go_loopw [15] (fun y wr' => ∃ q : Nat, q ≤ N ∧ y = .int .i64 q ∧ OwR L H1 wr' (.slice (some ⟨g, 0, none⟩) k cc) (tab k (F q)) ∧ wr'.cell? ⟨g, st, none⟩ = some (.slice (some ⟨b, 0, none⟩) k cb) ∧ RdR H1 hi5 wr' (.slice a5 N c5) (tab N P) ∧ Below B w wr' ∧ wr'.cell? ⟨B, 0, none⟩ = some (.int .i64 (k : Int)) ∧ wr'.cell? ⟨B, 1, none⟩ = some (.slice a n c) ∧ H1 ≤ wr'.heap.size) (fun y _ => N - (intOf y).toNat)
            case atStart => exact ⟨0, Nat.zero_le _, rfl, HW.out⟩
            case round =>
              rename_i hrel
              clear HW
              obtain ⟨q, hq, rfl, hO, g1, hRD, hB, k0, k1, hHz⟩ := hrel
              by_cases hlq : q < N
              · obtain ⟨_, hd2⟩ := HDI.out q (by rw [HDL.out]; exact hlq)
                have HE1 := HEN.out wr (HR.out.below (by rw [HB0.out] at hB; exact hB)) (q : Int) (by omega) (by rw [HM3.out]; omega)
                rw [Int.toNat_natCast] at HE1
                have hwi := HWI.out q
                obtain ⟨en, hen⟩ : ∃ en : Nat, (ds.getD q (0, 0)).2 = (en : Int) := ⟨(ds.getD q (0, 0)).2.toNat, by omega⟩
                rw [hen] at HE1 hwi hd2
                rw [Int.toNat_natCast] at hwi
                have hel : en < k := by omega
                generalize (ds.getD q (0, 0)).1 = e0 at HE1
                have HWQ := Lib.hid hwi
                have HO := Lib.hid (⟨hO, g1, hRD, hB, k0, k1, hHz⟩ : _ ∧ _ ∧ _ ∧ _ ∧ _ ∧ _ ∧ _)
                clear hwi hd2 hen hO hRD hB g1
                go_wp2_with fail
                refine HE1.mono ?_
                clear HE1
                rintro e w7 ⟨rfl, b7⟩
                clear k0 k1
                obtain ⟨hO, g1, hRD, hB, k0, k1, hHz'⟩ := HO.out
                replace hO := hO.below b7
                replace g1 := b7.keep g1
                replace hRD := hRD.below b7
                have hBw : B ≤ wr.heap.size := by omega
                replace hB := hB.trans (b7.mono hBw)
                replace k0 := b7.keep k0
                replace k1 := b7.keep k1
                have hHz7 := Nat.le_trans hHz' b7.size
                obtain ⟨ba, oa, bA, oA, cA, rfl, a1, a2⟩ := hRD.ent (i := f) (j := q) hlf hlq
                obtain ⟨g', b', cb', hgg, h1, h2, h3, h4, h5, h6, h7, h8⟩ := (hO.qt ((Qt.refl w7).drew)).ent2 hsl hel
                obtain rfl : g = g' := by simpa using hgg
                obtain ⟨rfl, rfl⟩ : b = b' ∧ cb = cb' := by
                  have e9 : some (Value.slice (some ⟨b, 0, none⟩) k cb) = some (Value.slice (some ⟨b', 0, none⟩) k cb') := g1.symm.trans h1
                  simpa using e9
                have hst2 := HWQ.out
                generalize F q st en = d at h2 hst2
                generalize P f q = x at a2 hst2
                obtain ⟨t, ht⟩ : ∃ t, t = wrap64 (d + x) := ⟨_, rfl⟩
                rw [← ht] at hst2
                have hfin := h8 t (by rw [ht]; exact wrap_I64 _)
                rw [← hst2] at hfin
                have t1 : IntKind.i64.wrap (d + x) = t := by rw [IntWalk.i64_left, ht]
                have t2 : wrap64 (d + x) = t := ht.symm
                have hch : Chg b (b + 1) w7.drew (w7.drew.setCell ⟨b, en, none⟩ (.int .i64 t)) := (Chg.refl b (b + 1) w7.drew).setCell (p := ⟨b, en, none⟩) ⟨Nat.le_refl _, Nat.lt_succ_self _⟩ _
                have hBb : B < b := by omega
                have HF := Lib.hid (⟨hfin, hch.cell (show w7.drew.cell? ⟨g, st, none⟩ = _ from g1) (by show g < b ∨ b + 1 ≤ g; omega), (hRD.qt ((Qt.refl w7).drew)).chg hch (.inr (by omega)), hB.drew.setCell (p := ⟨b, en, none⟩) (by show B ≤ b; omega) _, hch.cell (show w7.drew.cell? ⟨B, 0, none⟩ = _ from k0) (.inl hBb), hch.cell (show w7.drew.cell? ⟨B, 1, none⟩ = _ from k1) (.inl hBb), by rw [World.size_setCell]; exact hHz7⟩ : _ ∧ _ ∧ _ ∧ Below B w (w7.drew.setCell ⟨b, en, none⟩ (.int .i64 t)) ∧ _ ∧ _ ∧ H1 ≤ (w7.drew.setCell ⟨b, en, none⟩ (.int .i64 t)).heap.size)
                have g2' : w7.cell? ⟨b, en, none⟩ = some (.int .i64 d) := h2
                have hi2 : (0 : Int) ≤ (en : Int) := by omega
                have hi3 : (en : Int) < (k : Int) := by omega
                clear ht hst2 hfin hch hO hRD hB k0 k1 b7 HO hgg h1 h8 g1
                go_wp2
                go_still_tail 15, (by kernel_rfl)
                change wpList _ _ _ _ _ w7.drew
                clear g2' a1 a2 t1 t2
                generalize w7.drew = Y at HF h2 h3 ⊢
                go_wp2
                go_roundw
                case rel => exact ⟨q+1, by omega, by go_num, HF.out⟩
                case measure => simp [intOf]; omega
              · obtain rfl : q = N := by omega
                rw [← HWO.out] at hO
                have HF := Lib.hid (⟨hO, hRD, hB, k0, k1, hHz⟩ : _ ∧ _ ∧ _ ∧ _ ∧ _ ∧ _)
                clear hO hRD hB k0 k1 g1
                go_wp2
                go_roundw
                case rel => exact ⟨f+1, by omega, by go_num, HF.out⟩
                case measure => simp [intOf]; omega
          · obtain rfl : f = N := by omega
            have hlw : w.heap.size ≤ L := by rw [← HB0.out]; omega
            rw [HB0.out] at hB
            have HF := Lib.hid (⟨hO.mono hlw hHz, hB⟩ : OwR w.heap.size wr.heap.size wr (.slice (some ⟨g, 0, none⟩) k cc) (tab k (wmO P ds f f)) ∧ _)
            clear hO hRD hB k0 k1
            go_wp2
            go_ret2
            refine ⟨some ⟨g, 0, none⟩, cc, rfl, ?_, HF.out.2⟩
            unfold wmRes
            rw [if_neg HK0.out, ← HPP.out]
            exact HF.out.1

end Go.Proofs.Ytgcidkcedfliiaa
