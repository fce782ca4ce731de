/- AdjacencyOf of the model; both sides. -/
import Derived.Test.YtnblhkhdilkbeaaDoorAdj
import Derived.Test.YtnblhkhdilkbeaaDoorCoreC
set_option linter.unusedSimpArgs false
set_option linter.unusedVariables false
namespace Go.Proofs.YtnblhkhdilkbeaaDoor
open Go.RowKit

/-- the rows behind the first k directed edges -/
def adZ (ds : List (Int × Int)) : Nat → Nat → Nat → Int
  | 0 => zeros
  | k + 1 => put (adZ ds k) (ds.getD k (0, 0)).1.toNat (ds.getD k (0, 0)).2.toNat (wrap64 (adZ ds k (ds.getD k (0, 0)).1.toNat (ds.getD k (0, 0)).2.toNat + 1))
theorem put_upd {f : Nat → Nat → Int} {p : Int → Int → Int} (h : ∀ i j : Nat, f i j = p i j) {a b : Int} (ha : 0 ≤ a) (hb : 0 ≤ b) : ∀ i j : Nat, put f a.toNat b.toNat (wrap64 (f a.toNat b.toNat + 1)) i j = upd p a b i j := by
  intro i j
  unfold put upd
  have e1 : ((a.toNat : Nat) : Int) = a := by omega
  have e2 : ((b.toNat : Nat) : Int) = b := by omega
  have : (i = a.toNat ∧ j = b.toNat) ↔ ((i : Int) = a ∧ (j : Int) = b) := by omega
  simp only [this]
  rw [h, h, e1, e2]
theorem adZ_adS (es : List (Int × Int)) (hp : ∀ q, q < es.length → 0 ≤ (es.getD q (0, 0)).1 ∧ 0 ≤ (es.getD q (0, 0)).2) (q : Nat) (hq : q ≤ es.length) : ∀ i j : Nat, adZ (dirE es) (2 * q) i j = adS es q i j := by
  induction q with
  | zero => intro i j; rfl
  | succ q ih =>
    have h := ih (by omega)
    have hpq := hp q (by omega)
    have e : 2 * (q + 1) = 2 * q + 1 + 1 := by omega
    rw [e]
    intro i j
    show put (adZ (dirE es) (2 * q + 1)) _ _ _ i j = _
    rw [dirE_odd es q (by omega)]
    have h1 : ∀ i j : Nat, adZ (dirE es) (2 * q + 1) i j = upd (adS es q) (es.getD q (0, 0)).1 (es.getD q (0, 0)).2 i j := by
      intro i j
      show put (adZ (dirE es) (2 * q)) _ _ _ i j = _
      rw [dirE_even es q]
      exact put_upd h hpq.1 hpq.2 i j
    exact put_upd h1 hpq.2 hpq.1 i j

set_option maxRecDepth 100000 in
set_option maxHeartbeats 6400000 in
theorem l01Adjacency {lo hi : Nat} (S : Nat) (a : Option Addr) (n c : Nat) (xss : List (List Int)) (w : World) (h : RdR lo hi w (.slice a n c) xss) (hn : xss.length = n) (hg : grB (S : Int) xss = true) :
    Calls Tryd.prog 51 #[.agg #[.int .i64 (S : Int), .slice a n c]] w fun e w' => ∃ a' c', e = .returned (.slice a' S c') ∧ OwR w.heap.size w'.heap.size w' (.slice a' S c') (tab S (adZ (dirE (pairs xss)) (2 * n))) ∧ Below w.heap.size w w' := by
  obtain ⟨i0, hi', z0, z1, z2⟩ := info_parts Tryd.info2
  obtain ⟨j0, hj', y0, y1, y2⟩ := info_parts Tryd.info25
  have hg4 := grB_iff hg
  have hn10 : n ≤ 10 := by omega
  have hS8 : S ≤ 8 := by omega
  have HR := Lib.hid h
  have HEN := Lib.hid (fun W' (h' : RdR lo hi W' (.slice a n c) xss) k h0 h1 => l01Ends (S : Int) a n c xss W' h' hn hg k h0 h1)
  have HDI := Lib.hid (fun m (hm : m < (dirE (pairs xss)).length) => dirE_in hg hm)
  have hdl : (dirE (pairs xss)).length = 2 * n := by rw [dirE_len, pairs_len, hn]
  generalize dirE (pairs xss) = ds at HEN HDI hdl ⊢
  obtain ⟨N, hN⟩ : ∃ N, N = 2 * n := ⟨_, rfl⟩
  rw [← hN] at hdl ⊢
  have HDL := Lib.hid hdl
  have hN20 : N ≤ 20 := by omega
  have HM3 := Lib.hid (show 2 * (n : Int) = (N : Int) by omega)
  have HTL := Lib.hid (show (tab S (zu false)).length = S from tab_len _ _)
  clear h hn hg hg4 hdl hN
  go_enter Tryd.func51, Tryd.ntmps51
  go_wp2
  have hB := (Below.refl w.heap.size w).alloc (Nat.le_refl _) (.cells #[.int .i64 (S : Int), .slice a n c] 24)
  have k0 : (w.alloc (.cells #[.int .i64 (S : Int), .slice a n c] 24)).cell? ⟨w.heap.size, 0, none⟩ = some (.int .i64 (S : Int)) := by go_simp
  have k1 : (w.alloc (.cells #[.int .i64 (S : Int), .slice a n c] 24)).cell? ⟨w.heap.size, 1, none⟩ = some (.slice a n c) := by go_simp
  have hz : w.heap.size < (w.alloc (.cells #[.int .i64 (S : Int), .slice a n c] 24)).heap.size := by simp
  have hsz : w.heap.size + 1 = (w.alloc (.cells #[.int .i64 (S : Int), .slice a n c] 24)).heap.size := by simp
  rw [hsz]
  generalize w.alloc (.cells #[.int .i64 (S : Int), .slice a n c] 24) = W at hB k0 k1 hz ⊢
  obtain ⟨B, hB0⟩ : ∃ B, B = w.heap.size := ⟨_, rfl⟩
  rw [← hB0] at k0 k1 hz hB ⊢
  have HB0 := Lib.hid hB0
  have hbA := (Below.refl W.heap.size W).alloc (Nat.le_refl _) (.cells #[] 25)
  have hl0 := World.ownsRow_lit (base := W.heap.size) (e := 25) (size := 1) W #[] 0 (Nat.le_refl _) (by unfold maxLen; omega) rfl
  have hP0 : OwP W.heap.size B (W.alloc (.cells #[] 25)) W.heap.size 0 0 [] [] := OwP.empty hl0 (by omega)
  have HP0 := Lib.hid (⟨hP0, hB.trans (hbA.mono (by omega)), by show B < (W.alloc (.cells #[] 25)).heap.size; simp; omega, hbA.keep k0, hbA.keep k1⟩ : _ ∧ Below B w (W.alloc (.cells #[] 25)) ∧ B < (W.alloc (.cells #[] 25)).heap.size ∧ _ ∧ _)
  obtain ⟨L, hL⟩ : ∃ L, L = W.heap.size := ⟨_, rfl⟩
  have hBL : B < L := by omega
  rw [← hL] at HP0 ⊢
  generalize W.alloc (.cells #[] 25) = V at HP0 ⊢
  clear hl0 hP0 k0 k1 hB hz hL hbA hsz hB0
  go_loopw [4, 3] (fun y v wr => ∃ (k : Nat) (rvs : List Value) (g cc : Nat), k ≤ S ∧ y = .int .i64 k ∧ v = .slice (some ⟨g, 0, none⟩) k cc ∧ OwP L B wr g k cc rvs ((tab S (zu false)).take k) ∧ Below B w wr ∧ B < wr.heap.size ∧ wr.cell? ⟨B, 0, none⟩ = some (.int .i64 (S : Int)) ∧ wr.cell? ⟨B, 1, none⟩ = some (.slice a n c)) (fun y _ _ => S - (intOf y).toNat)
  case atStart => exact ⟨0, [], L, 0, Nat.zero_le _, rfl, rfl, HP0.out⟩
  case round =>
    clear HP0
    obtain ⟨k, rvs, g, cc, hk, rfl, rfl, hP, hB, hzr, k0, k1⟩ := hrel
    obtain ⟨U, rfl⟩ : ∃ U, U = wr := ⟨_, rfl⟩
    by_cases hlt : k < S
    · have HST := Lib.hid (tab_take (zu false) hlt)
      have HPB := Lib.hid (⟨hP, hB, hzr, k0, k1⟩ : _ ∧ _ ∧ _ ∧ _ ∧ _)
      clear hP hB hzr
      go_wp2_with (at_make; refine wpList_make_full _ rfl _ _ 25 rfl U.heap.size 2 i0 (.int .i64 0) 1 Tryd.underlying25 hi' z0 z1 _ _ _ _ S rfl rfl rfl rfl ?c1 ?c2 ?c3 ?_)
      case c1 => rw [z2]; omega
      case c2 => unfold maxLen; omega
      case c3 => exact Nat.le_refl _
      intro w2 hown hgr
      have hb1 : Below U.heap.size U w2 := (Below.refl _ _).grown hgr (Nat.le_refl _) (fun j hj => by cases hj)
      obtain ⟨R, hR⟩ : ∃ R, R = U.heap.size := ⟨_, rfl⟩
      have HRR := Lib.hid hR
      rw [← hR] at hown ⊢
      have hzu := zu_row false hlt
      rw [if_neg (by simp)] at hzu
      rw [hzu] at hown
      have hO : OwI R w2.heap.size w2 (.slice (some ⟨R, 0, none⟩) S S) ((List.range S).map (zu false k)) := OwI.mk hown (by omega) (fun x hx => by
        simp only [List.mem_map] at hx
        obtain ⟨j, _, rfl⟩ := hx
        exact zu_I64 _ k j)
      obtain ⟨hP, hB, hzr, _, _⟩ := HPB.out
      have hownV := (hP.below hb1).out.alloc (.cells #[.slice (some ⟨R, 0, none⟩) S S] 25)
      have hnews := news_one w2 25 (.slice (some ⟨R, 0, none⟩) S S)
      have hszw := hb1.size
      have hlt2 : L ≤ g ∧ g < U.heap.size := hP.lt
      have HP := Lib.hid (⟨hO, hP, hB, hb1⟩ : _ ∧ _ ∧ _ ∧ _)
      clear hO hP hB hown hb1 k0 k1 hzu hgr hR
      go_wp2_with (at_builtin; refine wpList_append_lies _ rfl _ _ 22 rfl L 25 j0 (.slice none 0 0) 1 24 Tryd.underlying22 hj' y0 y1 y2 rfl (by decide) _ _ _ rfl hownV ⟨w2.heap.size, 0, none⟩ 1 1 [.slice (some ⟨R, 0, none⟩) S S] rfl rfl ?d1 ?d2 (by decide) ?d3 ?d4 ?d5 _ rfl ?_)
      case d1 => exact hnews
      case d2 => first | (intro u hu; simp at hu; subst hu; rfl) | rfl | simp
      case d3 => unfold maxLen; omega
      case d4 => omega
      case d5 => simp; omega
      intro g2 c3 w4 hown3 hgr hlie hlt3
      obtain ⟨hO, hP, hB, hb⟩ := HP.out
      rw [HRR.out] at hO hown3
      have hV3 := hP.snocF (hi := w2.heap.size) (by omega) hb hO hown3 hgr (hlie.imp id (fun e => by rw [e]; simp))
      have hb3 : Chg g (g + 1) U w4 := snocC hb hgr
      rw [← HST.out] at hV3
      have hBg : B < g := by omega
      have hB3 : Below B w w4 := hB.trans (hb3.below (by omega) (by omega))
      have HF := Lib.hid (⟨hV3, hB3, Nat.lt_of_lt_of_le HPB.out.2.2.1 hb3.size, hb3.cell HPB.out.2.2.2.1 (.inl hBg), hb3.cell HPB.out.2.2.2.2 (.inl hBg)⟩ : _ ∧ _ ∧ _ ∧ _ ∧ _)
      clear hO hP hB hb hV3 hb3 hB3 hown3 hgr hlie hnews hownV
      go_wp2
      go_roundw
      case rel => exact ⟨k+1, _, g2, c3, by omega, by go_num, rfl, HF.out⟩
      case measure => simp [intOf]; omega
    · obtain rfl : k = S := by omega
      rw [List.take_of_length_le (by rw [HTL.out]; exact Nat.le_refl _)] at hP
      have hbig : k ≤ 8796093022208 := by omega
      have hO := hP.owr hbig
      have HP0 := Lib.hid (⟨hO, hB, k0, k1⟩ : OwR L U.heap.size U (.slice (some ⟨g, 0, none⟩) k cc) (tab k (adZ ds 0)) ∧ _ ∧ _ ∧ _)
      obtain ⟨H1, hH1⟩ : ∃ H, H = U.heap.size := ⟨_, rfl⟩
      rw [← hH1] at HP0
      have hBH : B < H1 := by omega
      have hHU : H1 ≤ U.heap.size := by omega
      clear hP hO hB hH1
      go_wp2
      clear k0 k1
      go_loopw [5] (fun y wr => ∃ f : Nat, f ≤ N ∧ y = .int .i64 f ∧ OwR L H1 wr (.slice (some ⟨g, 0, none⟩) k cc) (tab k (adZ ds f)) ∧ Below B w wr ∧ wr.cell? ⟨B, 0, none⟩ = some (.int .i64 (k : Int)) ∧ wr.cell? ⟨B, 1, none⟩ = some (.slice a n c) ∧ H1 ≤ wr.heap.size) (fun y _ => N - (intOf y).toNat)
      case atStart => exact ⟨0, Nat.zero_le _, rfl, HP0.out.1, HP0.out.2.1, HP0.out.2.2.1, HP0.out.2.2.2, hHU⟩
      case round =>
        rename_i hrel
        clear HP0
        obtain ⟨f, hf, rfl, hO, hB, k0, k1, hHz⟩ := hrel
        have hm3 := HM3.out
        by_cases hlf : f < N
        · obtain ⟨hd1, hd2⟩ := HDI.out f (by rw [HDL.out]; exact hlf)
          have HE1 := HEN.out wr (HR.out.below (by rw [HB0.out] at hB; exact hB)) (f : Int) (by omega) (by omega)
          rw [Int.toNat_natCast] at HE1
          have hst : adZ ds (f + 1) = put (adZ ds f) (ds.getD f (0, 0)).1.toNat (ds.getD f (0, 0)).2.toNat (wrap64 (adZ ds f (ds.getD f (0, 0)).1.toNat (ds.getD f (0, 0)).2.toNat + 1)) := rfl
          obtain ⟨st, hs1⟩ : ∃ st : Nat, (ds.getD f (0, 0)).1 = (st : Int) := ⟨(ds.getD f (0, 0)).1.toNat, by omega⟩
          obtain ⟨en, hs2⟩ : ∃ en : Nat, (ds.getD f (0, 0)).2 = (en : Int) := ⟨(ds.getD f (0, 0)).2.toNat, by omega⟩
          rw [hs1, hs2] at HE1 hst
          rw [hs1] at hd1
          rw [hs2] at hd2
          rw [Int.toNat_natCast, Int.toNat_natCast] at hst
          have hsl : st < k := by omega
          have hel : en < k := by omega
          have HST := Lib.hid hst
          have HO := Lib.hid (⟨hO, hB, k0, k1, hHz⟩ : _ ∧ _ ∧ _ ∧ _ ∧ _)
          have hfl : (f : Int) < (N : Int) := by omega
          have hm2 : IntKind.i64.wrap (2 * (n : Int)) = (N : Int) := by rw [hm3]; exact IntWalk.i64_in _ (by omega)
          have hm2' : wrap64 (2 * (n : Int)) = (N : Int) := by rw [hm3]; exact IntWalk.wrap64_in _ (by clear hm2; omega)
          clear hst hs1 hs2 hd1 hd2 hO hB hm3
          go_wp2_with fail
          clear hm2 hm2'
          refine HE1.mono ?_
          clear HE1 k0 k1
          rintro e w6 ⟨rfl, b6⟩
          obtain ⟨hO, hB, k0, k1, _⟩ := HO.out
          replace hO := hO.below b6
          have hBw : B ≤ wr.heap.size := by omega
          replace hB := hB.trans (b6.mono hBw)
          replace k0 := b6.keep k0
          replace k1 := b6.keep k1
          have hHz6 := Nat.le_trans hHz b6.size
          obtain ⟨g', b, cb, hgg, g1, g2, g3, g4, g5, g6, g7⟩ := hO.ent hsl hel
          obtain rfl : g = g' := by simpa using hgg
          have hst2 := HST.out
          generalize adZ ds f st en = d at g2 hst2
          obtain ⟨t, ht⟩ : ∃ t, t = wrap64 (d + 1) := ⟨_, rfl⟩
          rw [← ht] at hst2
          have hfin := g7 t (by rw [ht]; exact wrap_I64 _)
          rw [← hst2] at hfin
          have t1 : IntKind.i64.wrap (d + 1) = t := by rw [IntWalk.i64_left, ht]
          have t2 : wrap64 (d + 1) = t := ht.symm
          have hch : Chg b (b + 1) w6 (w6.setCell ⟨b, en, none⟩ (.int .i64 t)) := (Chg.refl b (b + 1) w6).setCell (p := ⟨b, en, none⟩) ⟨Nat.le_refl _, Nat.lt_succ_self _⟩ _
          have hBb : B < b := by omega
          have HF := Lib.hid (⟨hfin, hB.setCell (p := ⟨b, en, none⟩) (by show B ≤ b; omega) _, hch.cell k0 (.inl hBb), hch.cell k1 (.inl hBb), by rw [World.size_setCell]; exact hHz6⟩ : _ ∧ Below B w (w6.setCell ⟨b, en, none⟩ (.int .i64 t)) ∧ _ ∧ _ ∧ H1 ≤ (w6.setCell ⟨b, en, none⟩ (.int .i64 t)).heap.size)
          have hi0 : (0 : Int) ≤ (st : Int) := by omega
          have hi1 : (st : Int) < (k : Int) := by omega
          have hi2 : (0 : Int) ≤ (en : Int) := by omega
          have hi3 : (en : Int) < (k : Int) := by omega
          clear ht hst2 hfin hch hO hB k0 k1 b6 HO hgg g7
          go_wp2
          clear t1 t2
          go_roundw
          case rel => exact ⟨f+1, by omega, by go_num, HF.out⟩
          case measure => simp [intOf]; omega
        · obtain rfl : f = N := by omega
          have hlw : w.heap.size ≤ L := by rw [← HB0.out]; omega
          rw [HB0.out] at hB
          have HF := Lib.hid (⟨hO.mono hlw hHz, hB⟩ : OwR w.heap.size wr.heap.size wr (.slice (some ⟨g, 0, none⟩) k cc) (tab k (adZ ds f)) ∧ _)
          have hfl : ¬ (f : Int) < (f : Int) := by omega
          have hm2 : IntKind.i64.wrap (2 * (n : Int)) = (f : Int) := by rw [hm3]; exact IntWalk.i64_in _ (by omega)
          have hm2' : wrap64 (2 * (n : Int)) = (f : Int) := by rw [hm3]; exact IntWalk.wrap64_in _ (by clear hm2; omega)
          clear hO hB hm3 k0
          go_wp2
          go_ret
          exact ⟨_, _, rfl, HF.out⟩

end Go.Proofs.YtnblhkhdilkbeaaDoor
