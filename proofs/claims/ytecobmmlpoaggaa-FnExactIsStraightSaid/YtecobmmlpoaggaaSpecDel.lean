/- DeleteEdge of the model. -/
import Derived.Test.YtecobmmlpoaggaaL01Copy
import Derived.Test.YtecobmmlpoaggaaSubdPure
set_option linter.unusedSimpArgs false
set_option linter.unusedVariables false
namespace Go.Proofs.Ytecobmmlpoaggaa
open Go.RowKit

theorem er_same {xss : List (List Int)} {k : Nat} (hk : k < xss.length) : (xss.take (k+1)).eraseIdx k = (xss.take k).eraseIdx k := by
  have hl : (xss.take k).length = k := by rw [List.length_take]; omega
  rw [take_snocR hk, List.eraseIdx_append_of_length_le (by omega), hl, Nat.sub_self, List.eraseIdx_of_length_le (l := xss.take k) (by omega)]
  simp
theorem er_step {xss : List (List Int)} {i k : Nat} (hi : i < xss.length) (hk : i ≠ k) : (xss.take (i+1)).eraseIdx k = (xss.take i).eraseIdx k ++ [xss.getD i []] := by
  have hl : (xss.take i).length = i := by rw [List.length_take]; omega
  rw [take_snocR hi]
  by_cases h : k < i
  · rw [List.eraseIdx_append_of_lt_length (by omega)]
  · rw [List.eraseIdx_of_length_le (by rw [List.length_append, hl]; simp; omega), List.eraseIdx_of_length_le (by omega)]

theorem OwP.lower {lo lo' x : Nat} {w : World} {g n c : Nat} {rvs : List Value} {xss : List (List Int)} (h : OwP lo x w g n c rvs xss) (hl : lo' ≤ lo) : OwP lo' x w g n c rvs xss :=
  ⟨h.len, ownsRow_mono h.out hl, ⟨h.rows.len, fun j hj => (h.rows.own j hj).mono hl (Nat.le_refl _), h.rows.dj⟩, h.dj, h.exg, h.exr⟩
theorem OwP.rebox {lo x x' : Nat} {w : World} {g n c : Nat} {rvs : List Value} {xss : List (List Int)} (h : OwP lo x w g n c rvs xss) (hx : w.heap.size ≤ x') : OwP lo x' w g n c rvs xss :=
  ⟨h.len, h.out, h.rows, h.dj, by have := h.lt; omega, fun j hj e => by have := ((h.rows.own j (by rw [h.len]; exact hj)).blk x' e).2.2; omega⟩

set_option maxHeartbeats 3200000 in
theorem l01DeleteP {lo hi : Nat} (s : Int) (a : Option Addr) (n c : Nat) (xss : List (List Int)) (D : Nat) (w : World) (h : RdR lo hi w (.slice a n c) xss) (hn : xss.length = n) (hn1 : n ≤ 1000) :
    Calls Try.prog 68 #[.agg #[.int .i64 s, .slice a n c], .int .i64 D] w fun e w' => ∃ g c' x rvs, e = .returned (.agg #[.int .i64 s, .slice (some ⟨g, 0, none⟩) (xss.eraseIdx D).length c']) ∧ OwP w.heap.size x w' g (xss.eraseIdx D).length c' rvs (xss.eraseIdx D) ∧ Below w.heap.size w w' := by
  obtain ⟨i0, hi', z0, z1, z2⟩ := info_parts Try.info45
  have HN := Lib.hid hn
  have HC := Lib.hid (h.at hn)
  clear hn h
  have hlit : ((w.alloc (.cells #[.int .i64 s, .slice a n c] 28)).alloc (.cells #[.int .i64 0, .slice none 0 0] 28)).heap.size = w.heap.size + 1 + 1 := by simp
  have hl0 := World.ownsRow_lit (base := w.heap.size + 1 + 1) (e := 45) (size := 1) ((w.alloc (.cells #[.int .i64 s, .slice a n c] 28)).alloc (.cells #[.int .i64 0, .slice none 0 0] 28)) #[] 0 (by rw [hlit]; exact Nat.le_refl _) (by unfold maxLen; omega) rfl
  rw [hlit] at hl0
  have hl1 := hl0.alloc (.cells #[.int .i64 s, .slice (some ⟨w.heap.size + 1 + 1, 0, none⟩) 0 0] 28)
  have HL := Lib.hid hl1
  clear hl0 hlit hl1
  go_enter Try.func68, Try.ntmps68
  go_wp2
  obtain ⟨x, hx⟩ : ∃ x, x = w.heap.size + 1 + 1 + 1 := ⟨_, rfl⟩
  obtain ⟨R, hR⟩ : ∃ R, R = w.heap.size + 1 := ⟨_, rfl⟩
  obtain ⟨G, hG⟩ : ∃ G, G = w.heap.size + 1 + 1 := ⟨_, rfl⟩
  rw [← hG] at HL
  rw [← hx, ← hG, ← hR]
  have hord : w.heap.size < R ∧ R < G ∧ G < x := by omega
  have HXE := Lib.hid (⟨hx, hR, hG⟩ : _ ∧ _ ∧ _)
  clear hx hR hG
  go_loopw [6] (fun i wr => ∃ (k m g c' : Nat) (rvs : List Value), k ≤ n ∧ i = .int .i64 k ∧ m ≤ k ∧ OwP G x wr g m c' rvs ((xss.take k).eraseIdx D) ∧ Below w.heap.size w wr ∧ x < wr.heap.size ∧
    wr.cell? ⟨w.heap.size, 1, none⟩ = some (.slice a n c) ∧ wr.cell? ⟨R, 0, none⟩ = some (.int .i64 0) ∧ wr.cell? ⟨R, 1, none⟩ = some (.slice none 0 0) ∧ wr.frozen? ⟨R, 0, none⟩ = false ∧ wr.frozen? ⟨R, 1, none⟩ = false ∧
    wr.cell? ⟨x, 0, none⟩ = some (.int .i64 s) ∧ wr.cell? ⟨x, 1, none⟩ = some (.slice (some ⟨g, 0, none⟩) m c') ∧ wr.frozen? ⟨x, 1, none⟩ = false) (fun i _ => n - (intOf i).toNat)
  case atStart =>
    obtain ⟨e1, e2, e3⟩ := HXE.out
    refine ⟨0, 0, G, 0, [], Nat.zero_le _, rfl, Nat.le_refl _, OwP.empty HL.out (by omega), ?_, ?_, ?_, ?_, ?_, ?_, ?_, ?_, ?_, ?_⟩
    · exact ((((Below.refl _ _).alloc (Nat.le_refl _) _).alloc (by simp) _).alloc (by simp; omega) _).alloc (by simp; omega) _
    · rw [e1]; simp
    · go_simp
    · rw [e2]; go_simp
    · rw [e2]; go_simp
    · rw [e2]; go_simp
    · rw [e2]; go_simp
    · rw [e1]; go_simp
    · rw [e1, e3]; go_simp
    · rw [e1]; go_simp
  case round =>
    obtain ⟨k, m, g, c', rvs, hk, rfl, hmk, hP, hB, hxz, k1, k2, k3, f2, f3, k4, k5, f5⟩ := hrel
    by_cases hlt : k < n
    · by_cases hkD : k = D
      · have hne : ((k : Int) != (D : Int)) = false := by simp [hkD]
        have hst := er_same (xss := xss) (k := k) (by rw [HN.out]; exact hlt)
        have HKD := Lib.hid hkD
        have HF := Lib.hid (⟨hP, hB, hxz, k1, k2, k3, f2, f3, k4, k5, f5⟩ : _ ∧ _ ∧ _ ∧ _ ∧ _ ∧ _ ∧ _ ∧ _ ∧ _ ∧ _ ∧ _)
        have HST := Lib.hid hst
        clear hkD hP hB hst k2 k3 f2 f3 k4 k5 f5
        go_wp2
        go_roundw
        case rel => exact ⟨k+1, m, g, c', rvs, by omega, by go_num, by omega, by have e := HST.out; rw [HKD.out] at e ⊢; rw [e, ← HKD.out]; rw [← HKD.out] at HF; exact HF.out.1, HF.out.2⟩
        case measure => simp [intOf]; omega
      have hne : ((k : Int) != (D : Int)) = true := by simp; omega
      obtain ⟨b, off, rv, rfl, h1, r1⟩ := HC.out k hlt
      have hbw := World.block_lt_of_cell? w _ h1
      replace h1 := hB.keep h1
      replace r1 := r1.below hB
      generalize hys : xss.getD k [] = ys at *
      have hlt' : k < xss.length := by rw [HN.out]; exact hlt
      have hst := er_step (k := D) hlt' hkD
      rw [hys] at hst
      have HST := Lib.hid hst
      have HP := Lib.hid hP
      have HB := Lib.hid hB
      have HF := Lib.hid (⟨k1, k2, k3, f2, f3, k4⟩ : _ ∧ _ ∧ _ ∧ _ ∧ _ ∧ _)
      have hgl := hP.lt
      have hgx := hP.exg
      clear hys hst hP hB k2 k3 f2 f3 k4
      go_wp2
      have hm63 : m + 1 ≤ maxLen := by unfold maxLen; omega
      have hby : (m + 1) * 24 ≤ 140737488355328 := by omega
      have hgxx : x < g ∨ g + 1 ≤ x := by omega
      go_region_law (first
        | (go_simp; go_at_call 102; refine (l01Own _ ys _ (r1.qt (Qt.refl _).drew)).mono ?_; rintro e w1 ⟨a2, c2, rfl, o2, b2⟩; have bb := ((Qt.refl wr).drew).below.next b2; have hx1 : x < w1.heap.size := Nat.lt_of_lt_of_le hxz bb.size; have g1 := bb.keep k1; have g5 := bb.keep k5; have gf5 := bb.keepf hxz f5; have hown1 := (HP.out.below bb).out.alloc (.cells #[.slice a2 ys.length c2] 45); have hnews := news_one w1 45 (.slice a2 ys.length c2); have hone : ∀ u ∈ [Value.slice a2 ys.length c2], u.oneCell' = true := (fun u hu => by simp at hu; subst hu; rfl); have hbase : G ≤ (w1.alloc (.cells #[.slice a2 ys.length c2] 45)).heap.size := by { have := bb.size; simp; omega })
        | (refine step_append_lies (w1.alloc (.cells #[.slice a2 ys.length c2] 45)) rfl (.tmp 22) (.tmp 29) 22 rfl G 45 i0 (.slice none 0 0) 1 24 Try.underlying22 hi' z0 z1 z2 rfl (by decide) (.slice (some ⟨g, 0, none⟩) m c') m rvs (by simp [Act.eval, Act.put]) hown1 ⟨w1.heap.size, 0, none⟩ 1 1 [.slice a2 ys.length c2] (by simp [Act.eval, Act.put]) rfl hnews hone (by decide) hm63 hby hbase (w1.alloc (.cells #[.slice a2 ys.length c2] 45)).heap.size rfl ?_; intro g2 c3 w3 hown3 hgr hlie hlt3; have hch := snocC bb hgr; have y5 := hch.cell k5 hgxx; have yf5 := hch.frozen (show x < wr.heap.size from hxz) hgxx f5))
      all_goals
        have hP3 := copy_close HP.out hxz bb o2 hown3 hgr hlie (.slice (some ⟨g2, 0, none⟩) (m + 1) c3)
        rw [← HST.out] at hP3
        have hbx : Chg x (x+1) w3 (w3.setCell ⟨x, 1, none⟩ (.slice (some ⟨g2, 0, none⟩) (m + 1) c3)) := (Chg.refl x (x+1) _).setCell (p := ⟨x, 1, none⟩) ⟨Nat.le_refl _, Nat.lt_succ_self _⟩ _
        obtain ⟨p1, p2, p3, q2, q3, p4⟩ := HF.out
        have hRz : R < wr.heap.size := by omega
        have z1 := hbx.cell (hch.cell p1 (show w.heap.size < g ∨ _ by left; omega)) (show w.heap.size < x ∨ _ by left; omega)
        have z2 := hbx.cell (hch.cell p2 (show R < g ∨ _ by left; omega)) (show R < x ∨ _ by left; omega)
        have z3 := hbx.cell (hch.cell p3 (show R < g ∨ _ by left; omega)) (show R < x ∨ _ by left; omega)
        have hsz3 := hch.size
        have y2 := hbx.frozen (show R < w3.heap.size by omega) (show R < x ∨ _ by left; omega) (hch.frozen (show R < wr.heap.size by omega) (show R < g ∨ _ by left; omega) q2)
        have y3 := hbx.frozen (show R < w3.heap.size by omega) (show R < x ∨ _ by left; omega) (hch.frozen (show R < wr.heap.size by omega) (show R < g ∨ _ by left; omega) q3)
        have z4 : (w3.setCell ⟨x, 1, none⟩ (.slice (some ⟨g2, 0, none⟩) (m + 1) c3)).cell? ⟨x, 0, none⟩ = some (.int .i64 s) := by
          rw [World.cell?_setCell_other _ _ _ _ (by simp)]; exact hch.cell p4 hgxx
        have z5 := World.cell?_setCell_same w3 ⟨x, 1, none⟩ (.slice (some ⟨g2, 0, none⟩) (m + 1) c3) y5
        have z6 := hbx.size
        have z7 := (World.frozen?_setCell (w := w3) (a := ⟨x, 1, none⟩) (v := .slice (some ⟨g2, 0, none⟩) (m + 1) c3) (b := ⟨x, 1, none⟩)).trans yf5
        have hBB := ((HB.out.chgn hch (show w.heap.size ≤ g by omega) HB.out.size).chgn hbx (show w.heap.size ≤ x by omega) (by have := HB.out.size; omega))
        have FF := Lib.hid (⟨hP3, hBB, Nat.lt_of_lt_of_le (Nat.lt_of_lt_of_le hxz hsz3) z6, z1, z2, z3, y2, y3, z4, z5, z7⟩ : _ ∧ _ ∧ _ ∧ _ ∧ _ ∧ _ ∧ _ ∧ _ ∧ _ ∧ _ ∧ _)
        clear z1 z2 z3 z4 z5 z6 z7 y2 y3 p1 p2 p3 q2 q3 p4 hP3 hBB
        go_wp2
        go_roundw
        case rel => exact ⟨k+1, m+1, g2, c3, _, by omega, by go_num, by omega, FF.out⟩
        case measure => simp [intOf]; omega
    · go_wp2
      obtain rfl : k = n := by omega
      have e2 : xss.take k = xss := List.take_of_length_le (by rw [HN.out]; exact Nat.le_refl _)
      rw [e2] at hP
      have hlm := hP.len
      have hch : Chg R (R + 1) wr ((wr.setCell ⟨R, 0, none⟩ (.int .i64 s)).setCell ⟨R, 1, none⟩ (.slice (some ⟨g, 0, none⟩) m c')) := by
        repeat (refine Chg.setCell ?_ (by constructor <;> simp <;> omega) _)
        exact Chg.refl _ _ _
      have hP2 := hP.chg hch (.inr (by have := hP.lt; omega)) (fun j hj q hq => Or.inr (Nat.le_trans (show R + 1 ≤ G by omega) ((hP.rows.own j (by rw [hP.len]; exact hj)).blk q hq).1))
      refine bodyPost_ret (v := .agg #[.int .i64 s, .slice (some ⟨g, 0, none⟩) m c']) (by simp [results, Try.results68, go_sem, k2, k3, k4, k5]) rfl ⟨g, c', x, rvs, by rw [hlm], ?_, ?_⟩
      · rw [hlm]; exact hP2.lower (by omega)
      · repeat (refine Below.setCell ?_ (by simp <;> omega) _)
        exact hB

theorem l01Delete {lo hi : Nat} (s : Int) (a : Option Addr) (n c : Nat) (xss : List (List Int)) (D : Nat) (w : World) (h : RdR lo hi w (.slice a n c) xss) (hn : xss.length = n) (hn1 : n ≤ 1000) :
    Calls Try.prog 68 #[.agg #[.int .i64 s, .slice a n c], .int .i64 D] w fun e w' => ∃ a' c', e = .returned (.agg #[.int .i64 s, .slice a' (xss.eraseIdx D).length c']) ∧ OwR w.heap.size w'.heap.size w' (.slice a' (xss.eraseIdx D).length c') (xss.eraseIdx D) ∧ Below w.heap.size w w' :=
  (l01DeleteP s a n c xss D w h hn hn1).mono fun e w' ⟨g, c', x, rvs, he, hP, hb⟩ => ⟨_, c', he, hP.owr (by have := List.length_eraseIdx_le xss D; omega), hb⟩

def delOf (s : Int) (xss : List (List Int)) (k : Int) : (Int × List (List Int)) × Int := if edgeCode s xss k ≠ 0 then ((0, []), edgeCode s xss k) else ((s, xss.eraseIdx k.toNat), 0)

theorem code_ne' {s : Int} {xss : List (List Int)} {k : Int} (h : edgeCode s xss k ≠ 0) : (edgeCode s xss k != 0) = true := by simpa using h

set_option maxHeartbeats 800000 in
theorem specDel_no {lo hi : Nat} (s : Int) (a : Option Addr) (n c : Nat) (xss : List (List Int)) (k : Int) (w : World) (h : RdR lo hi w (.slice a n c) xss) (hn : xss.length = n) (hc : edgeCode s xss k ≠ 0) :
    Calls Try.prog 27 #[.agg #[.int .i64 s, .slice a n c], .int .i64 k] w fun e w' => e = .returned (.tuple #[.agg #[.int .i64 0, .slice none 0 0], .int .i64 (edgeCode s xss k)]) ∧ Below w.heap.size w w' := by
  have hb0 : ∀ o o', Below w.heap.size w ((w.alloc o).alloc o') := fun o o' => ((Below.refl _ _).alloc (Nat.le_refl _) o).alloc (by simp) o'
  have hcn := code_ne' hc
  go_enter Try.func27, Try.ntmps27
  go_wp2_with fail
  refine calls_gen (fun W => Below w.heap.size w W ∧ w.heap.size + 1 < W.heap.size ∧ W.cell? ⟨w.heap.size + 1, 0, none⟩ = some (.int .i64 0) ∧ W.cell? ⟨w.heap.size + 1, 1, none⟩ = some (.slice none 0 0) ∧ W.frozen? ⟨w.heap.size + 1, 0, none⟩ = false ∧ W.frozen? ⟨w.heap.size + 1, 1, none⟩ = false) ⟨hb0 _ _, by simp, by go_simp, by go_simp, by go_simp, by go_simp⟩ ?_
  rintro W ⟨hB, hz, k1, k2, f1, f2⟩
  refine (l01Edge s a n c xss k W (h.below hB) hn).mono ?_
  rintro e w1 ⟨rfl, b1⟩
  replace k1 := b1.keep k1
  replace k2 := b1.keep k2
  replace f1 := b1.keepf hz f1
  replace f2 := b1.keepf hz f2
  replace hB := hB.next b1
  obtain ⟨cd, hcd⟩ : ∃ cd, cd = edgeCode s xss k := ⟨_, rfl⟩
  rw [← hcd] at hcn ⊢
  have HCD := Lib.hid hcd
  clear hcd hc b1
  go_wp2
  refine bodyPost_ret (v := .tuple #[.agg #[.int .i64 0, .slice none 0 0], .int .i64 cd]) (by simp [results, Try.results27, go_sem, k1, k2]) rfl ⟨by rw [HCD.out], ?_⟩
  repeat (refine Below.setCell ?_ (by simp <;> omega) _)
  exact hB

set_option maxHeartbeats 1600000 in
theorem specDel_yes {lo hi : Nat} (s : Int) (a : Option Addr) (n c : Nat) (xss : List (List Int)) (k : Nat) (w : World) (h : RdR lo hi w (.slice a n c) xss) (hn : xss.length = n) (hc : edgeCode s xss k = 0) :
    Calls Try.prog 27 #[.agg #[.int .i64 s, .slice a n c], .int .i64 k] w fun e w' => ∃ a' c', e = .returned (.tuple #[.agg #[.int .i64 s, .slice a' (xss.eraseIdx k).length c'], .int .i64 0]) ∧ OwR w.heap.size w'.heap.size w' (.slice a' (xss.eraseIdx k).length c') (xss.eraseIdx k) ∧ Below w.heap.size w w' := by
  have hb0 : ∀ o o', Below w.heap.size w ((w.alloc o).alloc o') := fun o o' => ((Below.refl _ _).alloc (Nat.le_refl _) o).alloc (by simp) o'
  obtain ⟨hg, h0, h1⟩ := edgeCode_ok hc
  obtain ⟨hs1, hs2, h3, h4⟩ := grB_iff hg
  have hn10 : n ≤ 10 := by omega
  have HN := Lib.hid hn
  have HC := Lib.hid hc
  clear hc hg h0 h1 h3 h4 hn
  go_enter Try.func27, Try.ntmps27
  go_wp2_with fail
  refine calls_gen (fun W => Below w.heap.size w W ∧ w.heap.size + 1 < W.heap.size ∧ W.cell? ⟨w.heap.size, 0, none⟩ = some (.int .i64 s) ∧ W.cell? ⟨w.heap.size, 1, none⟩ = some (.slice a n c) ∧ W.cell? ⟨w.heap.size + 1, 0, none⟩ = some (.int .i64 0) ∧ W.cell? ⟨w.heap.size + 1, 1, none⟩ = some (.slice none 0 0) ∧ W.frozen? ⟨w.heap.size + 1, 0, none⟩ = false ∧ W.frozen? ⟨w.heap.size + 1, 1, none⟩ = false) ⟨hb0 _ _, by simp, by go_simp, by go_simp, by go_simp, by go_simp, by go_simp, by go_simp⟩ ?_
  rintro W ⟨hB, hz, k1, k2, k3, k4, f3, f4⟩
  obtain ⟨R, hR⟩ : ∃ R, R = w.heap.size + 1 := ⟨_, rfl⟩
  rw [← hR] at hz k3 k4 f3 f4 ⊢
  have hwR : w.heap.size < R := by omega
  clear hR
  refine (l01Edge s a n c xss k W (h.below hB) HN.out).mono ?_
  rw [HC.out]
  rintro e w1 ⟨rfl, b1⟩
  replace k1 := b1.keep k1
  replace k2 := b1.keep k2
  replace k3 := b1.keep k3
  replace k4 := b1.keep k4
  replace f3 := b1.keepf hz f3
  replace f4 := b1.keepf hz f4
  replace hB := hB.next b1
  have hz1 : R < w1.heap.size := Nat.lt_of_lt_of_le hz b1.size
  clear b1 hz
  go_wp2_with fail
  refine (l01Delete s a n c xss k _ (h.below hB) HN.out (by omega)).mono ?_
  rintro e w4 ⟨a4, c4, rfl, o4, b4⟩
  replace k3 := b4.keep k3
  replace k4 := b4.keep k4
  replace f3 := b4.keepf hz1 f3
  replace f4 := b4.keepf hz1 f4
  replace hB := hB.next b4
  have hz4 := b4.size
  clear b4
  go_wp2
  refine bodyPost_ret (v := .tuple #[.agg #[.int .i64 s, .slice a4 (xss.eraseIdx k).length c4], .int .i64 0]) (by simp [results, Try.results27, go_sem, k3, k4]) rfl ⟨a4, c4, rfl, ?_, ?_⟩
  · refine (OwR.chg (lo' := w.heap.size) (hi' := w1.heap.size) o4 ?_ (.inr (Nat.le_refl _))).mono (by omega) (by simp [World.setCell])
    repeat (refine Chg.setCell ?_ (by constructor <;> simp <;> omega) _)
    exact Chg.refl _ _ _
  · repeat (refine Below.setCell ?_ (by simp <;> omega) _)
    exact hB

theorem specDel {lo hi : Nat} (s : Int) (a : Option Addr) (n c : Nat) (xss : List (List Int)) (k : Int) (w : World) (h : RdR lo hi w (.slice a n c) xss) (hn : xss.length = n) :
    Calls Try.prog 27 #[.agg #[.int .i64 s, .slice a n c], .int .i64 k] w fun e w' => ∃ a' c', e = .returned (.tuple #[.agg #[.int .i64 (delOf s xss k).1.1, .slice a' (delOf s xss k).1.2.length c'], .int .i64 (delOf s xss k).2]) ∧ OwR w.heap.size w'.heap.size w' (.slice a' (delOf s xss k).1.2.length c') (delOf s xss k).1.2 ∧ Below w.heap.size w w' := by
  by_cases hc : edgeCode s xss k = 0
  · have e1 : delOf s xss k = ((s, xss.eraseIdx k.toNat), 0) := by unfold delOf; rw [if_neg (by simp [hc])]
    rw [e1]
    obtain ⟨_, h0, h1⟩ := edgeCode_ok hc
    obtain ⟨K, rfl⟩ : ∃ K : Nat, k = K := ⟨k.toNat, by omega⟩
    exact specDel_yes s a n c xss K w h hn hc
  · have e1 : delOf s xss k = ((0, []), edgeCode s xss k) := by unfold delOf; rw [if_pos hc]
    rw [e1]
    exact (specDel_no s a n c xss k w h hn hc).mono fun e w' ⟨he, hb⟩ => ⟨none, 0, he, OwR.nil (World.ownsRow_nil _ _ _ _) (Nat.le_refl _), hb⟩

theorem lens_two {xss : List (List Int)} (h : ∀ e ∈ xss, e.length = 2) : lens xss = 2 * xss.length := by
  induction xss with
  | nil => rfl
  | cons p r ih =>
    have h1 := h p (by simp)
    have h2 := ih (fun e he => h e (by simp [he]))
    simp only [lens, List.map_cons, List.sum_cons, List.length_cons] at h2 ⊢
    omega
theorem gr_two {s : Int} {xss : List (List Int)} (h : grB s xss = true) : ∀ e ∈ xss, e.length = 2 := by
  intro e he
  obtain ⟨i, hi, rfl⟩ := List.getElem_of_mem he
  have := ((grB_iff h).2.2.2 i hi).1
  simpa [List.getD, List.getElem?_eq_getElem hi] using this
theorem delOf_lens (s : Int) (xss : List (List Int)) (k : Int) : lens (delOf s xss k).1.2 ≤ 1000 := by
  unfold delOf
  split
  · simp [lens]
  · rename_i hc
    obtain ⟨hg, h0, h1⟩ := edgeCode_ok (s := s) (xss := xss) (k := k) (by omega)
    have h3 := (grB_iff hg).2.2.1
    show lens (xss.eraseIdx k.toNat) ≤ 1000
    rw [lens_two (fun e he => gr_two hg e (List.mem_of_mem_eraseIdx he))]
    have := List.length_eraseIdx_le xss k.toNat
    omega

end Go.Proofs.Ytecobmmlpoaggaa
