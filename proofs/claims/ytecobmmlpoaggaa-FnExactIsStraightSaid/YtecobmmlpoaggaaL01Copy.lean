/- The model's copy of a graph. -/
import Derived.Test.YtecobmmlpoaggaaGraphWith
import Derived.Test.YtecobmmlpoaggaaOwnI
import Derived.Deep.RegionLaw
set_option linter.unusedSimpArgs false
set_option linter.unusedVariables false
namespace Go.Proofs.Ytecobmmlpoaggaa
open Go.RowKit

theorem take_snocR {xss : List (List Int)} {k : Nat} (hk : k < xss.length) : xss.take (k+1) = xss.take k ++ [xss.getD k []] := by
  rw [List.take_add_one, List.getElem?_eq_getElem hk]
  simp [List.getD, List.getElem?_eq_getElem hk]

theorem copy_close {G x g k c' g2 c3 hi : Nat} {wr w1 w3 : World} {o : Obj} {rvs : List Value} {xs : List (List Int)} {rv : Value} {ys : List Int} (HP : OwP G x wr g k c' rvs xs) (hx : x < wr.heap.size) (bb : Below wr.heap.size wr w1) (o2 : OwI wr.heap.size hi w1 rv ys)
    (hown : w3.ownsRow G 45 1 (.slice (some ⟨g2, 0, none⟩) (k + 1) c3) (k + 1) (rvs ++ [rv])) (hgr : (w1.alloc o).grownBy w3 (some g)) (hlie : some g = some g2 ∨ g2 = (w1.alloc o).heap.size) (v : Value) :
    OwP G x (w3.setCell ⟨x, 1, none⟩ v) g2 (k + 1) c3 (rvs ++ [rv]) (xs ++ [ys]) :=
  (HP.snocF hx bb o2 hown hgr hlie).box ((Chg.refl x (x+1) _).setCell (p := ⟨x, 1, none⟩) ⟨Nat.le_refl _, Nat.lt_succ_self _⟩ _)

set_option maxHeartbeats 3200000 in
theorem l01Copy {lo hi : Nat} (s : Int) (a : Option Addr) (n c : Nat) (xss : List (List Int)) (w : World) (h : RdR lo hi w (.slice a n c) xss) (hn : xss.length = n) (hn1 : n ≤ 1000) :
    Calls Try.prog 75 #[.agg #[.int .i64 s, .slice a n c]] w fun e w' => ∃ a' c', e = .returned (.agg #[.int .i64 s, .slice a' xss.length c']) ∧ OwR w.heap.size w'.heap.size w' (.slice a' xss.length c') xss ∧ Below w.heap.size w w' := by
  obtain ⟨i0, hi', z0, z1, z2⟩ := info_parts Try.info45
  have HN := Lib.hid hn
  have HC := Lib.hid (h.at hn)
  clear hn h
  have hlit : ((w.alloc (.cells #[.int .i64 s, .slice a n c] 28)).alloc (.cells #[.int .i64 0, .slice none 0 0] 28)).heap.size = w.heap.size + 1 + 1 := by simp
  have hl0 := World.ownsRow_lit (base := w.heap.size + 1 + 1) (e := 45) (size := 1) ((w.alloc (.cells #[.int .i64 s, .slice a n c] 28)).alloc (.cells #[.int .i64 0, .slice none 0 0] 28)) #[] 0 (by rw [hlit]; exact Nat.le_refl _) (by unfold maxLen; omega) rfl
  rw [hlit] at hl0
  have hl1 := hl0.alloc (.cells #[.int .i64 s, .slice (some ⟨w.heap.size + 1 + 1, 0, none⟩) 0 0] 28)
  have HL := Lib.hid hl1
  clear hl0 hlit hl1
  go_enter Try.func75, Try.ntmps75
  go_wp2
  obtain ⟨x, hx⟩ : ∃ x, x = w.heap.size + 1 + 1 + 1 := ⟨_, rfl⟩
  obtain ⟨R, hR⟩ : ∃ R, R = w.heap.size + 1 := ⟨_, rfl⟩
  obtain ⟨G, hG⟩ : ∃ G, G = w.heap.size + 1 + 1 := ⟨_, rfl⟩
  rw [← hG] at HL
  rw [← hx, ← hG, ← hR]
  have hord : w.heap.size < R ∧ R < G ∧ G < x := by omega
  have HXE := Lib.hid (⟨hx, hR, hG⟩ : _ ∧ _ ∧ _)
  clear hx hR hG
  go_loopw [4] (fun i wr => ∃ (k g c' : Nat) (rvs : List Value), k ≤ n ∧ i = .int .i64 k ∧ OwP G x wr g k c' rvs (xss.take k) ∧ Below w.heap.size w wr ∧ x < wr.heap.size ∧
    wr.cell? ⟨w.heap.size, 1, none⟩ = some (.slice a n c) ∧ wr.cell? ⟨R, 0, none⟩ = some (.int .i64 0) ∧ wr.cell? ⟨R, 1, none⟩ = some (.slice none 0 0) ∧ wr.frozen? ⟨R, 0, none⟩ = false ∧ wr.frozen? ⟨R, 1, none⟩ = false ∧
    wr.cell? ⟨x, 0, none⟩ = some (.int .i64 s) ∧ wr.cell? ⟨x, 1, none⟩ = some (.slice (some ⟨g, 0, none⟩) k c') ∧ wr.frozen? ⟨x, 1, none⟩ = false) (fun i _ => n - (intOf i).toNat)
  case atStart =>
    obtain ⟨e1, e2, e3⟩ := HXE.out
    refine ⟨0, G, 0, [], Nat.zero_le _, rfl, OwP.empty HL.out (by omega), ?_, ?_, ?_, ?_, ?_, ?_, ?_, ?_, ?_, ?_⟩
    · exact ((((Below.refl _ _).alloc (Nat.le_refl _) _).alloc (by simp) _).alloc (by simp; omega) _).alloc (by simp; omega) _
    · rw [e1]; simp
    · go_simp
    · rw [e2]; go_simp
    · rw [e2]; go_simp
    · rw [e2]; go_simp
    · rw [e2]; go_simp
    · rw [e1]; go_simp
    · rw [e1, e3]; go_simp
    · rw [e1]; go_simp
  case round =>
    obtain ⟨k, g, c', rvs, hk, rfl, hP, hB, hxz, k1, k2, k3, f2, f3, k4, k5, f5⟩ := hrel
    by_cases hlt : k < n
    · obtain ⟨b, off, rv, rfl, h1, r1⟩ := HC.out k hlt
      have hbw := World.block_lt_of_cell? w _ h1
      replace h1 := hB.keep h1
      replace r1 := r1.below hB
      generalize hys : xss.getD k [] = ys at *
      have hlt' : k < xss.length := by rw [HN.out]; exact hlt
      have hst := take_snocR hlt'
      rw [hys] at hst
      have HST := Lib.hid hst
      have HP := Lib.hid hP
      have HB := Lib.hid hB
      have HF := Lib.hid (⟨k1, k2, k3, f2, f3, k4⟩ : _ ∧ _ ∧ _ ∧ _ ∧ _ ∧ _)
      have hgl := hP.lt
      have hgx := hP.exg
      clear hys hst hP hB k2 k3 f2 f3 k4
      go_wp2
      have hm63 : k + 1 ≤ maxLen := by unfold maxLen; omega
      have hby : (k + 1) * 24 ≤ 140737488355328 := by omega
      have hgxx : x < g ∨ g + 1 ≤ x := by omega
      go_region_law (first
        | (go_simp; go_at_call 102; refine (l01Own _ ys _ (r1.qt (Qt.refl _).drew)).mono ?_; rintro e w1 ⟨a2, c2, rfl, o2, b2⟩; have bb := ((Qt.refl wr).drew).below.next b2; have hx1 : x < w1.heap.size := Nat.lt_of_lt_of_le hxz bb.size; have g1 := bb.keep k1; have g5 := bb.keep k5; have gf5 := bb.keepf hxz f5; have hown1 := (HP.out.below bb).out.alloc (.cells #[.slice a2 ys.length c2] 45); have hnews := news_one w1 45 (.slice a2 ys.length c2); have hone : ∀ u ∈ [Value.slice a2 ys.length c2], u.oneCell' = true := (fun u hu => by simp at hu; subst hu; rfl); have hbase : G ≤ (w1.alloc (.cells #[.slice a2 ys.length c2] 45)).heap.size := by { have := bb.size; simp; omega })
        | (refine step_append_lies (w1.alloc (.cells #[.slice a2 ys.length c2] 45)) rfl (.tmp 17) (.tmp 24) 22 rfl G 45 i0 (.slice none 0 0) 1 24 Try.underlying22 hi' z0 z1 z2 rfl (by decide) (.slice (some ⟨g, 0, none⟩) k c') k rvs (by simp [Act.eval, Act.put]) hown1 ⟨w1.heap.size, 0, none⟩ 1 1 [.slice a2 ys.length c2] (by simp [Act.eval, Act.put]) rfl hnews hone (by decide) hm63 hby hbase (w1.alloc (.cells #[.slice a2 ys.length c2] 45)).heap.size rfl ?_; intro g2 c3 w3 hown3 hgr hlie hlt3; have hch := snocC bb hgr; have y5 := hch.cell k5 hgxx; have yf5 := hch.frozen (show x < wr.heap.size from hxz) hgxx f5))
      all_goals
        have hP3 := copy_close HP.out hxz bb o2 hown3 hgr hlie (.slice (some ⟨g2, 0, none⟩) (k + 1) c3)
        rw [← HST.out] at hP3
        have hbx : Chg x (x+1) w3 (w3.setCell ⟨x, 1, none⟩ (.slice (some ⟨g2, 0, none⟩) (k + 1) c3)) := (Chg.refl x (x+1) _).setCell (p := ⟨x, 1, none⟩) ⟨Nat.le_refl _, Nat.lt_succ_self _⟩ _
        obtain ⟨p1, p2, p3, q2, q3, p4⟩ := HF.out
        have hRz : R < wr.heap.size := by omega
        have z1 := hbx.cell (hch.cell p1 (show w.heap.size < g ∨ _ by left; omega)) (show w.heap.size < x ∨ _ by left; omega)
        have z2 := hbx.cell (hch.cell p2 (show R < g ∨ _ by left; omega)) (show R < x ∨ _ by left; omega)
        have z3 := hbx.cell (hch.cell p3 (show R < g ∨ _ by left; omega)) (show R < x ∨ _ by left; omega)
        have hsz3 := hch.size
        have y2 := hbx.frozen (show R < w3.heap.size by omega) (show R < x ∨ _ by left; omega) (hch.frozen (show R < wr.heap.size by omega) (show R < g ∨ _ by left; omega) q2)
        have y3 := hbx.frozen (show R < w3.heap.size by omega) (show R < x ∨ _ by left; omega) (hch.frozen (show R < wr.heap.size by omega) (show R < g ∨ _ by left; omega) q3)
        have z4 : (w3.setCell ⟨x, 1, none⟩ (.slice (some ⟨g2, 0, none⟩) (k + 1) c3)).cell? ⟨x, 0, none⟩ = some (.int .i64 s) := by
          rw [World.cell?_setCell_other _ _ _ _ (by simp)]; exact hch.cell p4 hgxx
        have z5 := World.cell?_setCell_same w3 ⟨x, 1, none⟩ (.slice (some ⟨g2, 0, none⟩) (k + 1) c3) y5
        have z6 := hbx.size
        have z7 := (World.frozen?_setCell (w := w3) (a := ⟨x, 1, none⟩) (v := .slice (some ⟨g2, 0, none⟩) (k + 1) c3) (b := ⟨x, 1, none⟩)).trans yf5
        have hBB := ((HB.out.chgn hch (show w.heap.size ≤ g by omega) HB.out.size).chgn hbx (show w.heap.size ≤ x by omega) (by have := HB.out.size; omega))
        have FF := Lib.hid (⟨hP3, hBB, Nat.lt_of_lt_of_le (Nat.lt_of_lt_of_le hxz hsz3) z6, z1, z2, z3, y2, y3, z4, z5, z7⟩ : _ ∧ _ ∧ _ ∧ _ ∧ _ ∧ _ ∧ _ ∧ _ ∧ _ ∧ _ ∧ _)
        clear z1 z2 z3 z4 z5 z6 z7 y2 y3 p1 p2 p3 q2 q3 p4 hP3 hBB
        go_wp2
        go_roundw
        case rel => exact ⟨k+1, g2, c3, _, by omega, by go_num, FF.out⟩
        case measure => simp [intOf]; omega
    · go_wp2
      obtain rfl : k = n := by omega
      have e2 : xss.take k = xss := List.take_of_length_le (by rw [HN.out]; exact Nat.le_refl _)
      rw [e2] at hP
      have hch : Chg R (R + 1) wr ((wr.setCell ⟨R, 0, none⟩ (.int .i64 s)).setCell ⟨R, 1, none⟩ (.slice (some ⟨g, 0, none⟩) k c')) := by
        repeat (refine Chg.setCell ?_ (by constructor <;> simp <;> omega) _)
        exact Chg.refl _ _ _
      have hP2 := hP.chg hch (.inr (by have := hP.lt; omega)) (fun j hj q hq => Or.inr (Nat.le_trans (show R + 1 ≤ G by omega) ((hP.rows.own j (by rw [hP.len]; exact hj)).blk q hq).1))
      refine bodyPost_ret (v := .agg #[.int .i64 s, .slice (some ⟨g, 0, none⟩) k c']) (by simp [results, Try.results75, go_sem, k2, k3, k4, k5]) rfl ⟨some ⟨g, 0, none⟩, c', by rw [HN.out], ?_, ?_⟩
      · exact (hP2.owr' (by omega)).mono (by omega) (Nat.le_refl _)
      · repeat (refine Below.setCell ?_ (by simp <;> omega) _)
        exact hB

end Go.Proofs.Ytecobmmlpoaggaa
