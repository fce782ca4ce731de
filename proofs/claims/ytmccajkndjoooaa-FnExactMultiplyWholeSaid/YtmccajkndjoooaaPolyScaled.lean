/- The program's polynomials times a number. -/
import Derived.Test.YtmccajkndjoooaaPolyPlus2
import Derived.Deep.RegionHeld3
set_option linter.unusedSimpArgs false
set_option linter.unusedVariables false
namespace Go.Proofs.Ytmccajkndjoooaa
open Go.RowKit

def scaledL (f : List (Option Int)) (x : Int) : List (Option Int) := f.map (fun o => timesO o (some x))
theorem scaledL_len (f : List (Option Int)) (x : Int) : (scaledL f x).length = f.length := by simp [scaledL]
theorem scaledL_succ (f : List (Option Int)) (x : Int) (k : Nat) (h : k < f.length) : (scaledL f x).take (k+1) = (scaledL f x).take k ++ [timesO (f.getD k (some 0)) (some x)] := by
  rw [List.take_add_one, List.getElem?_eq_getElem (by rw [scaledL_len]; exact h)]
  simp [scaledL, List.getD, List.getElem?_eq_getElem h]

set_option maxHeartbeats 3200000 in
theorem scaled_ne (n g cap : Nat) (f : List (Option Int)) (x : Int) (w : World) (hn : f.length = n) (hn1 : n ≤ 1000) (hl : ∀ j, OLim (f.getD j (some 0))) (hx : Lim x) (hg : g < w.heap.size)
    (hc : ∀ j, j < n → w.cell? ⟨g, j * 2, none⟩ = some (.int .i64 (numO (f.getD j (some 0)))) ∧ w.cell? ⟨g, j * 2 + 1, none⟩ = some (.bool (f.getD j (some 0)).isNone)) :
    Calls Try.prog 30 #[.slice (some ⟨g, 0, none⟩) n cap, .agg #[.int .i64 x, .bool false]] w fun e w' => ∃ v, e = .returned v ∧ w'.ownsRow w.heap.size 45 2 v n (flatO (scaledL f x)) ∧ Below w.heap.size w w' := by
  obtain ⟨i0, hi', z0, z1, z2⟩ := info_parts Try.info45
  have hb0 : ∀ o, Below w.heap.size w (w.alloc o) := fun o => (Below.refl _ _).alloc (Nat.le_refl _) o
  have HN := Lib.hid hn
  have HC := Lib.hid hc
  have HL := Lib.hid hl
  have HXL := Lib.hid hx
  have HPL := Lib.hid (show (scaledL f x).length = n by rw [scaledL_len]; exact hn)
  clear hn hc hl hx
  go_enter Try.func30, Try.ntmps30
  go_wp2_with (at_make; refine wpList_make_full _ rfl _ _ 41 rfl (w.heap.size + 1) 45 i0 (.agg #[.int .i64 0, .bool false]) 2 Try.underlying41 hi' z0 z1 _ _ _ _ n rfl rfl rfl rfl ?c1 ?c2 ?c3 ?_)
  case c1 => rw [z2]; omega
  case c2 => unfold maxLen; omega
  case c3 => simp
  intro w1 hown hgr
  rw [made2b n] at hown
  have e0 : List.replicate n (some (0 : Int)) = setO [] n := by simp [setO]
  rw [e0] at hown
  have hbl : Below w.heap.size w w1 := (hb0 _).grown hgr (by simp) (by simp)
  have k1 : w1.cell? ⟨w.heap.size, 0, none⟩ = some (.int .i64 x) := hgr.cell (by go_simp) (by simp)
  have k2 : w1.cell? ⟨w.heap.size, 1, none⟩ = some (.bool false) := hgr.cell (by go_simp) (by simp)
  have hz : w.heap.size + 1 < w1.heap.size := (hown.lt _ rfl).2
  clear hgr e0
  go_wp2
  go_loopw [12, 6] (fun i _ wr => ∃ k : Nat, k ≤ n ∧ i = .int .i64 k ∧ wr.ownsRow (w.heap.size + 1) 45 2 (.slice (some ⟨w.heap.size + 1, 0, none⟩) n n) n (flatO (setO ((scaledL f x).take k) n)) ∧ Below w.heap.size w wr ∧ w.heap.size + 1 < wr.heap.size ∧
     wr.cell? ⟨w.heap.size, 0, none⟩ = some (.int .i64 x) ∧ wr.cell? ⟨w.heap.size, 1, none⟩ = some (.bool false)) (fun i _ _ => n - (intOf i).toNat)
  case atStart => exact ⟨0, Nat.zero_le _, rfl, hown, hbl, hz, k1, k2⟩
  case round =>
    clear hown hbl hz k1 k2
    obtain ⟨k, hk, rfl, hown, hbl, hz, k1, k2⟩ := hrel
    by_cases hlt : k < n
    · obtain ⟨h1, h2⟩ := HC.out k hlt
      replace h1 := (hbl.cell (p := ⟨g, k * 2, none⟩) hg).trans h1
      replace h2 := (hbl.cell (p := ⟨g, k * 2 + 1, none⟩) hg).trans h2
      have hlen : ((scaledL f x).take k).length = k := by rw [List.length_take]; have := HPL.out; omega
      have hlo : k < (setO ((scaledL f x).take k) n).length := by rw [setO_len _ _ (by omega)]; exact hlt
      have hst0 := setO_step ((scaledL f x).take k) (timesO (f.getD k (some 0)) (some x)) n k hlen hlt
      rw [← scaledL_succ f x k (by rw [HN.out]; exact hlt)] at hst0
      have HST := Lib.hid hst0
      have HLO := Lib.hid hlo
      have hol := HL.out k
      generalize f.getD k (some 0) = o at *
      have HOWN := Lib.hid hown
      have hgn : ¬ w.heap.size + 1 = g := by omega
      have hmt := m_times
      clear hlen hst0 hlo hown
      go_wp2
      go_region_held3 (fun W' => W'.cell? ⟨w.heap.size, 0, none⟩ = some (.int .i64 x) ∧ W'.cell? ⟨w.heap.size, 1, none⟩ = some (.bool false) ∧ W'.cell? ⟨g, k * 2, none⟩ = some (.int .i64 (numO o)) ∧ W'.cell? ⟨g, k * 2 + 1, none⟩ = some (.bool o.isNone))
        (first | (exact ⟨k1, k2, h1, h2⟩) | (go_split_ands; exact ⟨b4.keep (by assumption), b4.keep (by assumption), b4.keep (by assumption), b4.keep (by assumption)⟩) | go_keep)
        (first | (go_at_call 35; refine (wtimesA o (some x) hol (OLim.some HXL.out) _).mono ?_; rintro e w4 ⟨rfl, b4⟩; have bb := (((Qt.refl wr).drew).below.next b4); have hown4 := ownsRow_chg HOWN.out (bb.chg 0 0) (fun _ _ => .inr (Nat.zero_le _)); have d0 := (hown4.cellAt (k * 2) (by omega)).trans (flatO_get _ k HLO.out).1; have d1 := (hown4.cellAt (k * 2 + 1) (by omega)).trans (flatO_get _ k HLO.out).2; have f0 := hown4.frozenAt (k * 2); have f1 := hown4.frozenAt (k * 2 + 1)))
      have hst := ((hown4.stored (k * 2) (.int .i64 (numO (timesO o (some x))))).1.stored (k * 2 + 1) (.bool (timesO o (some x)).isNone)).1
      rw [flatO_set _ _ _ HLO.out, HST.out] at hst
      have HS := Lib.hid hst
      have hB4 := hbl.trans (bb.mono (by omega : w.heap.size ≤ wr.heap.size))
      have hz4 : w.heap.size + 1 < w4.heap.size := Nat.lt_of_lt_of_le hz bb.size
      have y1 := bb.keep k1
      have y2 := bb.keep k2
      have K1 : ((w4.setCell ⟨w.heap.size + 1, k * 2, none⟩ (.int .i64 (numO (timesO o (some x))))).setCell ⟨w.heap.size + 1, k * 2 + 1, none⟩ (.bool (timesO o (some x)).isNone)).cell? ⟨w.heap.size, 0, none⟩ = some (.int .i64 x) := by
        rw [World.cell?_setCell_other _ _ _ _ (by simp), World.cell?_setCell_other _ _ _ _ (by simp)]; exact y1
      have K2 : ((w4.setCell ⟨w.heap.size + 1, k * 2, none⟩ (.int .i64 (numO (timesO o (some x))))).setCell ⟨w.heap.size + 1, k * 2 + 1, none⟩ (.bool (timesO o (some x)).isNone)).cell? ⟨w.heap.size, 1, none⟩ = some (.bool false) := by
        rw [World.cell?_setCell_other _ _ _ _ (by simp), World.cell?_setCell_other _ _ _ _ (by simp)]; exact y2
      have HK1 := Lib.hid K1
      have HK2 := Lib.hid K2
      clear hst hown4 hmt K1 K2
      go_wp2
      go_roundw
      case rel => exact ⟨k+1, by omega, by go_num, HS.out, (hB4.setCell (Nat.le_succ _) _).setCell (Nat.le_succ _) _, by simp [World.setCell]; exact hz4, HK1.out, HK2.out⟩
      case measure => simp [intOf]; omega
    · go_wp2
      go_ret
      obtain rfl : k = n := by omega
      have e1 : setO ((scaledL f x).take k) k = scaledL f x := by
        rw [List.take_of_length_le (by rw [HPL.out]; exact Nat.le_refl _)]
        simp [setO, HPL.out]
      rw [e1] at hown
      exact ⟨_, rfl, ownsRow_mono hown (Nat.le_succ _), hbl⟩

theorem scaled_nil (a : Option Addr) (cap : Nat) (x : Int) (w : World) :
    Calls Try.prog 30 #[.slice a 0 cap, .agg #[.int .i64 x, .bool false]] w fun e w' => ∃ v, e = .returned v ∧ w'.ownsRow w.heap.size 45 2 v 0 (flatO []) ∧ Below w.heap.size w w' := by
  obtain ⟨i0, hi', z0, z1, z2⟩ := info_parts Try.info45
  have hb0 : ∀ o, Below w.heap.size w (w.alloc o) := fun o => (Below.refl _ _).alloc (Nat.le_refl _) o
  go_enter Try.func30, Try.ntmps30
  go_wp2_with (at_make; refine wpList_make_full _ rfl _ _ 41 rfl (w.heap.size + 1) 45 i0 (.agg #[.int .i64 0, .bool false]) 2 Try.underlying41 hi' z0 z1 _ _ _ _ 0 rfl rfl rfl rfl ?c1 ?c2 ?c3 ?_)
  case c1 => omega
  case c2 => unfold maxLen; omega
  case c3 => simp
  intro w1 hown hgr
  rw [made2b 0] at hown
  have hbl : Below w.heap.size w w1 := (hb0 _).grown hgr (by simp) (by simp)
  clear hgr
  go_wp2
  refine wp_loop_rounds 1 ?_
  rw [rounds_succ]
  go_wp2
  go_ret
  exact ⟨_, rfl, ownsRow_mono hown (Nat.le_succ _), hbl⟩

theorem polyScaled (v : Value) (f : List (Option Int)) (x : Int) (w : World) (hf : RdO w v f) (hn1 : f.length ≤ 1000) (hx : Lim x) :
    Calls Try.prog 30 #[v, .agg #[.int .i64 x, .bool false]] w fun e w' => ∃ v', e = .returned v' ∧ w'.ownsRow w.heap.size 45 2 v' f.length (flatO (scaledL f x)) ∧ Below w.heap.size w w' := by
  obtain ⟨h0, ⟨a, cap, rfl, rfl⟩ | ⟨g, cap, rfl, _, hg, hc⟩⟩ := hf
  · exact scaled_nil a cap x w
  · exact scaled_ne _ g cap f x w rfl hn1 h0 hx hg hc

end Go.Proofs.Ytmccajkndjoooaa
