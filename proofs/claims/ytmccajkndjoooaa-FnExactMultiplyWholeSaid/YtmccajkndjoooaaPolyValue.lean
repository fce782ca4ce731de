/- The program's value of a polynomial of bounded numbers. -/
import Derived.Test.YtmccajkndjoooaaWholes
import Derived.Deep.RegionWith
set_option linter.unusedSimpArgs false
set_option linter.unusedVariables false
namespace Go.Proofs.Ytmccajkndjoooaa
open Go.RowKit

theorem wtimesA (o p : Option Int) (ho : OLim o) (hp : OLim p) (w : World) :
    Calls Try.prog 35 #[.agg #[.int .i64 (numO o), .bool o.isNone], .agg #[.int .i64 (numO p), .bool p.isNone]] w fun e w' => e = .returned (.agg #[.int .i64 (numO (timesO o p)), .bool (timesO o p).isNone]) ∧ Below w.heap.size w w' := by
  have := wtimes o p ho hp w
  rw [wv_agg, wv_agg, wv_agg] at this
  exact this
theorem wplusA (o p : Option Int) (ho : OLim o) (hp : OLim p) (w : World) :
    Calls Try.prog 57 #[.agg #[.int .i64 (numO o), .bool o.isNone], .agg #[.int .i64 (numO p), .bool p.isNone]] w fun e w' => e = .returned (.agg #[.int .i64 (numO (plusO o p)), .bool (plusO o p).isNone]) ∧ Below w.heap.size w w' := by
  have := wplus o p ho hp w
  rw [wv_agg, wv_agg, wv_agg] at this
  exact this
theorem timesO_lim (o p : Option Int) : OLim (timesO o p) := by
  unfold timesO
  cases fits (numO o) (numO p) with
  | true => exact mk?_lim _ _
  | false => intro v h; cases h
theorem plusO_lim (o p : Option Int) : OLim (plusO o p) := mk?_lim _ _
theorem OLim.some {x : Int} (h : Lim x) : OLim (some x) := fun v e => by cases e; exact h
theorem step_same (o : Option Int) (x c : Int) : plusO (timesO o (some x)) (some c) = valStep x c o := by
  cases o with
  | none => 
    have : fits (numO none) (numO (some x)) = true := by simp [fits, numO]
    simp [timesO, this, plusO, mk?, valStep]
  | some v =>
    unfold timesO valStep
    have e1 : numO (some v) = v := rfl
    have e2 : numO (some x) = x := rfl
    rw [e1, e2]
    cases hf : fits v x with
    | false => simp [plusO, mk?, moreB, hf]
    | true =>
      have hi : inW (v * x) = true := hf
      have e3 : v * x + c = c + v * x := Int.add_comm _ _
      simp [plusO, mk?, moreB, hf, hi, numO, e3]
      cases inW (c + v * x) <;> simp

theorem m_times (f : Nat) (a : Int) (c : Bool) (w : World) : Sem.run Try.prog (method (f + 1) 45 (.agg #[.int .i64 a, .bool c]) "loop.example/g01298/impl.times") w = .ok (35, .agg #[.int .i64 a, .bool c]) w := by kernel_rfl
theorem m_plus (f : Nat) (a : Int) (c : Bool) (w : World) : Sem.run Try.prog (method (f + 1) 45 (.agg #[.int .i64 a, .bool c]) "loop.example/g01298/impl.plus") w = .ok (57, .agg #[.int .i64 a, .bool c]) w := by kernel_rfl

/-- what a round leaves: the boxes are as they were, but for the value's own -/
theorem value_close {w wr w2 : World} {x A : Int} {C : Bool} (hB : Below w.heap.size w wr) (bw : Below wr.heap.size wr w2) (hz : w.heap.size + 1 + 1 < wr.heap.size)
    (hK : wr.cell? ⟨w.heap.size, 0, none⟩ = some (.int .i64 x) ∧ wr.cell? ⟨w.heap.size, 1, none⟩ = some (.bool false) ∧
      wr.cell? ⟨w.heap.size + 1, 0, none⟩ = some (.int .i64 0) ∧ wr.cell? ⟨w.heap.size + 1, 1, none⟩ = some (.bool false) ∧ wr.frozen? ⟨w.heap.size + 1, 0, none⟩ = false ∧ wr.frozen? ⟨w.heap.size + 1, 1, none⟩ = false)
    {u5 u6 : Value} (y5 : w2.cell? ⟨w.heap.size + 1 + 1, 0, none⟩ = some u5) (y6 : w2.cell? ⟨w.heap.size + 1 + 1, 1, none⟩ = some u6) (x5 : w2.frozen? ⟨w.heap.size + 1 + 1, 0, none⟩ = false) (x6 : w2.frozen? ⟨w.heap.size + 1 + 1, 1, none⟩ = false)
    {W : World} (hW : W = (w2.setCell ⟨w.heap.size + 1 + 1, 0, none⟩ (.int .i64 A)).setCell ⟨w.heap.size + 1 + 1, 1, none⟩ (.bool C)) :
    W.cell? ⟨w.heap.size, 0, none⟩ = some (.int .i64 x) ∧ W.cell? ⟨w.heap.size, 1, none⟩ = some (.bool false) ∧
      W.cell? ⟨w.heap.size + 1, 0, none⟩ = some (.int .i64 0) ∧ W.cell? ⟨w.heap.size + 1, 1, none⟩ = some (.bool false) ∧ W.frozen? ⟨w.heap.size + 1, 0, none⟩ = false ∧ W.frozen? ⟨w.heap.size + 1, 1, none⟩ = false ∧
      W.cell? ⟨w.heap.size + 1 + 1, 0, none⟩ = some (.int .i64 A) ∧ W.cell? ⟨w.heap.size + 1 + 1, 1, none⟩ = some (.bool C) ∧ W.frozen? ⟨w.heap.size + 1 + 1, 0, none⟩ = false ∧ W.frozen? ⟨w.heap.size + 1 + 1, 1, none⟩ = false ∧
      Below w.heap.size w W ∧ w.heap.size + 1 + 1 < W.heap.size := by
  obtain ⟨k1, k2, k3, k4, f3, f4⟩ := hK
  have e1 := bw.keep k1
  have e2 := bw.keep k2
  have e3 := bw.keep k3
  have e4 := bw.keep k4
  have q3 := bw.keepf (show _ < wr.heap.size from by show w.heap.size + 1 < _; omega) f3
  have q4 := bw.keepf (show _ < wr.heap.size from by show w.heap.size + 1 < _; omega) f4
  have hs := bw.size
  subst hW
  refine ⟨?_, ?_, ?_, ?_, ?_, ?_, ?_, ?_, ?_, ?_, ?_, ?_⟩
  · rw [World.cell?_setCell_other _ _ _ _ (by simp; try omega), World.cell?_setCell_other _ _ _ _ (by simp; try omega)]; exact e1
  · rw [World.cell?_setCell_other _ _ _ _ (by simp; try omega), World.cell?_setCell_other _ _ _ _ (by simp; try omega)]; exact e2
  · rw [World.cell?_setCell_other _ _ _ _ (by simp), World.cell?_setCell_other _ _ _ _ (by simp)]; exact e3
  · rw [World.cell?_setCell_other _ _ _ _ (by simp), World.cell?_setCell_other _ _ _ _ (by simp)]; exact e4
  · rw [World.frozen?_setCell, World.frozen?_setCell]; exact q3
  · rw [World.frozen?_setCell, World.frozen?_setCell]; exact q4
  · rw [World.cell?_setCell_other _ _ _ _ (by simp), World.cell?_setCell_same _ _ _ y5]
  · rw [World.cell?_setCell_same _ _ _ (by rw [World.cell?_setCell_other _ _ _ _ (by simp)]; exact y6)]
  · rw [World.frozen?_setCell, World.frozen?_setCell]; exact x5
  · rw [World.frozen?_setCell, World.frozen?_setCell]; exact x6
  · exact ((hB.trans (bw.mono (by omega))).setCell (by simp; omega) _).setCell (by simp; omega) _
  · simp [World.setCell]; omega

set_option maxHeartbeats 8000000 in
theorem value_ne (n b cap : Nat) (os : List Int) (x : Int) (w : World) (hn : n ≤ 40) (hx : os.length = n) (hl : ∀ j, j < n → Lim (os.getD j 0)) (hxl : Lim x) (hb : b < w.heap.size)
    (hc : ∀ j, j < n → w.cell? ⟨b, j * 2, none⟩ = some (.int .i64 (os.getD j 0)) ∧ w.cell? ⟨b, j * 2 + 1, none⟩ = some (.bool false)) :
    Calls Try.prog 33 #[.slice (some ⟨b, 0, none⟩) n cap, .agg #[.int .i64 x, .bool false]] w fun e w' => e = .returned (.agg #[.int .i64 (numO (valW os x)), .bool (valW os x).isNone]) ∧ Below w.heap.size w w' := by
  have HX := Lib.hid hx
  have HC := Lib.hid hc
  have HL := Lib.hid hl
  have HXL := Lib.hid hxl
  clear hx hc hl hxl
  have hb0 : ∀ o, Below w.heap.size w (w.alloc o) := fun o => (Below.refl _ _).alloc (Nat.le_refl _) o
  go_enter Try.func33, Try.ntmps33
  go_wp2
  go_loopw [6] (fun i wr => ∃ (k : Nat) (o : Option Int), k ≤ n ∧ i = .int .i64 ((k : Int) - 1) ∧ OLim o ∧ valW (os.drop k) x = o ∧
      wr.cell? ⟨w.heap.size, 0, none⟩ = some (.int .i64 x) ∧ wr.cell? ⟨w.heap.size, 1, none⟩ = some (.bool false) ∧
      wr.cell? ⟨w.heap.size + 1, 0, none⟩ = some (.int .i64 0) ∧ wr.cell? ⟨w.heap.size + 1, 1, none⟩ = some (.bool false) ∧ wr.frozen? ⟨w.heap.size + 1, 0, none⟩ = false ∧ wr.frozen? ⟨w.heap.size + 1, 1, none⟩ = false ∧
      wr.cell? ⟨w.heap.size + 1 + 1, 0, none⟩ = some (.int .i64 (numO o)) ∧ wr.cell? ⟨w.heap.size + 1 + 1, 1, none⟩ = some (.bool o.isNone) ∧ wr.frozen? ⟨w.heap.size + 1 + 1, 0, none⟩ = false ∧ wr.frozen? ⟨w.heap.size + 1 + 1, 1, none⟩ = false ∧
      Below w.heap.size w wr ∧ w.heap.size + 1 + 1 < wr.heap.size) (fun i _ => (intOf i + 1).toNat)
  case atStart => exact ⟨n, some 0, Nat.le_refl _, rfl, OLim.some (by unfold Lim; omega), by rw [List.drop_of_length_le (by rw [HX.out]; exact Nat.le_refl _)]; rfl, by go_simp, by go_simp, by go_simp, by go_simp, by go_simp, by go_simp, by go_simp; rfl, by go_simp, by go_simp, by go_simp, ((hb0 _).alloc (by simp) _).alloc (by simp; omega) _, by simp⟩
  case round =>
    obtain ⟨k, o, hk, rfl, ho, hval, k1, k2, k3, k4, f3, f4, k5, k6, f5, f6, hB, hz⟩ := hrel
    have HV := Lib.hid hval
    clear hval
    by_cases hlt : 0 < k
    · obtain ⟨j, rfl⟩ : ∃ j, k = j + 1 := ⟨k - 1, by omega⟩
      obtain ⟨h1, h2⟩ := HC.out j (by omega)
      replace h1 := (hB.cell (p := ⟨b, j * 2, none⟩) hb).trans h1
      replace h2 := (hB.cell (p := ⟨b, j * 2 + 1, none⟩) hb).trans h2
      have hl := HL.out j (by omega)
      generalize hc0 : os.getD j 0 = c0 at *
      have HC0 := Lib.hid hc0
      have HO := Lib.hid ho
      clear hc0 ho
      have hz4 : w.heap.size + 1 < wr.heap.size := by omega
      have HK := Lib.hid (⟨k1, k2, k3, k4, f3, f4⟩ : _ ∧ _ ∧ _ ∧ _ ∧ _ ∧ _)
      have hst := valW_drop os x j (by rw [HX.out]; omega)
      rw [HC0.out, HV.out, ← step_same] at hst
      have HST := Lib.hid hst
      have HF := Lib.hid (⟨f5, f6⟩ : _ ∧ _)
      have HB := Lib.hid hB
      clear k3 k4 f3 f4 f5 f6 hst hb0 hB
      have hmt := m_times
      have hmp := m_plus
      go_wp2
      go_region_with (first
        | (go_at_call 35; refine (wtimesA o (some x) HO.out (OLim.some HXL.out) _).mono ?_; rintro e w1 ⟨rfl, b1⟩; have g1 := b1.keep h1; have g2 := b1.keep h2)
        | (go_at_call 57; refine (wplusA (timesO o (some x)) (some c0) (timesO_lim _ _) (OLim.some hl) _).mono ?_; rintro e w2 ⟨rfl, b2⟩; have hz1 : w.heap.size + 1 + 1 < w1.heap.size := Nat.lt_of_lt_of_le hz b1.size; have y5 := b2.keep (b1.keep k5); have y6 := b2.keep (b1.keep k6); have x5 := b2.keepf (show _ < w1.heap.size from hz1) (b1.keepf (show _ < wr.heap.size from hz) HF.out.1); have x6 := b2.keepf (show _ < w1.heap.size from hz1) (b1.keepf (show _ < wr.heap.size from hz) HF.out.2); clear g1 g2))
      all_goals
        clear hmt hmp
        have bw : Below wr.heap.size wr w2 := (((Qt.refl wr).drew).below.next b1).next b2
        go_wp2
        go_roundw
        case rel => exact ⟨j, plusO (timesO o (some x)) (some c0), by omega, by go_num, plusO_lim _ _, HST.out, value_close HB.out bw hz HK.out y5 y6 x5 x6 rfl⟩
        case measure => simp [intOf] <;> omega
    · obtain rfl : k = 0 := by omega
      have hv : valW os x = o := by simpa using HV.out
      have HV2 := Lib.hid hv
      clear hv
      go_wp2
      refine bodyPost_ret (v := .agg #[.int .i64 (numO o), .bool o.isNone]) (by simp [results, Try.results33, go_sem, k3, k4]) rfl ⟨by rw [HV2.out], ?_⟩
      repeat (refine Below.setCell ?_ (by simp <;> omega) _)
      exact hB

end Go.Proofs.Ytmccajkndjoooaa
