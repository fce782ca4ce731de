/- Lists of numbers modulo a prime, of the program: weighted sums. -/
import Derived.Test.YtebgbplhcaocoaaImplWw
set_option linter.unusedSimpArgs false
set_option linter.unusedVariables false
set_option maxRecDepth 100000
namespace Go.Proofs.Ytebgbplhcaocoaa
open Go.RowKit

/-- a slice reads as a list of pairs -/
def RdP (w : World) (a : Option Addr) (es : List (Int × Int)) : Prop := ∀ j, j < es.length → ∃ b off, a = some ⟨b, off, none⟩ ∧ w.cell? ⟨b, off + j * 2, none⟩ = some (.int .i64 (es.getD j (0, 0)).1) ∧ w.cell? ⟨b, off + j * 2 + 1, none⟩ = some (.int .i64 (es.getD j (0, 0)).2)
theorem RdP.below {w w' : World} {a : Option Addr} {es : List (Int × Int)} (h : RdP w a es) (hb : Below w.heap.size w w') : RdP w' a es := fun j hj => by
  obtain ⟨b, off, h1, h2, h3⟩ := h j hj
  exact ⟨b, off, h1, hb.keep h2, hb.keep h3⟩
/-- numbers modulo p -/
def rp (p : Int) (xs : List Int) : List (Int × Int) := xs.map (fun x => (x, p))
theorem rp_len (p : Int) (xs : List Int) : (rp p xs).length = xs.length := by simp [rp]
theorem rp_get {p : Int} {xs : List Int} {j : Nat} (h : j < xs.length) : (rp p xs).getD j (0, 0) = (xs.getD j 0, p) := by
  simp [rp, List.getD, List.getElem?_eq_getElem h]
/-- the sum of the first k products -/
def wsN (p : Int) (xs ys : List Int) : Nat → Int
  | 0 => 0
  | k + 1 => (wsN p xs ys k + xs.getD k 0 * ys.getD k 0) % p
theorem wsN_in {p : Int} {xs ys : List Int} (hp : 2 ≤ p) : ∀ k, 0 ≤ wsN p xs ys k ∧ wsN p xs ys k < p
  | 0 => ⟨by unfold wsN; omega, by unfold wsN; omega⟩
  | k + 1 => ⟨Int.emod_nonneg _ (by omega), Int.emod_lt_of_pos _ (by omega)⟩
theorem resPlusG (x y px p : Int) (w : World) (hpx : (px = 0 ∧ x = 0) ∨ px = p) (hx : 0 ≤ x ∧ x ≤ 10007) (hy : 0 ≤ y ∧ y ≤ 10007) (hp : 1 ≤ p ∧ p ≤ 10007) :
    Calls Try.prog 229 #[.agg #[.int .i64 x, .int .i64 px], .agg #[.int .i64 y, .int .i64 p]] w fun e w' => e = .returned (.agg #[.int .i64 ((x + y) % p), .int .i64 p]) ∧ Below w.heap.size w w' := by
  rcases hpx with ⟨h1, h2⟩ | h1
  · rw [h1, h2, Int.zero_add]; exact resPlus0 y p w hy hp
  · rw [h1]; exact resPlus x y p w hx hy hp

theorem r_times (f : Nat) (a c : Int) (w : World) : Sem.run Try.prog (method (f + 1) 119 (.agg #[.int .i64 a, .int .i64 c]) "loop.example/g01298/impl.times") w = .ok (230, .agg #[.int .i64 a, .int .i64 c]) w := by kernel_rfl
theorem r_plus (f : Nat) (a c : Int) (w : World) : Sem.run Try.prog (method (f + 1) 119 (.agg #[.int .i64 a, .int .i64 c]) "loop.example/g01298/impl.plus") w = .ok (229, .agg #[.int .i64 a, .int .i64 c]) w := by kernel_rfl

/-- what a round leaves in the sum's box -/
theorem ws_close {w wr w5 : World} {R : Nat} {r p : Int} {u0 u1 : Value} (hB : Below w.heap.size w wr) (bw : Below wr.heap.size wr w5) (hR : w.heap.size ≤ R) (hz : R + 1 < wr.heap.size)
    (y0 : w5.cell? ⟨R + 1, 0, none⟩ = some u0) (y1 : w5.cell? ⟨R + 1, 1, none⟩ = some u1) (z0 : w5.frozen? ⟨R + 1, 0, none⟩ = false) (z1 : w5.frozen? ⟨R + 1, 1, none⟩ = false)
    (c0 : wr.cell? ⟨R, 0, none⟩ = some (.int .i64 0)) (c1 : wr.cell? ⟨R, 1, none⟩ = some (.int .i64 0)) (f0 : wr.frozen? ⟨R, 0, none⟩ = false) (f1 : wr.frozen? ⟨R, 1, none⟩ = false) :
    (R + 1 < ((w5.setCell ⟨R + 1, 0, none⟩ (.int .i64 r)).setCell ⟨R + 1, 1, none⟩ (.int .i64 p)).heap.size ∧
      ((w5.setCell ⟨R + 1, 0, none⟩ (.int .i64 r)).setCell ⟨R + 1, 1, none⟩ (.int .i64 p)).cell? ⟨R + 1, 0, none⟩ = some (.int .i64 r) ∧ ((w5.setCell ⟨R + 1, 0, none⟩ (.int .i64 r)).setCell ⟨R + 1, 1, none⟩ (.int .i64 p)).cell? ⟨R + 1, 1, none⟩ = some (.int .i64 p) ∧
      ((w5.setCell ⟨R + 1, 0, none⟩ (.int .i64 r)).setCell ⟨R + 1, 1, none⟩ (.int .i64 p)).frozen? ⟨R + 1, 0, none⟩ = false ∧ ((w5.setCell ⟨R + 1, 0, none⟩ (.int .i64 r)).setCell ⟨R + 1, 1, none⟩ (.int .i64 p)).frozen? ⟨R + 1, 1, none⟩ = false) ∧
    (((w5.setCell ⟨R + 1, 0, none⟩ (.int .i64 r)).setCell ⟨R + 1, 1, none⟩ (.int .i64 p)).cell? ⟨R, 0, none⟩ = some (.int .i64 0) ∧ ((w5.setCell ⟨R + 1, 0, none⟩ (.int .i64 r)).setCell ⟨R + 1, 1, none⟩ (.int .i64 p)).cell? ⟨R, 1, none⟩ = some (.int .i64 0) ∧
      ((w5.setCell ⟨R + 1, 0, none⟩ (.int .i64 r)).setCell ⟨R + 1, 1, none⟩ (.int .i64 p)).frozen? ⟨R, 0, none⟩ = false ∧ ((w5.setCell ⟨R + 1, 0, none⟩ (.int .i64 r)).setCell ⟨R + 1, 1, none⟩ (.int .i64 p)).frozen? ⟨R, 1, none⟩ = false) ∧
    Below w.heap.size w ((w5.setCell ⟨R + 1, 0, none⟩ (.int .i64 r)).setCell ⟨R + 1, 1, none⟩ (.int .i64 p)) := by
  have hs := bw.size
  refine ⟨⟨by simp [World.setCell]; omega, ?_, ?_, ?_, ?_⟩, ⟨?_, ?_, ?_, ?_⟩, ((hB.next bw).setCell (by simp; omega) _).setCell (by simp; omega) _⟩
  · rw [World.cell?_setCell_other _ _ _ _ (by simp), World.cell?_setCell_same _ _ _ y0]
  · rw [World.cell?_setCell_same _ _ _ (by rw [World.cell?_setCell_other _ _ _ _ (by simp)]; exact y1)]
  · rw [World.frozen?_setCell, World.frozen?_setCell]; exact z0
  · rw [World.frozen?_setCell, World.frozen?_setCell]; exact z1
  · rw [World.cell?_setCell_other _ _ _ _ (by simp), World.cell?_setCell_other _ _ _ _ (by simp)]; exact bw.keep c0
  · rw [World.cell?_setCell_other _ _ _ _ (by simp), World.cell?_setCell_other _ _ _ _ (by simp)]; exact bw.keep c1
  · rw [World.frozen?_setCell, World.frozen?_setCell]; exact bw.keepf (by show R < wr.heap.size; omega) f0
  · rw [World.frozen?_setCell, World.frozen?_setCell]; exact bw.keepf (by show R < wr.heap.size; omega) f1

set_option maxHeartbeats 3200000 in
theorem wSum (p : Int) (xs ys : List Int) (a : Option Addr) (n c : Nat) (a2 : Option Addr) (n2 c2 : Nat) (w : World) (h1 : RdP w a (rp p xs)) (hl : xs.length = n) (h2 : RdP w a2 (rp p ys)) (hl2 : ys.length = n2) (hn : n ≤ n2) (hn40 : n2 ≤ 40)
    (hx : ∀ j, j < n → 0 ≤ xs.getD j 0 ∧ xs.getD j 0 < p) (hy : ∀ j, j < n2 → 0 ≤ ys.getD j 0 ∧ ys.getD j 0 < p) (hp : 2 ≤ p ∧ p ≤ 10007) :
    Calls Try.prog 182 #[.slice a n c, .slice a2 n2 c2] w fun e w' => (∃ px : Int, e = .returned (.agg #[.int .i64 (wsN p xs ys n), .int .i64 px]) ∧ (0 < n → px = p)) ∧ Below w.heap.size w w' := by
  have hb0 : ∀ o o', Below w.heap.size w ((w.alloc o).alloc o') := fun o o' => ((Below.refl _ _).alloc (Nat.le_refl _) o).alloc (by simp) o'
  have H1 := Lib.hid (fun j (hj : j < n) => show ∃ b off, a = some ⟨b, off, none⟩ ∧ w.cell? ⟨b, off + j * 2, none⟩ = some (.int .i64 (xs.getD j 0)) ∧ w.cell? ⟨b, off + j * 2 + 1, none⟩ = some (.int .i64 p) by
    have := h1 j (by rw [rp_len, hl]; exact hj)
    rw [rp_get (by rw [hl]; exact hj)] at this
    exact this)
  have H2 := Lib.hid (fun j (hj : j < n2) => show ∃ b off, a2 = some ⟨b, off, none⟩ ∧ w.cell? ⟨b, off + j * 2, none⟩ = some (.int .i64 (ys.getD j 0)) ∧ w.cell? ⟨b, off + j * 2 + 1, none⟩ = some (.int .i64 p) by
    have := h2 j (by rw [rp_len, hl2]; exact hj)
    rw [rp_get (by rw [hl2]; exact hj)] at this
    exact this)
  have HX := Lib.hid hx
  have HY := Lib.hid hy
  have HI := Lib.hid (fun k => wsN_in (p := p) (xs := xs) (ys := ys) hp.1 k)
  clear h1 h2 hx hy hl hl2
  have hmt := r_times
  have hmp := r_plus
  obtain ⟨R, hR⟩ : ∃ R, R = w.heap.size := ⟨_, rfl⟩
  have HR := Lib.hid hR
  go_enter Try.func182, Try.ntmps182
  go_wp2
  have hb1 := hb0 (.cells #[.int .i64 0, .int .i64 0] 119) (.cells #[.int .i64 0, .int .i64 0] 119)
  have HF : Hid ((R + 1 < ((w.alloc (.cells #[.int .i64 0, .int .i64 0] 119)).alloc (.cells #[.int .i64 0, .int .i64 0] 119)).heap.size ∧
    ((w.alloc (.cells #[.int .i64 0, .int .i64 0] 119)).alloc (.cells #[.int .i64 0, .int .i64 0] 119)).cell? ⟨R + 1, 0, none⟩ = some (.int .i64 0) ∧
    ((w.alloc (.cells #[.int .i64 0, .int .i64 0] 119)).alloc (.cells #[.int .i64 0, .int .i64 0] 119)).cell? ⟨R + 1, 1, none⟩ = some (.int .i64 0) ∧
    ((w.alloc (.cells #[.int .i64 0, .int .i64 0] 119)).alloc (.cells #[.int .i64 0, .int .i64 0] 119)).frozen? ⟨R + 1, 0, none⟩ = false ∧
    ((w.alloc (.cells #[.int .i64 0, .int .i64 0] 119)).alloc (.cells #[.int .i64 0, .int .i64 0] 119)).frozen? ⟨R + 1, 1, none⟩ = false) ∧
    (((w.alloc (.cells #[.int .i64 0, .int .i64 0] 119)).alloc (.cells #[.int .i64 0, .int .i64 0] 119)).cell? ⟨R, 0, none⟩ = some (.int .i64 0) ∧
    ((w.alloc (.cells #[.int .i64 0, .int .i64 0] 119)).alloc (.cells #[.int .i64 0, .int .i64 0] 119)).cell? ⟨R, 1, none⟩ = some (.int .i64 0) ∧
    ((w.alloc (.cells #[.int .i64 0, .int .i64 0] 119)).alloc (.cells #[.int .i64 0, .int .i64 0] 119)).frozen? ⟨R, 0, none⟩ = false ∧
    ((w.alloc (.cells #[.int .i64 0, .int .i64 0] 119)).alloc (.cells #[.int .i64 0, .int .i64 0] 119)).frozen? ⟨R, 1, none⟩ = false)) := Lib.hid ⟨⟨by rw [hR]; simp, by rw [hR]; go_simp, by rw [hR]; go_simp, by rw [hR]; go_simp, by rw [hR]; go_simp⟩, by rw [hR]; go_simp, by rw [hR]; go_simp, by rw [hR]; go_simp, by rw [hR]; go_simp⟩
  rw [← hR]
  have HB0 := Lib.hid hb1
  clear hb1 hR
  generalize (w.alloc _).alloc _ = V0 at HF HB0 ⊢
  go_loopw [10] (fun i wr => ∃ (k : Nat) (px : Int), k ≤ n ∧ i = .int .i64 k ∧ Hid (px = if k = 0 then 0 else p) ∧ (R + 1 < wr.heap.size ∧ wr.cell? ⟨R + 1, 0, none⟩ = some (.int .i64 (wsN p xs ys k)) ∧ wr.cell? ⟨R + 1, 1, none⟩ = some (.int .i64 px) ∧ wr.frozen? ⟨R + 1, 0, none⟩ = false ∧ wr.frozen? ⟨R + 1, 1, none⟩ = false) ∧
    (wr.cell? ⟨R, 0, none⟩ = some (.int .i64 0) ∧ wr.cell? ⟨R, 1, none⟩ = some (.int .i64 0) ∧ wr.frozen? ⟨R, 0, none⟩ = false ∧ wr.frozen? ⟨R, 1, none⟩ = false) ∧ Below w.heap.size w wr) (fun i _ => n - (intOf i).toNat)
  case atStart => exact ⟨0, 0, Nat.zero_le _, rfl, Lib.hid rfl, HF.out.1, HF.out.2, HB0.out⟩
  case round =>
    clear HF HB0
    obtain ⟨k, px, hk, rfl, HPX, ⟨hz, c0, c1, f0, f1⟩, ⟨d0, d1, e0, e1⟩, hB⟩ := hrel
    by_cases hlt : k < n
    · obtain ⟨b, off, rfl, g0, g1⟩ := H1.out k hlt
      obtain ⟨b', off', rfl, g2, g3⟩ := H2.out k (by omega)
      replace g0 := hB.keep g0
      replace g1 := hB.keep g1
      replace g2 := hB.keep g2
      replace g3 := hB.keep g3
      obtain ⟨hx0, hx1⟩ := HX.out k hlt
      obtain ⟨hy0, hy1⟩ := HY.out k (by omega)
      obtain ⟨hs0, hs1⟩ := HI.out k
      have hst : wsN p xs ys (k + 1) = (wsN p xs ys k + xs.getD k 0 * ys.getD k 0) % p := rfl
      generalize xs.getD k 0 = x at g0 hx0 hx1 hst
      generalize ys.getD k 0 = y at g2 hy0 hy1 hst
      have HPP : Hid ((px = 0 ∧ wsN p xs ys k = 0) ∨ px = p) := Lib.hid (by
        rw [HPX.out]
        by_cases e : k = 0
        · subst e; exact .inl ⟨by simp, rfl⟩
        · exact .inr (by simp [e]))
      generalize wsN p xs ys k = s0 at hs0 hs1 hst c0 HPP
      have HST := Lib.hid hst
      have HB := Lib.hid hB
      have HZ := Lib.hid hz
      have HK := Lib.hid (⟨d0, d1, e0, e1⟩ : _ ∧ _ ∧ _ ∧ _)
      have hkn : (k : Int) < (n2 : Int) := by omega
      have hm0 := Int.emod_nonneg (x * y) (show p ≠ 0 by omega)
      have hm1 := Int.emod_lt_of_pos (x * y) (show 0 < p by omega)
      clear hst hB hz d0 d1 e0 e1
      have hA : Below wr.heap.size wr (wr.alloc (.cells #[.int .i64 x, .int .i64 p] 119)) := (Below.refl _ _).alloc (Nat.le_refl _) _
      have v0 : (wr.alloc (.cells #[.int .i64 x, .int .i64 p] 119)).cell? ⟨wr.heap.size, 0, none⟩ = some (.int .i64 x) := by go_simp
      have v1 : (wr.alloc (.cells #[.int .i64 x, .int .i64 p] 119)).cell? ⟨wr.heap.size, 1, none⟩ = some (.int .i64 p) := by go_simp
      have v2 := hA.keep g2
      have v3 := hA.keep g3
      have v4 := hA.keep c0
      have v5 := hA.keep c1
      have v6 := hA.keepf (show R + 1 < wr.heap.size from HZ.out) f0
      have v7 := hA.keepf (show R + 1 < wr.heap.size from HZ.out) f1
      go_wp2
      obtain ⟨V, hV⟩ : ∃ V, V = wr.alloc (.cells #[.int .i64 x, .int .i64 p] 119) := ⟨_, rfl⟩
      rw [← hV] at v0 v1 v2 v3 v4 v5 v6 v7 hA ⊢
      have HA := Lib.hid (⟨hA, Nat.lt_of_lt_of_le (Nat.lt_of_lt_of_le (Nat.lt_succ_self _) (Nat.le_refl (R + 1 + 1))) (Nat.le_trans (Nat.succ_le_of_lt HZ.out) hA.size)⟩ : _ ∧ R + 1 < V.heap.size)
      have q2 := (Qt.refl V).drew.below.keep v2
      have q3 := (Qt.refl V).drew.below.keep v3
      have q4 := (Qt.refl V).drew.below.keep v4
      have q5 := (Qt.refl V).drew.below.keep v5
      clear hV hA g0 g1 g2 g3 c0 c1 f0 f1
      go_region_with (first
        | (go_at_call 230; refine (resTimes x y p _ (by omega) (by omega) (by omega)).mono ?_; rintro e w4 ⟨rfl, b4⟩; have i0 := b4.keep q4; have i1 := b4.keep q5)
        | (go_at_call 229; refine (resPlusG s0 (x * y % p) px p _ HPP.out (by omega) (by omega) (by omega)).mono ?_; rintro e w5 ⟨rfl, b5⟩; have y0 := b5.keep i0; have y1 := b5.keep i1; have z0 := b5.keepf (show R + 1 < w4.heap.size from Nat.lt_of_lt_of_le HA.out.2 b4.size) (b4.keepf (show R + 1 < V.heap.size from HA.out.2) v6); have z1 := b5.keepf (show R + 1 < w4.heap.size from Nat.lt_of_lt_of_le HA.out.2 b4.size) (b4.keepf (show R + 1 < V.heap.size from HA.out.2) v7); clear i0 i1))
      all_goals
        have bw : Below wr.heap.size wr w5 := ((HA.out.1.qt (Qt.refl _).drew).next b4).next b5
        have HF := Lib.hid (ws_close (r := (s0 + x * y) % p) (p := p) HB.out bw (Nat.le_of_eq HR.out.symm) HZ.out y0 y1 z0 z1 HK.out.1 HK.out.2.1 HK.out.2.2.1 HK.out.2.2.2)
        clear bw y0 y1 z0 z1 b4 b5 v0 v1 v2 v3 v4 v5 v6 v7 q2 q3 q4 q5 hmt hmp
        rw [← HST.out] at HF ⊢
        go_wp2
        go_roundw
        case rel => exact ⟨k+1, p, by omega, by go_num, Lib.hid (by simp), HF.out⟩
        case measure => simp [intOf]; omega
    · obtain rfl : k = n := by omega
      have HB := Lib.hid hB
      have hfin : Below w.heap.size w ((wr.setCell ⟨R, 0, none⟩ (.int .i64 (wsN p xs ys k))).setCell ⟨R, 1, none⟩ (.int .i64 px)) := (hB.setCell (Nat.le_of_eq HR.out.symm) _).setCell (Nat.le_of_eq HR.out.symm) _
      have v0 : ((wr.setCell ⟨R, 0, none⟩ (.int .i64 (wsN p xs ys k))).setCell ⟨R, 1, none⟩ (.int .i64 px)).cell? ⟨R, 0, none⟩ = some (.int .i64 (wsN p xs ys k)) := by
        rw [World.cell?_setCell_other _ _ _ _ (by simp)]; exact World.cell?_setCell_same _ _ _ d0
      have v1 : ((wr.setCell ⟨R, 0, none⟩ (.int .i64 (wsN p xs ys k))).setCell ⟨R, 1, none⟩ (.int .i64 px)).cell? ⟨R, 1, none⟩ = some (.int .i64 px) := World.cell?_setCell_same _ _ _ (by rw [World.cell?_setCell_other _ _ _ _ (by simp)]; exact d1)
      clear hB hmt hmp
      go_wp2
      refine bodyPost_ret (v := .agg #[.int .i64 (wsN p xs ys k), .int .i64 px]) (by simp [results, Try.results182, go_sem, v0, v1]) rfl ⟨⟨px, rfl, fun h => by rw [HPX.out, if_neg (by omega)]⟩, hfin⟩

end Go.Proofs.Ytebgbplhcaocoaa
