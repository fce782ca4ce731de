/- Rows, columns and products of tables modulo a prime, of the program. -/
import Derived.Test.YtebgbplhcaocoaaResU
set_option linter.unusedSimpArgs false
set_option linter.unusedVariables false
set_option maxRecDepth 100000
namespace Go.Proofs.Ytebgbplhcaocoaa
open Go.RowKit

def rowL (p : Int) (N : Nat) (f : Nat → Nat → Int) (i : Nat) : List Int := (List.range N).map (fun j => f i j % p)
def colL (p : Int) (N : Nat) (f : Nat → Nat → Int) (j : Nat) : List Int := (List.range N).map (fun i => f i j % p)
theorem rowL_len (p : Int) (N : Nat) (f : Nat → Nat → Int) (i : Nat) : (rowL p N f i).length = N := by simp [rowL]
theorem colL_len (p : Int) (N : Nat) (f : Nat → Nat → Int) (i : Nat) : (colL p N f i).length = N := by simp [colL]
theorem rowL_get {p : Int} {N : Nat} {f : Nat → Nat → Int} {i j : Nat} (h : j < N) : (rowL p N f i).getD j 0 = f i j % p := by simp [rowL, List.getD, h]
theorem colL_get {p : Int} {N : Nat} {f : Nat → Nat → Int} {i j : Nat} (h : i < N) : (colL p N f j).getD i 0 = f i j % p := by simp [colL, List.getD, h]

set_option maxHeartbeats 1600000 in
theorem tRow (p : Int) (N : Nat) (f : Nat → Nat → Int) (a : Option Addr) (c i : Nat) (w : World) (h : RdT w p N f a) (hc : N * N ≤ c) (hmx : c ≤ maxLen) (hN : N ≤ 20) (hi : i < N) :
    Calls Try.prog 181 #[.agg #[.int .i64 (N : Int), .slice a (N * N) c], .int .i64 (i : Int)] w fun e w' => ∃ a', e = .returned (.slice a' N N) ∧ RdP w' a' (rp p (rowL p N f i)) ∧ Below w.heap.size w w' ∧ ∃ g off, a = some ⟨g, 0, none⟩ ∧ a' = some ⟨g, off, none⟩ := by
  have hb0 : ∀ o, Below w.heap.size w (w.alloc o) := fun o => (Below.refl _ _).alloc (Nat.le_refl _) o
  obtain ⟨g, rfl, _, _⟩ := h i 0 hi (by omega)
  have HT := Lib.hid h
  obtain ⟨M, hM⟩ : ∃ M, M = N * N := ⟨_, rfl⟩
  obtain ⟨B, hB⟩ : ∃ B, B = i * N := ⟨_, rfl⟩
  obtain ⟨E, hE⟩ : ∃ E, E = (i + 1) * N := ⟨_, rfl⟩
  have hE2 : E = B + N := by rw [hE, hB, Nat.succ_mul]
  have hEM : E ≤ M := by rw [hE, hM]; exact Nat.mul_le_mul_right N (by omega)
  have hM400 : M ≤ 400 := by rw [hM]; exact Nat.mul_le_mul hN hN
  have HB := Lib.hid hB
  have HM := Lib.hid hM
  have m1 : IntKind.i64.wrap ((i : Int) * (N : Int)) = (B : Int) := by rw [← Int.natCast_mul, ← hB]; exact IntWalk.i64_in _ (by clear hB hE hM; omega)
  have m2 : wrap64 ((i : Int) * (N : Int)) = (B : Int) := by rw [← Int.natCast_mul, ← hB]; exact IntWalk.wrap64_in _ (by clear hB hE hM m1; omega)
  have m3 : IntKind.i64.wrap (((i : Int) + 1) * (N : Int)) = (E : Int) := by rw [show (i : Int) + 1 = ((i + 1 : Nat) : Int) by omega, ← Int.natCast_mul, ← hE]; exact IntWalk.i64_in _ (by clear hB hE hM m1 m2; omega)
  have m4 : wrap64 (((i : Int) + 1) * (N : Int)) = (E : Int) := by rw [show (i : Int) + 1 = ((i + 1 : Nat) : Int) by omega, ← Int.natCast_mul, ← hE]; exact IntWalk.wrap64_in _ (by clear hB hE hM m1 m2 m3; omega)
  rw [← hM] at hc ⊢
  have i1 : IntKind.i64.wrap ((i : Int) + 1) = (i : Int) + 1 := IntWalk.i64_in _ (by clear hB hE hM m1 m2 m3 m4; omega)
  have i2 : wrap64 ((i : Int) + 1) = (i : Int) + 1 := IntWalk.wrap64_in _ (by clear hB hE hM m1 m2 m3 m4 i1; omega)
  have s1 : (0 : Int) ≤ (B : Int) := by clear hB hE hM m1 m2 m3 m4 i1 i2; omega
  have s2 : (B : Int) ≤ (E : Int) := by clear hB hE hM m1 m2 m3 m4 i1 i2; omega
  have s3 : (E : Int) ≤ (c : Int) := by clear hB hE hM m1 m2 m3 m4 i1 i2; omega
  have s4 : E - B = N := by clear hB hE hM m1 m2 m3 m4 i1 i2; omega
  have s5 : ¬ E = B := by clear hB hE hM m1 m2 m3 m4 i1 i2; omega
  clear h hB hE hM
  clear hE2
  go_enter Try.func181, Try.ntmps181
  go_wp2
  go_quiet (fail)
  go_wp2
  have HF := Lib.hid ((hb0 (.cells #[.int .i64 (N : Int), .slice (some ⟨g, 0, none⟩) M c] 115)).drewN nq)
  refine bodyPost_ret (v := .slice (some ⟨g, B * 2, none⟩) N N) (by simp [results, Try.results181, go_sem]) rfl ⟨some ⟨g, B * 2, none⟩, rfl, fun j hj => ?_, HF.out, g, B * 2, rfl, rfl⟩
  rw [rp_len, rowL_len] at hj
  obtain ⟨g', e1, e2, e3⟩ := HT.out i j hi hj
  obtain rfl : g' = g := by simp at e1; exact e1.symm
  have hw := HF.out
  refine ⟨g', B * 2, rfl, ?_, ?_⟩
  · rw [rp_get (by rw [rowL_len]; exact hj), rowL_get hj, ← Nat.add_mul, HB.out]; exact hw.keep e2
  · rw [rp_get (by rw [rowL_len]; exact hj), ← Nat.add_mul, HB.out]; exact hw.keep e3

theorem setE_full (es : List (Int × Int)) : setE es es.length = flat es := by simp [setE]
theorem rp_take (p : Int) (xs : List Int) (k : Nat) (h : k < xs.length) : (rp p xs).take (k + 1) = (rp p xs).take k ++ [(xs.getD k 0, p)] := by
  have h2 : k < (rp p xs).length := by rw [rp_len]; exact h
  rw [List.take_add_one, List.getElem?_eq_getElem h2]
  have := rp_get (p := p) h
  simp only [List.getD, List.getElem?_eq_getElem h2, Option.getD_some] at this
  rw [this]
  rfl

set_option maxHeartbeats 1600000 in
theorem tCol (p : Int) (N : Nat) (f : Nat → Nat → Int) (a : Option Addr) (c j : Nat) (w : World) (h : RdT w p N f a) (hc : N * N ≤ c) (hmx : c ≤ maxLen) (hN : N ≤ 20) (hj : j < N) :
    Calls Try.prog 159 #[.agg #[.int .i64 (N : Int), .slice a (N * N) c], .int .i64 (j : Int)] w fun e w' => ∃ g, e = .returned (.slice (some ⟨g, 0, none⟩) N N) ∧ w'.ownsRow w.heap.size 119 2 (.slice (some ⟨g, 0, none⟩) N N) N (flat (rp p (colL p N f j))) ∧ Below w.heap.size w w' := by
  obtain ⟨i0, hi', z0, z1, z2⟩ := info_parts Try.info119
  have hb0 : ∀ o, Below w.heap.size w (w.alloc o) := fun o => (Below.refl _ _).alloc (Nat.le_refl _) o
  have HT := Lib.hid (fun W (hB : Below w.heap.size w W) => h.below hB)
  have HC := Lib.hid hc
  obtain ⟨M, hM⟩ : ∃ M, M = N * N := ⟨_, rfl⟩
  rw [← hM]
  have HM := Lib.hid hM
  clear hM hc h
  go_enter Try.func159, Try.ntmps159
  go_wp2_with (at_make; refine wpList_make_full _ rfl _ _ 113 rfl (w.heap.size + 1) 119 i0 (.agg #[.int .i64 0, .int .i64 0]) 2 Try.underlying113 hi' z0 z1 _ _ _ _ N rfl rfl rfl rfl ?c1 ?c2 ?c3 ?_)
  case c1 => rw [z2]; omega
  case c2 => unfold maxLen; omega
  case c3 => simp
  intro w1 hown hgr
  rw [setE_zero N] at hown
  have hbl : Below w.heap.size w w1 := (hb0 _).grown hgr (by simp) (by simp)
  have k0 : w1.cell? ⟨w.heap.size, 0, none⟩ = some (.int .i64 (N : Int)) := hgr.cell (by go_simp) (by simp)
  have k1 : w1.cell? ⟨w.heap.size, 1, none⟩ = some (.slice a M c) := hgr.cell (by go_simp) (by simp)
  have hz : w.heap.size + 1 < w1.heap.size := (hown.lt _ rfl).2
  clear hgr
  go_wp2
  go_loopw [12] (fun i wr => ∃ k : Nat, k ≤ N ∧ i = .int .i64 k ∧ wr.ownsRow (w.heap.size + 1) 119 2 (.slice (some ⟨w.heap.size + 1, 0, none⟩) N N) N (setE ((rp p (colL p N f j)).take k) N) ∧ Below w.heap.size w wr ∧ w.heap.size + 1 < wr.heap.size ∧ wr.cell? ⟨w.heap.size, 0, none⟩ = some (.int .i64 (N : Int)) ∧ wr.cell? ⟨w.heap.size, 1, none⟩ = some (.slice a M c)) (fun i _ => N - (intOf i).toNat)
  case atStart => exact ⟨0, Nat.zero_le _, rfl, hown, hbl, hz, k0, k1⟩
  case round =>
    clear hown hbl hz k0 k1
    obtain ⟨k, hk, rfl, hown, hbl, hz, k0, k1⟩ := hrel
    by_cases hlt : k < N
    · have HO := Lib.hid hown
      have HBL := Lib.hid hbl
      have HR := Lib.hid (tRow p N f a c k wr (HT.out wr hbl) HC.out hmx hN hlt)
      rw [← HM.out] at HR
      clear hown hbl
      go_wp2_with fail
      refine HR.out.mono ?_
      rintro e w2 ⟨ar, rfl, hr, b2, _⟩
      clear HR
      obtain ⟨rb, ro, rfl, r1, r2⟩ := hr j (by rw [rp_len, rowL_len]; exact hj)
      rw [rp_get (by rw [rowL_len]; exact hj), rowL_get hj] at r1 r2
      have hrn : w2.ownsRow (w.heap.size + 1) 119 2 (.slice (some ⟨w.heap.size + 1, 0, none⟩) N N) N (setE ((rp p (colL p N f j)).take k) N) := ownsRow_chg HO.out (b2.chg 0 0) (fun _ _ => .inr (Nat.zero_le _))
      have hlen : ((rp p (colL p N f j)).take k).length = k := by rw [List.length_take, rp_len, colL_len]; omega
      have c0 := (hrn.cellAt (k * 2) (by omega)).trans (setE_get _ N k 0 hlen hlt (by omega))
      have c1 := (hrn.cellAt (k * 2 + 1) (by omega)).trans (setE_get _ N k 1 hlen hlt (by omega))
      have f0 := hrn.frozenAt (k * 2)
      have f1 := hrn.frozenAt (k * 2 + 1)
      have e1 := rp_take p (colL p N f j) k (by rw [colL_len]; exact hlt)
      rw [colL_get hlt] at e1
      obtain ⟨y, hy⟩ : ∃ y, y = f k j % p := ⟨_, rfl⟩
      rw [← hy] at r1 e1
      have hst := (hrn.stored (k * 2) (.int .i64 y)).1.stored (k * 2 + 1) (.int .i64 p)
      have hst2 := hst.1
      rw [setE_step _ (y, p) N k hlen hlt, ← e1] at hst2
      have hb3 : Below w.heap.size w ((w2.setCell ⟨w.heap.size + 1, k * 2, none⟩ (.int .i64 y)).setCell ⟨w.heap.size + 1, k * 2 + 1, none⟩ (.int .i64 p)) := ((HBL.out.next b2).setCell (by simp) _).setCell (by simp) _
      have hz2 : w.heap.size + 1 < ((w2.setCell ⟨w.heap.size + 1, k * 2, none⟩ (.int .i64 y)).setCell ⟨w.heap.size + 1, k * 2 + 1, none⟩ (.int .i64 p)).heap.size := by rw [World.size_setCell, World.size_setCell]; exact Nat.lt_of_lt_of_le hz b2.size
      have n0 : ((w2.setCell ⟨w.heap.size + 1, k * 2, none⟩ (.int .i64 y)).setCell ⟨w.heap.size + 1, k * 2 + 1, none⟩ (.int .i64 p)).cell? ⟨w.heap.size, 0, none⟩ = some (.int .i64 (N : Int)) := by
        rw [World.cell?_setCell_other _ _ _ _ (by simp), World.cell?_setCell_other _ _ _ _ (by simp)]; exact b2.keep k0
      have n1 : ((w2.setCell ⟨w.heap.size + 1, k * 2, none⟩ (.int .i64 y)).setCell ⟨w.heap.size + 1, k * 2 + 1, none⟩ (.int .i64 p)).cell? ⟨w.heap.size, 1, none⟩ = some (.slice a M c) := by
        rw [World.cell?_setCell_other _ _ _ _ (by simp), World.cell?_setCell_other _ _ _ _ (by simp)]; exact b2.keep k1
      have HF := Lib.hid (⟨hst2, hb3, hz2, n0, n1⟩ : _ ∧ _ ∧ _ ∧ _ ∧ _)
      have hjn : (j : Int) < (N : Int) := by omega
      have hkn : (k : Int) < (N : Int) := by omega
      clear hst hst2 hb3 hz2 n0 n1 hr hrn hlen e1 hy b2 k0 k1
      go_wp2
      go_roundw
      case rel => exact ⟨k+1, by omega, by go_num, HF.out⟩
      case measure => simp [intOf]; omega
    · obtain rfl : k = N := by omega
      have hfu : setE ((rp p (colL p k f j)).take k) k = flat (rp p (colL p k f j)) := by
        have hl : (rp p (colL p k f j)).length = k := by rw [rp_len, colL_len]
        rw [List.take_of_length_le (by omega)]
        simp [setE, hl]
      rw [hfu] at hown
      have HO := Lib.hid (⟨ownsRow_mono hown (Nat.le_succ _), hbl⟩ : _ ∧ _)
      clear hown hbl hfu k0 k1
      go_wp2
      go_ret
      exact ⟨_, rfl, HO.out⟩

def mulL (p : Int) (N : Nat) (f : Nat → Nat → Int) (xs : List Int) (L : Nat) : List Int := (List.range L).map (fun i => wsN p xs (rowL p N f i) L)
theorem mulL_len (p : Int) (N : Nat) (f : Nat → Nat → Int) (xs : List Int) (L : Nat) : (mulL p N f xs L).length = L := by simp [mulL]
theorem mulL_get {p : Int} {N : Nat} {f : Nat → Nat → Int} {xs : List Int} {L i : Nat} (h : i < L) : (mulL p N f xs L).getD i 0 = wsN p xs (rowL p N f i) L := by simp [mulL, List.getD, h]

set_option maxHeartbeats 1600000 in
theorem tTimes (p : Int) (N : Nat) (f : Nat → Nat → Int) (a : Option Addr) (c : Nat) (a2 : Option Addr) (L c2 : Nat) (xs : List Int) (w : World) (h : RdT w p N f a) (hc : N * N ≤ c) (hmx : c ≤ maxLen) (hN : N ≤ 20) (h2 : RdP w a2 (rp p xs)) (hl2 : xs.length = L) (hLN : L ≤ N) (hx : ∀ j, j < L → 0 ≤ xs.getD j 0 ∧ xs.getD j 0 < p) (hp : 2 ≤ p ∧ p ≤ 10007) :
    Calls Try.prog 160 #[.agg #[.int .i64 (N : Int), .slice a (N * N) c], .slice a2 L c2] w fun e w' => ∃ g, e = .returned (.slice (some ⟨g, 0, none⟩) L L) ∧ w'.ownsRow w.heap.size 119 2 (.slice (some ⟨g, 0, none⟩) L L) L (flat (rp p (mulL p N f xs L))) ∧ Below w.heap.size w w' := by
  obtain ⟨i0, hi', z0, z1, z2⟩ := info_parts Try.info119
  have hb0 : ∀ o, Below w.heap.size w (w.alloc o) := fun o => (Below.refl _ _).alloc (Nat.le_refl _) o
  have HT := Lib.hid (fun W (hB : Below w.heap.size w W) => h.below hB)
  have HC := Lib.hid hc
  have H2 := Lib.hid (fun W (hB : Below w.heap.size w W) => h2.below hB)
  obtain ⟨M, hM⟩ : ∃ M, M = N * N := ⟨_, rfl⟩
  rw [← hM]
  have HM := Lib.hid hM
  clear hM hc h h2
  go_enter Try.func160, Try.ntmps160
  go_wp2_with (at_make; refine wpList_make_full _ rfl _ _ 113 rfl (w.heap.size + 1) 119 i0 (.agg #[.int .i64 0, .int .i64 0]) 2 Try.underlying113 hi' z0 z1 _ _ _ _ L rfl rfl rfl rfl ?c1 ?c2 ?c3 ?_)
  case c1 => rw [z2]; omega
  case c2 => unfold maxLen; omega
  case c3 => simp
  intro w1 hown hgr
  rw [setE_zero L] at hown
  have hbl : Below w.heap.size w w1 := (hb0 _).grown hgr (by simp) (by simp)
  have k0 : w1.cell? ⟨w.heap.size, 0, none⟩ = some (.int .i64 (N : Int)) := hgr.cell (by go_simp) (by simp)
  have k1 : w1.cell? ⟨w.heap.size, 1, none⟩ = some (.slice a M c) := hgr.cell (by go_simp) (by simp)
  have hz : w.heap.size + 1 < w1.heap.size := (hown.lt _ rfl).2
  clear hgr
  go_wp2
  go_loopw [12] (fun i wr => ∃ k : Nat, k ≤ L ∧ i = .int .i64 k ∧ wr.ownsRow (w.heap.size + 1) 119 2 (.slice (some ⟨w.heap.size + 1, 0, none⟩) L L) L (setE ((rp p (mulL p N f xs L)).take k) L) ∧ Below w.heap.size w wr ∧ w.heap.size + 1 < wr.heap.size ∧ wr.cell? ⟨w.heap.size, 0, none⟩ = some (.int .i64 (N : Int)) ∧ wr.cell? ⟨w.heap.size, 1, none⟩ = some (.slice a M c)) (fun i _ => L - (intOf i).toNat)
  case atStart => exact ⟨0, Nat.zero_le _, rfl, hown, hbl, hz, k0, k1⟩
  case round =>
    clear hown hbl hz k0 k1
    obtain ⟨k, hk, rfl, hown, hbl, hz, k0, k1⟩ := hrel
    by_cases hlt : k < L
    · have HO := Lib.hid hown
      have HBL := Lib.hid hbl
      have HR := Lib.hid (tRow p N f a c k wr (HT.out wr hbl) HC.out hmx hN (Nat.lt_of_lt_of_le hlt hLN))
      rw [← HM.out] at HR
      clear hown hbl
      go_wp2_with fail
      refine HR.out.mono ?_
      rintro e w1' ⟨ar, rfl, hr, b1, _⟩
      clear HR
      replace k0 := b1.keep k0
      replace k1 := b1.keep k1
      have hrow : ∀ q, q < N → 0 ≤ (rowL p N f k).getD q 0 ∧ (rowL p N f k).getD q 0 < p := fun q hq => by
        rw [rowL_get hq]
        exact ⟨Int.emod_nonneg _ (by omega), Int.emod_lt_of_pos _ (by omega)⟩
      have HW := Lib.hid (wSum p xs (rowL p N f k) a2 L c2 ar N N w1' (H2.out _ (HBL.out.next b1)) hl2 hr (rowL_len p N f k) hLN (by omega) hx hrow hp)
      have HB1 := Lib.hid b1
      clear hr b1 hrow
      go_wp2_with fail
      refine HW.out.mono ?_
      rintro e w2 ⟨⟨px, rfl, hpx⟩, b2'⟩
      obtain rfl : p = px := (hpx (by omega)).symm
      have b2 : Below wr.heap.size wr w2 := HB1.out.next b2'
      replace k0 := b2'.keep k0
      replace k1 := b2'.keep k1
      clear HW
      have hrn : w2.ownsRow (w.heap.size + 1) 119 2 (.slice (some ⟨w.heap.size + 1, 0, none⟩) L L) L (setE ((rp p (mulL p N f xs L)).take k) L) := ownsRow_chg HO.out (b2.chg 0 0) (fun _ _ => .inr (Nat.zero_le _))
      have hlen : ((rp p (mulL p N f xs L)).take k).length = k := by rw [List.length_take, rp_len, mulL_len]; omega
      have c0 := (hrn.cellAt (k * 2) (by omega)).trans (setE_get _ L k 0 hlen hlt (by omega))
      have c1 := (hrn.cellAt (k * 2 + 1) (by omega)).trans (setE_get _ L k 1 hlen hlt (by omega))
      have f0 := hrn.frozenAt (k * 2)
      have f1 := hrn.frozenAt (k * 2 + 1)
      have e1 := rp_take p (mulL p N f xs L) k (by rw [mulL_len]; exact hlt)
      rw [mulL_get hlt] at e1
      obtain ⟨y, hy⟩ : ∃ y, y = wsN p xs (rowL p N f k) L := ⟨_, rfl⟩
      rw [← hy] at e1 ⊢
      have hst := (hrn.stored (k * 2) (.int .i64 y)).1.stored (k * 2 + 1) (.int .i64 p)
      have hst2 := hst.1
      rw [setE_step _ (y, p) L k hlen hlt, ← e1] at hst2
      have hb3 : Below w.heap.size w ((w2.setCell ⟨w.heap.size + 1, k * 2, none⟩ (.int .i64 y)).setCell ⟨w.heap.size + 1, k * 2 + 1, none⟩ (.int .i64 p)) := ((HBL.out.next b2).setCell (by simp) _).setCell (by simp) _
      have hz2 : w.heap.size + 1 < ((w2.setCell ⟨w.heap.size + 1, k * 2, none⟩ (.int .i64 y)).setCell ⟨w.heap.size + 1, k * 2 + 1, none⟩ (.int .i64 p)).heap.size := by rw [World.size_setCell, World.size_setCell]; exact Nat.lt_of_lt_of_le hz b2.size
      have n0 : ((w2.setCell ⟨w.heap.size + 1, k * 2, none⟩ (.int .i64 y)).setCell ⟨w.heap.size + 1, k * 2 + 1, none⟩ (.int .i64 p)).cell? ⟨w.heap.size, 0, none⟩ = some (.int .i64 (N : Int)) := by
        rw [World.cell?_setCell_other _ _ _ _ (by simp), World.cell?_setCell_other _ _ _ _ (by simp)]; exact k0
      have n1 : ((w2.setCell ⟨w.heap.size + 1, k * 2, none⟩ (.int .i64 y)).setCell ⟨w.heap.size + 1, k * 2 + 1, none⟩ (.int .i64 p)).cell? ⟨w.heap.size, 1, none⟩ = some (.slice a M c) := by
        rw [World.cell?_setCell_other _ _ _ _ (by simp), World.cell?_setCell_other _ _ _ _ (by simp)]; exact k1
      have HF := Lib.hid (⟨hst2, hb3, hz2, n0, n1⟩ : _ ∧ _ ∧ _ ∧ _ ∧ _)
      have hkn : (k : Int) < (L : Int) := by omega
      clear hst hst2 hb3 hz2 n0 n1 hrn hlen e1 hy b2 b2' hpx HB1 k0 k1
      go_wp2
      go_roundw
      case rel => exact ⟨k+1, by omega, by go_num, HF.out⟩
      case measure => simp [intOf]; omega
    · obtain rfl : k = L := by omega
      have hfu : setE ((rp p (mulL p N f xs k)).take k) k = flat (rp p (mulL p N f xs k)) := by
        have hl : (rp p (mulL p N f xs k)).length = k := by rw [rp_len, mulL_len]
        rw [List.take_of_length_le (by omega)]
        simp [setE, hl]
      rw [hfu] at hown
      have HO := Lib.hid (⟨ownsRow_mono hown (Nat.le_succ _), hbl⟩ : _ ∧ _)
      clear hown hbl hfu k0 k1
      go_wp2
      go_ret
      exact ⟨_, rfl, HO.out⟩

end Go.Proofs.Ytebgbplhcaocoaa
