/- Traces of powers modulo a prime, of the program. -/
import Derived.Test.YtebgbplhcaocoaaWcp
set_option linter.unusedSimpArgs false
set_option linter.unusedVariables false
set_option maxRecDepth 100000
namespace Go.Proofs.Ytebgbplhcaocoaa
open Go.RowKit

theorem RdP.store {w : World} {g G o : Nat} {v : Value} {es : List (Int × Int)} (h : RdP w (some ⟨g, 0, none⟩) es) (hne : g ≠ G) : RdP (w.setCell ⟨G, o, none⟩ v) (some ⟨g, 0, none⟩) es := fun j hj => by
  obtain ⟨b, off, e, h2, h3⟩ := h j hj
  simp only [Option.some.injEq, Addr.mk.injEq, and_true] at e
  obtain ⟨rfl, rfl⟩ := e
  refine ⟨_, _, rfl, ?_, ?_⟩
  · rw [World.cell?_setCell_other _ _ _ _ (by intro e9; have e8 := congrArg Addr.block e9; dsimp only at e8; omega)]; exact h2
  · rw [World.cell?_setCell_other _ _ _ _ (by intro e9; have e8 := congrArg Addr.block e9; dsimp only at e8; omega)]; exact h3
theorem RdP.owned {w : World} {lo g N c : Nat} {es : List (Int × Int)} (h : w.ownsRow lo 119 2 (.slice (some ⟨g, 0, none⟩) N c) N (flat es)) (hl : es.length = N) : RdP w (some ⟨g, 0, none⟩) es := fun j hj => by
  obtain ⟨l0, l1⟩ := flat_getE es j hj
  refine ⟨g, 0, rfl, ?_, ?_⟩
  · rw [Nat.zero_add]; exact (h.cellAt (j * 2) (by omega)).trans l0
  · rw [Nat.zero_add]; exact (h.cellAt (j * 2 + 1) (by omega)).trans l1
theorem RdP.cells {w : World} {g : Nat} {es : List (Int × Int)} (h : RdP w (some ⟨g, 0, none⟩) es) {j : Nat} (hj : j < es.length) : w.cell? ⟨g, j * 2, none⟩ = some (.int .i64 (es.getD j (0, 0)).1) ∧ w.cell? ⟨g, j * 2 + 1, none⟩ = some (.int .i64 (es.getD j (0, 0)).2) := by
  obtain ⟨b, off, e, h2, h3⟩ := h j hj
  simp only [Option.some.injEq, Addr.mk.injEq, and_true] at e
  obtain ⟨rfl, rfl⟩ := e
  rw [Nat.zero_add] at h2 h3
  exact ⟨h2, h3⟩

/-- what a round knows -/
def WcS (w : World) (p : Int) (N : Nat) (f : Nat → Nat → Int) (a : Option Addr) (M c K i q gc m : Nat) (wr : World) : Prop :=
  wr.ownsRow (w.heap.size + 1) 119 2 (.slice (some ⟨w.heap.size + 1, 0, none⟩) K K) K (flat (trE p N f K i q)) ∧ Below w.heap.size w wr ∧ w.heap.size + 1 < wr.heap.size ∧ wr.cell? ⟨w.heap.size, 0, none⟩ = some (.int .i64 (N : Int)) ∧ wr.cell? ⟨w.heap.size, 1, none⟩ = some (.slice a M c) ∧ w.heap.size + 1 < gc ∧ RdP wr (some ⟨gc, 0, none⟩) (rp p (colL p N (exM N f m) i))
theorem WcS.close {w : World} {p : Int} {N : Nat} {f : Nat → Nat → Int} {a : Option Addr} {M c K i q gc m : Nat} {wr w5 : World} (h : WcS w p N f a M c K i q gc m wr) (bw : Below wr.heap.size wr w5) (hq : q < K) :
    WcS w p N f a M c K i (q + 1) gc m ((w5.setCell ⟨w.heap.size + 1, q * 2, none⟩ (.int .i64 (trP p N f q (i + 1)))).setCell ⟨w.heap.size + 1, q * 2 + 1, none⟩ (.int .i64 p)) := by
  obtain ⟨hown, hB, hz, k0, k1, hgc, hcol⟩ := h
  have hown5 := ownsRow_chg hown (bw.chg 0 0) (fun _ _ => .inr (Nat.zero_le _))
  have hst := ((hown5.stored (q * 2) (.int .i64 (trP p N f q (i + 1)))).1.stored (q * 2 + 1) (.int .i64 p)).1
  rw [flat_put, trE_step hq] at hst
  refine ⟨hst, ((hB.next bw).setCell (by simp) _).setCell (by simp) _, ?_, ?_, ?_, hgc, ((hcol.below bw).store (by omega)).store (by omega)⟩
  · rw [World.size_setCell, World.size_setCell]; exact Nat.lt_of_lt_of_le hz bw.size
  · rw [World.cell?_setCell_other _ _ _ _ (by simp), World.cell?_setCell_other _ _ _ _ (by simp)]; exact bw.keep k0
  · rw [World.cell?_setCell_other _ _ _ _ (by simp), World.cell?_setCell_other _ _ _ _ (by simp)]; exact bw.keep k1
/-- what the step's region reads -/
theorem WcS.reads {w : World} {p : Int} {N : Nat} {f : Nat → Nat → Int} {a : Option Addr} {M c K i q gc : Nat} {wr : World} (h : WcS w p N f a M c K i q gc q wr) (hq : q < K) (hi : i < N) :
    ∃ px : Int, ((px = 0 ∧ trP p N f q i = 0) ∨ px = p) ∧ wr.cell? ⟨w.heap.size + 1, q * 2, none⟩ = some (.int .i64 (trP p N f q i)) ∧ wr.cell? ⟨w.heap.size + 1, q * 2 + 1, none⟩ = some (.int .i64 px) ∧ wr.frozen? ⟨w.heap.size + 1, q * 2, none⟩ = false ∧ wr.frozen? ⟨w.heap.size + 1, q * 2 + 1, none⟩ = false ∧
      wr.cell? ⟨gc, i * 2, none⟩ = some (.int .i64 (exM N f q i i % p)) ∧ wr.cell? ⟨gc, i * 2 + 1, none⟩ = some (.int .i64 p) := by
  obtain ⟨hown, hB, hz, k0, k1, hgc, hcol⟩ := h
  obtain ⟨l0, l1⟩ := flat_getE (trE p N f K i q) q (by rw [trE_len]; exact hq)
  rw [trE_get hq] at l0 l1
  obtain ⟨r0, r1⟩ := hcol.cells (j := i) (by rw [rp_len, colL_len]; exact hi)
  rw [rp_get (by rw [colL_len]; exact hi), colL_get hi] at r0 r1
  refine ⟨if i = 0 then 0 else p, ?_, (hown.cellAt (q * 2) (by omega)).trans l0, (hown.cellAt (q * 2 + 1) (by omega)).trans l1, hown.frozenAt (q * 2), hown.frozenAt (q * 2 + 1), r0, r1⟩
  by_cases e : i = 0
  · subst e; exact .inl ⟨by simp, trP_zero _ _ _ _⟩
  · exact .inr (by simp [e])

set_option maxHeartbeats 6400000 in
theorem traces (p : Int) (N : Nat) (f : Nat → Nat → Int) (a : Option Addr) (c K : Nat) (w : World) (h : RdT w p N f a) (hc : N * N ≤ c) (hmx : c ≤ maxLen) (hN : N ≤ 20) (hK : 1 ≤ K ∧ K ≤ 20) (hp : 2 ≤ p ∧ p ≤ 10007) :
    Calls Try.prog 110 #[.agg #[.int .i64 (N : Int), .slice a (N * N) c], .int .i64 (K : Int)] w fun e w' => ∃ g, e = .returned (.slice (some ⟨g, 0, none⟩) K K) ∧ w'.ownsRow w.heap.size 119 2 (.slice (some ⟨g, 0, none⟩) K K) K (flat (trE p N f K N 0)) ∧ Below w.heap.size w w' := by
  obtain ⟨i0, hi', z0, z1, z2⟩ := info_parts Try.info119
  have hb0 : ∀ o, Below w.heap.size w (w.alloc o) := fun o => (Below.refl _ _).alloc (Nat.le_refl _) o
  have HT := Lib.hid (fun W (hB : Below w.heap.size w W) => h.below hB)
  have HC := Lib.hid hc
  obtain ⟨M, hM⟩ : ∃ M, M = N * N := ⟨_, rfl⟩
  rw [← hM]
  have HM := Lib.hid hM
  have hmp := Lib.hid r_plus
  clear hM hc h
  go_enter Try.func110, Try.ntmps110
  go_wp2_with (at_make; refine wpList_make_full _ rfl _ _ 113 rfl (w.heap.size + 1) 119 i0 (.agg #[.int .i64 0, .int .i64 0]) 2 Try.underlying113 hi' z0 z1 _ _ _ _ K rfl rfl rfl rfl ?c1 ?c2 ?c3 ?_)
  case c1 => rw [z2]; omega
  case c2 => unfold maxLen; omega
  case c3 => simp
  intro w1 hown hgr
  rw [setE_zero K, ← flat_rep, ← trE_start p N f K] at hown
  have hbl : Below w.heap.size w w1 := (hb0 _).grown hgr (by simp) (by simp)
  have k0 : w1.cell? ⟨w.heap.size, 0, none⟩ = some (.int .i64 (N : Int)) := hgr.cell (by go_simp) (by simp)
  have k1 : w1.cell? ⟨w.heap.size, 1, none⟩ = some (.slice a M c) := hgr.cell (by go_simp) (by simp)
  have hz : w.heap.size + 1 < w1.heap.size := (hown.lt _ rfl).2
  clear hgr
  go_wp2
  go_loopw [13] (fun v wr => ∃ i : Nat, i ≤ N ∧ v = .int .i64 i ∧ wr.ownsRow (w.heap.size + 1) 119 2 (.slice (some ⟨w.heap.size + 1, 0, none⟩) K K) K (flat (trE p N f K i 0)) ∧ Below w.heap.size w wr ∧ w.heap.size + 1 < wr.heap.size ∧ wr.cell? ⟨w.heap.size, 0, none⟩ = some (.int .i64 (N : Int)) ∧ wr.cell? ⟨w.heap.size, 1, none⟩ = some (.slice a M c)) (fun v _ => N - (intOf v).toNat)
  case atStart => exact ⟨0, Nat.zero_le _, rfl, hown, hbl, hz, k0, k1⟩
  case round =>
    clear hown hbl hz k0 k1
    obtain ⟨i, hi, rfl, hown, hbl, hz, k0, k1⟩ := hrel
    by_cases hlt : i < N
    · have HR := Lib.hid (tCol p N f a c i wr (HT.out wr hbl) HC.out hmx hN hlt)
      rw [← HM.out] at HR
      have HO := Lib.hid (⟨hown, hbl, hz⟩ : _ ∧ _ ∧ _)
      have hin : (i : Int) < (N : Int) := by omega
      clear hown hbl hz
      go_wp2_with fail
      refine HR.out.mono ?_
      rintro e w2 ⟨gc, rfl, o2, b2⟩
      have HS := Lib.hid (show WcS w p N f a M c K i 0 gc (0 - 1) w2 from ⟨ownsRow_chg HO.out.1 (b2.chg 0 0) (fun _ _ => .inr (Nat.zero_le _)), HO.out.2.1.next b2, Nat.lt_of_lt_of_le HO.out.2.2 b2.size, b2.keep k0, b2.keep k1, Nat.lt_of_lt_of_le HO.out.2.2 (o2.lt _ rfl).1, RdP.owned o2 (by rw [rp_len, colL_len])⟩)
      clear HR HO o2 b2 k0 k1
      go_wp2
      go_loopw [21, 7] (fun v cl wr2 => ∃ (q gc : Nat), q ≤ K ∧ v = .int .i64 q ∧ cl = .slice (some ⟨gc, 0, none⟩) N N ∧ WcS w p N f a M c K i q gc (q - 1) wr2) (fun v _ _ => K - (intOf v).toNat)
      case atStart => exact ⟨0, gc, Nat.zero_le _, rfl, rfl, HS.out⟩
      case round =>
        rename_i hrel
        clear HS
        obtain ⟨q, gc, hq, rfl, rfl, HS⟩ := hrel
        by_cases hlq : q < K
        · have hqn : (q : Int) < (K : Int) := by omega
          by_cases hq0 : 0 < q
          · obtain ⟨hown, hB, hz, k0, k1, hgc, hcol⟩ := HS
            have hq1 : (q : Int) > 0 := by omega
            have HTM := Lib.hid (tTimes p N f a c (some ⟨gc, 0, none⟩) N N (colL p N (exM N f (q - 1)) i) wr (HT.out wr hB) HC.out hmx hN hcol (colL_len _ _ _ _) (Nat.le_refl _) (fun j hj => by rw [colL_get hj]; exact ⟨Int.emod_nonneg _ (by omega), Int.emod_lt_of_pos _ (by omega)⟩) hp)
            rw [← HM.out, mulL_col, Nat.sub_add_cancel hq0] at HTM
            have HO := Lib.hid (⟨hown, hB, hz⟩ : _ ∧ _ ∧ _)
            clear hown hB hz hgc hcol
            go_wp2_with fail
            refine HTM.out.mono ?_
            rintro e w3 ⟨gc3, rfl, o3, b3⟩
            have HS := Lib.hid (show WcS w p N f a M c K i q gc3 q w3 from ⟨ownsRow_chg HO.out.1 (b3.chg 0 0) (fun _ _ => .inr (Nat.zero_le _)), HO.out.2.1.next b3, Nat.lt_of_lt_of_le HO.out.2.2 b3.size, b3.keep k0, b3.keep k1, Nat.lt_of_lt_of_le HO.out.2.2 (o3.lt _ rfl).1, RdP.owned o3 (by rw [rp_len, colL_len])⟩)
            clear HTM HO o3 b3 k0 k1
            obtain ⟨px, hpx, c0, c1, f0, f1, g0, g1⟩ := HS.out.reads hlq hlt
            have HPX := Lib.hid hpx
            have hst := trP_next p N f q i
            obtain ⟨hs0, hs1⟩ := trP_in N f q i hp.1
            have hy0 := Int.emod_nonneg (exM N f q i i) (show p ≠ 0 by omega)
            have hy1 := Int.emod_lt_of_pos (exM N f q i i) (show 0 < p by omega)
            have HCL := Lib.hid (fun (W5 : World) (b : Below w3.heap.size w3 W5) => HS.out.close b hlq)
            generalize exM N f q i i % p = y at g0 hst hy0 hy1
            generalize trP p N f q i = s0 at c0 hpx HPX hst hs0 hs1
            generalize trP p N f q (i + 1) = s1 at hst HCL
            have HST := Lib.hid hst
            have HSZ := Lib.hid (show w.heap.size + 1 < w3.heap.size from HS.out.2.2.1)
            have q0 := (Qt.refl w3).drew.below.keep g0
            have q1 := (Qt.refl w3).drew.below.keep g1
            have q2 := (Qt.refl w3).drew.below.keep c0
            have q3 := (Qt.refl w3).drew.below.keep c1
            have hmt := hmp.out
            clear hst hpx HS
            go_wp2
            go_region_with (go_at_call 229; refine (resPlusG s0 y px p _ HPX.out (by omega) (by omega) (by omega)).mono ?_; rintro e w5 ⟨rfl, b5⟩; have y0 := b5.keep q2; have y1 := b5.keep q3; have z0 := b5.keepf (show w.heap.size + 1 < w3.heap.size from HSZ.out) f0; have z1 := b5.keepf (show w.heap.size + 1 < w3.heap.size from HSZ.out) f1)
            all_goals
              have HF := Lib.hid (HCL.out w5 (((Qt.refl w3).drew).below.next b5))
              clear y0 y1 z0 z1 b5 g0 g1 c0 c1 f0 f1 q0 q1 q2 q3 hmt
              rw [HST.out]
              go_wp2
              go_roundw
              case rel => exact ⟨q+1, gc3, by omega, by go_num, rfl, HF.out⟩
              case measure => simp [intOf]; omega
          · have hq1 : ¬ (q : Int) > 0 := by omega
            have HS := Lib.hid (show WcS w p N f a M c K i q gc q wr by rw [show q - 1 = q by omega] at HS; exact HS)
            obtain ⟨px, hpx, c0, c1, f0, f1, g0, g1⟩ := HS.out.reads hlq hlt
            have HPX := Lib.hid hpx
            have hst := trP_next p N f q i
            obtain ⟨hs0, hs1⟩ := trP_in N f q i hp.1
            have hy0 := Int.emod_nonneg (exM N f q i i) (show p ≠ 0 by omega)
            have hy1 := Int.emod_lt_of_pos (exM N f q i i) (show 0 < p by omega)
            have HCL := Lib.hid (fun (W5 : World) (b : Below wr.heap.size wr W5) => HS.out.close b hlq)
            generalize exM N f q i i % p = y at g0 hst hy0 hy1
            generalize trP p N f q i = s0 at c0 hpx HPX hst hs0 hs1
            generalize trP p N f q (i + 1) = s1 at hst HCL
            have HST := Lib.hid hst
            have HSZ := Lib.hid (show w.heap.size + 1 < wr.heap.size from HS.out.2.2.1)
            have q0 := (Qt.refl wr).drew.below.keep g0
            have q1 := (Qt.refl wr).drew.below.keep g1
            have q2 := (Qt.refl wr).drew.below.keep c0
            have q3 := (Qt.refl wr).drew.below.keep c1
            have hmt := hmp.out
            clear hst hpx HS
            go_wp2
            go_region_with (go_at_call 229; refine (resPlusG s0 y px p _ HPX.out (by omega) (by omega) (by omega)).mono ?_; rintro e w5 ⟨rfl, b5⟩; have y0 := b5.keep q2; have y1 := b5.keep q3; have z0 := b5.keepf (show w.heap.size + 1 < wr.heap.size from HSZ.out) f0; have z1 := b5.keepf (show w.heap.size + 1 < wr.heap.size from HSZ.out) f1)
            all_goals
              have HF := Lib.hid (HCL.out w5 (((Qt.refl wr).drew).below.next b5))
              clear y0 y1 z0 z1 b5 g0 g1 c0 c1 f0 f1 q0 q1 q2 q3 hmt
              rw [HST.out]
              go_wp2
              go_roundw
              case rel => exact ⟨q+1, gc, by omega, by go_num, rfl, HF.out⟩
              case measure => simp [intOf]; omega
        · obtain rfl : q = K := by omega
          obtain ⟨hown, hB, hz, k0, k1, hgc, hcol⟩ := HS
          rw [trE_next] at hown
          have HF := Lib.hid (⟨hown, hB, hz, k0, k1⟩ : _ ∧ _ ∧ _ ∧ _ ∧ _)
          clear hown hB hz k0 k1 hgc hcol
          go_wp2
          go_roundw
          case rel => exact ⟨i+1, by omega, by go_num, HF.out⟩
          case measure => simp [intOf]; omega
    · obtain rfl : i = N := by omega
      have HO := Lib.hid (⟨ownsRow_mono hown (Nat.le_succ _), hbl⟩ : _ ∧ _)
      clear hown hbl k0 k1
      go_wp2
      go_ret
      exact ⟨_, rfl, HO.out⟩

end Go.Proofs.Ytebgbplhcaocoaa
