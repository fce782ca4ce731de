/- The unit table; closed numbers of the program. -/
import Derived.Test.YtgcidkcedfliiaaMatZ
import Derived.Test.YtgcidkcedfliiaaEdgeRows
import Derived.Test.YtgcidkcedfliiaaSpecStc
set_option linter.unusedSimpArgs false
set_option linter.unusedVariables false
namespace Go.Proofs.Ytgcidkcedfliiaa
open Go.RowKit

/-- the unit table, up to row k -/
def unitT (k : Nat) : Nat → Nat → Int := fun i j => if i = j ∧ i < k then 1 else 0
theorem unitT_zero : unitT 0 = zeros := by funext i j; simp [unitT, zeros]
theorem unitT_step (k : Nat) : put (unitT k) k k 1 = unitT (k + 1) := by
  funext i j
  unfold put unitT
  by_cases h : i = k ∧ j = k
  · obtain ⟨rfl, rfl⟩ := h; simp
  · rw [if_neg h]
    have : (i = j ∧ i < k) ↔ (i = j ∧ i < k + 1) := by omega
    simp [this]
theorem unitT_all (n : Nat) : tab n (unitT n) = tab n unitM := by
  refine tab_congr fun i j hi hj => ?_
  unfold unitT unitM
  simp [hi]

set_option maxRecDepth 100000 in
set_option maxHeartbeats 1600000 in
theorem unitRows (n : Nat) (w : World) (hn : n ≤ 1000) (hw : n = 0 ∨ 0 < w.heap.size) :
    Calls Try.prog 93 #[.int .i64 n] w fun e w' => ∃ a' c', e = .returned (.slice a' n c') ∧ OwR w.heap.size w'.heap.size w' (.slice a' n c') (tab n unitM) ∧ Below w.heap.size w w' := by
  have hz := zeroRows n w hn hw
  clear hw
  go_enter Try.func93, Try.ntmps93
  go_wp2_with fail
  refine hz.mono ?_
  clear hz
  rintro e w1 ⟨v, rfl, o1, b1⟩
  obtain ⟨a', c', rfl⟩ := o1.rd.shape
  rw [tab_len] at o1 ⊢
  rw [← unitT_zero] at o1
  obtain ⟨H1, hH1⟩ : ∃ H, H = w1.heap.size := ⟨_, rfl⟩
  rw [← hH1] at o1
  have hz1 : H1 ≤ w1.heap.size := by omega
  clear hH1
  go_wp2
  go_loopw [9] (fun i wr => ∃ q : Nat, q ≤ n ∧ i = .int .i64 q ∧ OwR w.heap.size H1 wr (.slice a' n c') (tab n (unitT q)) ∧ Below w.heap.size w wr ∧ H1 ≤ wr.heap.size) (fun i _ => n - (intOf i).toNat)
  case atStart => exact ⟨0, Nat.zero_le _, rfl, o1, b1, hz1⟩
  case round =>
    clear o1 b1 hz1
    obtain ⟨q, hq, rfl, hO, hB, hsz⟩ := hrel
    by_cases hlq : q < n
    · obtain ⟨g, b, cb, rfl, g1, g2, g3, g4, g5, g6, g7⟩ := hO.ent hlq hlq
      have hfin := g7 1 (by unfold I64; omega)
      rw [unitT_step] at hfin
      have HF := Lib.hid (⟨hfin, hB.setCell (p := ⟨b, q, none⟩) g4 _, by rw [World.size_setCell]; exact hsz⟩ : _ ∧ Below w.heap.size w (wr.setCell ⟨b, q, none⟩ (.int .i64 1)) ∧ H1 ≤ (wr.setCell ⟨b, q, none⟩ (.int .i64 1)).heap.size)
      clear hfin g7 hO hB hsz
      generalize unitT q q q = old at g2
      go_wp2
      go_roundw
      case rel => exact ⟨q+1, by omega, by go_num, HF.out⟩
      case measure => simp [intOf]; omega
    · obtain rfl : q = n := by omega
      rw [unitT_all] at hO
      have HF := Lib.hid (⟨hO.mono (Nat.le_refl _) hsz, hB⟩ : _ ∧ _)
      clear hO hB hsz
      go_wp2
      go_ret
      exact ⟨a', c', rfl, HF.out⟩

/-- the closed numbers of 1 to k -/
def cls (N : Nat) (M : Nat → Nat → Int) (k : Nat) : List Int := (List.range k).map (fun q => trW (pwW N M (q + 1)) N)
def clV (N : Nat) (M : Nat → Nat → Int) (k : Nat) : List Value := (cls N M k).map (Value.int .i64)
theorem cls_len (N : Nat) (M : Nat → Nat → Int) (k : Nat) : (cls N M k).length = k := by simp [cls]
theorem clV_step (N : Nat) (M : Nat → Nat → Int) (k : Nat) : clV N M (k+1) = clV N M k ++ [.int .i64 (trW (pwW N M (k + 1)) N)] := by simp [clV, cls, List.range_succ]
theorem cls_I64 (N : Nat) (M : Nat → Nat → Int) (k : Nat) : ∀ x ∈ cls N M k, I64 x := by
  intro x hx
  simp only [cls, List.mem_map] at hx
  obtain ⟨q, _, rfl⟩ := hx
  exact trW_I64 _ _
theorem cls_get (N : Nat) (M : Nat → Nat → Int) {k j : Nat} (h : j < k) : (cls N M k).getD j 0 = trW (pwW N M (j + 1)) N := by
  unfold cls; rw [map_get _ h]

set_option maxRecDepth 100000 in
set_option maxHeartbeats 6400000 in
theorem closedNumbers {lo hi : Nat} (s : Int) (a : Option Addr) (n c : Nat) (xss : List (List Int)) (k : Nat) (w : World) (h : RdR lo hi w (.slice a n c) xss) (hn : xss.length = n) (hg : grB s xss = true) (hk : k ≤ 1000) :
    Calls Try.prog 88 #[.agg #[.int .i64 s, .slice a n c], .int .i64 k] w fun e w' => ∃ a' c', e = .returned (.slice a' k c') ∧ OwI w.heap.size w'.heap.size w' (.slice a' k c') (cls (2 * n) (edgeM (dirE (pairs xss))) k) ∧ Below w.heap.size w w' := by
  obtain ⟨i0, hi', z0, z1, z2⟩ := info_parts Try.info2
  have hn10 : n ≤ 10 := by have := grB_iff hg; omega
  have HR := Lib.hid h
  have HMX := Lib.hid (fun W' (h' : RdR lo hi W' (.slice a n c) xss) => edgeRows s a n c xss W' h' hn hg)
  obtain ⟨M, hM⟩ : ∃ M, M = edgeM (dirE (pairs xss)) := ⟨_, rfl⟩
  obtain ⟨N, hN⟩ : ∃ N, N = 2 * n := ⟨_, rfl⟩
  have hN20 : N ≤ 20 := by omega
  rw [← hM, ← hN] at HMX ⊢
  clear h hn hg hM hN hn10
  go_enter Try.func88, Try.ntmps88
  go_wp2_with fail
  refine calls_gen (fun W => Below w.heap.size w W ∧ 0 < W.heap.size) ⟨(Below.refl _ _).alloc (Nat.le_refl _) _, by simp⟩ ?_
  rintro W ⟨hB, hz⟩
  refine (HMX.out W (HR.out.below hB)).mono ?_
  rintro e w1 ⟨a5, c5, rfl, o1, b1⟩
  have hRM := (o1.mono hB.size (Nat.le_refl _)).rd
  replace hB := hB.next b1
  have hz1 : 0 < w1.heap.size := by have := b1.size; omega
  clear o1 b1 hz
  have hun := unitRows N w1 (by omega) (.inr hz1)
  go_wp2_with fail
  refine hun.mono ?_
  clear hun
  rintro e w2 ⟨a7, c7, rfl, o2, b2⟩
  have HP0 := Lib.hid (⟨o2.rd, hRM.below b2, hB.next b2⟩ : _ ∧ _ ∧ _)
  obtain ⟨H, hH⟩ : ∃ H, H = w2.heap.size := ⟨_, rfl⟩
  have hw1H : w1.heap.size ≤ H := by rw [hH]; exact b2.size
  have hwH : w.heap.size ≤ H := by have := hB.size; omega
  obtain ⟨H0, hH0⟩ : ∃ H, H = w1.heap.size := ⟨_, rfl⟩
  rw [← hH0] at HP0 hw1H
  have hHw : H ≤ w2.heap.size := by omega
  have HN0 := Lib.hid (World.ownsRow_nil w2 H 2 1)
  clear o2 b2 hRM hB hz1 hH0
  go_wp2
  go_loopw [14, 5, 7] (fun i v p wr => ∃ (q lo1 hi1 : Nat) (a7 : Option Addr) (c7 : Nat) (av : Option Addr) (cv : Nat), q ≤ k ∧ i = .int .i64 q ∧ v = .slice av q cv ∧ p = .slice a7 N c7 ∧ RdR lo1 hi1 wr (.slice a7 N c7) (tab N (pwW N M q)) ∧
    wr.ownsRow H 2 1 (.slice av q cv) q (clV N M q) ∧ RdR w.heap.size H0 wr (.slice a5 N c5) (tab N M) ∧ Below w.heap.size w wr ∧ H ≤ wr.heap.size) (fun i _ _ _ => k - (intOf i).toNat)
  case atStart => exact ⟨0, _, _, a7, c7, none, 0, Nat.zero_le _, rfl, rfl, rfl, HP0.out.1, HN0.out, HP0.out.2.1, HP0.out.2.2, hHw⟩
  case round =>
    clear HP0 HN0
    obtain ⟨q, lo1, hi1, a7, c7, av, cv, hqr, rfl, rfl, rfl, hPW, hown, hMR, hB, hHz⟩ := hrel
    by_cases hlt : q < k
    · have hpr := productOfRows a7 N c7 a5 c5 (pwW N M q) M wr (by omega) hPW hMR
      have HU := Lib.hid (⟨hown, hMR, hB⟩ : _ ∧ _ ∧ _)
      clear hPW hown hMR hB
      go_wp2_with fail
      refine hpr.mono ?_
      clear hpr
      rintro e w4 ⟨a8, c8, rfl, o4, b4⟩
      have hP4 : RdR wr.heap.size w4.heap.size w4 (.slice a8 N c8) (tab N (pwW N M (q + 1))) := o4.rd
      obtain ⟨hown, hMR, hB⟩ := HU.out
      have hglt := fun g e => hown.lt g e
      replace hown := ownsRow_chg hown (b4.chg 0 0) (fun _ _ => .inr (Nat.zero_le _))
      replace hMR := hMR.below b4
      replace hB := hB.next b4
      have htr := traceOf a8 N c8 (pwW N M (q + 1)) w4 (by omega) hP4
      have hst := clV_step N M q
      generalize trW (pwW N M (q + 1)) N = t at htr hst
      have HST := Lib.hid hst
      have hs4 : H ≤ w4.heap.size := Nat.le_trans hHz b4.size
      have HU2 := Lib.hid (⟨hP4, hown, hMR, hB, hglt⟩ : _ ∧ _ ∧ _ ∧ _ ∧ _)
      clear hst hP4 hown hMR hB HU o4 b4 hglt
      go_wp2_with fail
      refine htr.mono ?_
      clear htr
      rintro e w5 ⟨rfl, q5⟩
      obtain ⟨hP4, hown, hMR, hB, hglt⟩ := HU2.out
      replace hP4 := hP4.qt q5
      replace hown := ownsRow_chg hown (q5.chg 0 0) (fun _ _ => .inr (Nat.zero_le _))
      replace hMR := hMR.qt q5
      replace hB := hB.qt q5
      have hsz5 : H ≤ w5.heap.size := Nat.le_trans hs4 q5.below.size
      have HGL := Lib.hid hglt
      clear HU2 q5 hglt
      go_wp2_with (at_builtin; refine wpList_append_lies _ rfl _ _ 25 rfl H 2 i0 (.int .i64 0) 1 8 Try.underlying25 hi' z0 z1 z2 rfl (by decide) _ _ _ rfl (hown.alloc _) ⟨w5.heap.size, 0, none⟩ 1 1 [.int .i64 t] rfl rfl ?c1 ?c2 (by decide) ?c3 ?c4 ?c5 _ rfl ?_)
      case c1 => exact news_one _ _ _
      case c2 => intro u hu; simp at hu; subst hu; rfl
      case c3 => unfold maxLen; omega
      case c4 => omega
      case c5 => simp; omega
      intro g2 c3 w6 hown3 hgr hlie hlt3
      have hch : Chg H wr.heap.size w5 w6 := (((Below.refl w5.heap.size w5).alloc (Nat.le_refl _) (.cells #[.int .i64 t] 2)).chg _ _).trans (Chg.grown hgr (fun g e => HGL.out g e))
      rw [← hH] at hown3
      have HF := Lib.hid (⟨hP4.chg hch (.inr (Nat.le_refl _)), by rw [HST.out]; exact hown3, hMR.chg hch (.inl hw1H), hB.chgn hch hwH hB.size, Nat.le_trans hsz5 hch.size⟩ : RdR wr.heap.size w4.heap.size w6 (.slice a8 N c8) (tab N (pwW N M (q + 1))) ∧ w6.ownsRow H 2 1 (.slice (some ⟨g2, 0, none⟩) (q + 1) c3) (q + 1) (clV N M (q + 1)) ∧ _ ∧ _ ∧ _)
      clear hgr hown hch hlie hlt3 hP4 hMR hB hown3 HGL
      go_wp2
      go_roundw
      case rel => exact ⟨q+1, wr.heap.size, w4.heap.size, a8, c8, some ⟨g2, 0, none⟩, c3, by omega, by go_num, rfl, rfl, HF.out⟩
      case measure => simp [intOf]; omega
    · obtain rfl : q = k := by omega
      have hO : OwI H wr.heap.size wr (.slice av q cv) (cls N M q) := OwI.mk hown (by omega) (cls_I64 N M q)
      have hO2 := hO.mono hwH (Nat.le_refl _)
      have HF := Lib.hid (⟨hO2, hB⟩ : _ ∧ _)
      clear hPW hown hMR hB hO hO2
      go_wp2
      go_ret
      exact ⟨_, _, rfl, HF.out⟩

end Go.Proofs.Ytgcidkcedfliiaa
