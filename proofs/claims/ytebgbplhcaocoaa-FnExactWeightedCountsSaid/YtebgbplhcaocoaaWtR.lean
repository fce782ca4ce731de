/- Weighted rows, by the program and by the model. -/
import Derived.Test.YtebgbplhcaocoaaResE
import Derived.Test.YtebgbplhcaocoaaWtC
import Derived.Test.YtebgbplhcaocoaaEdgeRows
import Derived.Test.YtebgbplhcaocoaaCoreC
import Derived.Test.YtebgbplhcaocoaaCoreG
import Derived.StillTailTactics
set_option linter.unusedSimpArgs false
set_option linter.unusedVariables false
set_option maxRecDepth 100000
namespace Go.Proofs.Ytebgbplhcaocoaa
open Go.RowKit

theorem edgeM_01w (ds : List (Int × Int)) (i j : Nat) : edgeM ds i j = 0 ∨ edgeM ds i j = 1 := by unfold edgeM; split <;> simp
def wtM (f : Nat → Nat → Int) (vs : List Int) : Nat → Nat → Int := fun i j => f i j * vs.getD j 0
/-- the rows above k are weighted, and of the row k the numbers before m -/
def wmS (f : Nat → Nat → Int) (vs : List Int) (k m : Nat) : Nat → Nat → Int := fun i j => if i < k ∨ (i = k ∧ j < m) then f i j * vs.getD j 0 else f i j
theorem wmS_start (f : Nat → Nat → Int) (vs : List Int) : wmS f vs 0 0 = f := by
  funext i j; unfold wmS; rw [if_neg (by omega)]
theorem wmS_at (f : Nat → Nat → Int) (vs : List Int) (k m : Nat) : wmS f vs k m k m = f k m := by unfold wmS; rw [if_neg (by omega)]
theorem wmS_put (f : Nat → Nat → Int) (vs : List Int) (k m : Nat) : put (wmS f vs k m) k m (f k m * vs.getD m 0) = wmS f vs k (m + 1) := by
  funext i j
  unfold put wmS
  by_cases h : i = k ∧ j = m
  · obtain ⟨rfl, rfl⟩ := h
    rw [if_pos ⟨rfl, rfl⟩, if_pos (by omega)]
  · rw [if_neg h]
    by_cases h2 : i < k ∨ (i = k ∧ j < m)
    · rw [if_pos h2, if_pos (by omega)]
    · rw [if_neg h2, if_neg (by omega)]
theorem wmS_row (f : Nat → Nat → Int) (vs : List Int) (N k : Nat) : tab N (wmS f vs k N) = tab N (wmS f vs (k + 1) 0) := tab_congr fun i j hi hj => by
  unfold wmS
  by_cases h : i < k ∨ (i = k ∧ j < N)
  · rw [if_pos h, if_pos (by omega)]
  · rw [if_neg h, if_neg (by omega)]
theorem wmS_all (f : Nat → Nat → Int) (vs : List Int) (N : Nat) : tab N (wmS f vs N 0) = tab N (wtM f vs) := tab_congr fun i j hi hj => by
  unfold wmS wtM
  rw [if_pos (by omega)]

set_option maxHeartbeats 3200000 in
theorem weightedRows {lo hi lo1 hi1 : Nat} (p s : Int) (a : Option Addr) (n c : Nat) (xss : List (List Int)) (a1 : Option Addr) (n1 c1 : Nat) (vs : List Int) (w : World) (h : RdR lo hi w (.slice a n c) xss) (hn : xss.length = n) (hg : grB s xss = true) (h1 : RdI lo1 hi1 w (.slice a1 n1 c1) vs) (hl : vs.length = n1) (hn1 : n1 = 2 * n) (hv : ∀ j, j < n1 → 0 ≤ vs.getD j 0 ∧ vs.getD j 0 < p) (hp : p ≤ 10007) :
    Calls Try.prog 109 #[.agg #[.int .i64 s, .slice a n c], .slice a1 n1 c1] w fun e w' => ∃ a' c', e = .returned (.slice a' (2 * n) c') ∧ OwR w.heap.size w'.heap.size w' (.slice a' (2 * n) c') (tab (2 * n) (wtM (edgeM (dirE (pairs xss))) vs)) ∧ Below w.heap.size w w' := by
  have hb0 : ∀ o, Below w.heap.size w (w.alloc o) := fun o => (Below.refl _ _).alloc (Nat.le_refl _) o
  have hn10 : n ≤ 10 := by have := grB_iff hg; omega
  have HER := Lib.hid (fun W (hB : Below w.heap.size w W) => edgeRows s a n c xss W (h.below hB) hn hg)
  have HC := Lib.hid (fun W (hB : Below w.heap.size w W) => (h1.below hB).at hl)
  have HV := Lib.hid hv
  have hf01 := Lib.hid (edgeM_01w (dirE (pairs xss)))
  generalize edgeM (dirE (pairs xss)) = f at HER hf01 ⊢
  obtain ⟨N, hN⟩ : ∃ N, N = 2 * n := ⟨_, rfl⟩
  have hnN : n1 = N := by omega
  have hN20 : N ≤ 20 := by omega
  rw [← hN] at HER ⊢
  subst hnN
  clear hN hn1 hn10 h h1 hv hl hn hg
  go_enter Try.func109, Try.ntmps109
  go_wp2_with fail
  refine calls_gen (fun W => Below w.heap.size w W) (hb0 _) ?_
  rintro W hB
  refine (HER.out W hB).mono ?_
  rintro e w1 ⟨a9, c9, rfl, o1, b1⟩
  obtain ⟨L, hL⟩ : ∃ L, L = W.heap.size := ⟨_, rfl⟩
  obtain ⟨H1, hH⟩ : ∃ H, H = w1.heap.size := ⟨_, rfl⟩
  have HLW : Hid (w.heap.size ≤ L) := Lib.hid (by rw [hL]; exact hB.size)
  have HH : Hid (H1 ≤ w1.heap.size) := Lib.hid (by omega)
  rw [← hL, ← hH] at o1
  have HO := Lib.hid (⟨by rw [wmS_start]; exact o1, hB.next b1⟩ : OwR L H1 w1 (.slice a9 n1 c9) (tab n1 (wmS f vs 0 0)) ∧ _)
  clear o1 b1 hB HER hL hH
  go_wp2
  go_loopw [13] (fun v wr => ∃ k : Nat, k ≤ n1 ∧ v = .int .i64 k ∧ OwR L H1 wr (.slice a9 n1 c9) (tab n1 (wmS f vs k 0)) ∧ Below w.heap.size w wr ∧ H1 ≤ wr.heap.size) (fun v _ => n1 - (intOf v).toNat)
  case atStart => exact ⟨0, Nat.zero_le _, rfl, HO.out.1, HO.out.2, HH.out⟩
  case round =>
    clear HO HH
    obtain ⟨k, hk, rfl, hO, hB, hH⟩ := hrel
    obtain ⟨U, rfl⟩ : ∃ U, U = wr := ⟨_, rfl⟩
    by_cases hlt : k < n1
    · obtain ⟨g, c', b, cb, e1, e2, _, _, _, _, _, _, _, _, hgb, _⟩ := hO.store (k := k) (j := 0) (by rw [tab_len]; exact hlt) (by rw [tab_rlen _ hlt]; omega)
      rw [tab_rlen _ hlt] at e2
      have e1a : a9 = some ⟨g, 0, none⟩ := by injection e1
      clear e1
      subst e1a
      have HO := Lib.hid (⟨hO, e2, hB, hH⟩ : _ ∧ _ ∧ _ ∧ _)
      have hkn : (k : Int) < (n1 : Int) := by omega
      clear hO hB hH
      go_wp2
      clear e2
      go_loopw [19] (fun v wr2 => ∃ m : Nat, m ≤ n1 ∧ v = .int .i64 m ∧ OwR L H1 wr2 (.slice (some ⟨g, 0, none⟩) n1 c9) (tab n1 (wmS f vs k m)) ∧ wr2.cell? ⟨g, k, none⟩ = some (.slice (some ⟨b, 0, none⟩) n1 cb) ∧ Below w.heap.size w wr2 ∧ H1 ≤ wr2.heap.size) (fun v _ => n1 - (intOf v).toNat)
      case atStart => exact ⟨0, Nat.zero_le _, rfl, HO.out⟩
      case round =>
        rename_i hrel
        clear HO
        obtain ⟨m, hm, rfl, hO, e2, hB, hH⟩ := hrel
        by_cases hlm : m < n1
        · obtain ⟨g3, c3, b3, cb3, x1, x2, x3, x4, x5, x6, x7, _, _, _, _, _, x8⟩ := (hO.qt (Qt.refl wr).drew).store (k := k) (j := m) (by rw [tab_len]; exact hlt) (by rw [tab_rlen _ hlt]; exact hlm)
          rw [tab_rlen _ hlt] at x2
          rw [tab_get _ hlt hlm, wmS_at] at x3
          have x1a : some (⟨g, 0, none⟩ : Addr) = some ⟨g3, 0, none⟩ := by injection x1
          clear x1
          simp only [Option.some.injEq, Addr.mk.injEq, and_true] at x1a
          subst x1a
          have e2d : wr.drew.cell? ⟨g, k, none⟩ = some (.slice (some ⟨b, 0, none⟩) n1 cb) := e2
          rw [e2d] at x2
          simp only [Option.some.injEq, Value.slice.injEq, Addr.mk.injEq, and_true, true_and] at x2
          obtain ⟨rfl, rfl⟩ := x2
          obtain ⟨wb, wo, rfl, g0⟩ := HC.out wr hB m hlm
          have g0d : wr.drew.cell? ⟨wb, wo + m, none⟩ = _ := g0
          obtain ⟨hv0, hv1⟩ := HV.out m hlm
          have h01 := hf01.out k m
          have hst := x8 (f k m * vs.getD m 0) (by rcases h01 with e | e <;> rw [e] <;> (unfold I64; omega))
          rw [tab_set _ _ hlt hlm, wmS_put] at hst
          have e2s : (wr.drew.setCell ⟨b, m, none⟩ (.int .i64 (f k m * vs.getD m 0))).cell? ⟨g, k, none⟩ = some (.slice (some ⟨b, 0, none⟩) n1 cb) := by
            rw [World.cell?_setCell_other _ _ _ _ (by intro e9; have e8 := congrArg Addr.block e9; dsimp only at e8; omega)]; exact e2d
          have hB2 : Below w.heap.size w (wr.drew.setCell ⟨b, m, none⟩ (.int .i64 (f k m * vs.getD m 0))) := hB.drew.setCell (p := ⟨b, m, none⟩) (Nat.le_trans HLW.out x5) _
          have HF := Lib.hid (⟨hst, e2s, hB2, by rw [World.size_setCell]; exact hH⟩ : _ ∧ _ ∧ _ ∧ H1 ≤ (wr.drew.setCell ⟨b, m, none⟩ (.int .i64 (f k m * vs.getD m 0))).heap.size)
          have hmn : (m : Int) < (n1 : Int) := by omega
          have hm0 : (0 : Int) ≤ (m : Int) := by omega
          have hz : -100000 ≤ f k m * vs.getD m 0 ∧ f k m * vs.getD m 0 ≤ 100000 := by rcases h01 with e | e <;> rw [e] <;> omega
          generalize f k m = y at *
          generalize vs.getD m 0 = u at *
          obtain ⟨z, hzz⟩ : ∃ z, z = y * u := ⟨_, rfl⟩
          rw [← hzz] at HF hz
          have w1' : IntKind.i64.wrap (y * u) = z := by rw [← hzz]; exact IntWalk.i64_in _ (by clear hzz; omega)
          have w2' : wrap64 (y * u) = z := by rw [← hzz]; exact IntWalk.wrap64_in _ (by clear hzz w1'; omega)
          have d4 : wr.drew.frozen? ⟨b, m, none⟩ = _ := x4
          have x3' : wr.cell? ⟨b, m, none⟩ = _ := x3
          have x4' : wr.frozen? ⟨b, m, none⟩ = _ := x4
          clear hst e2s hB2 hzz h01 hv0 hv1 x5 x6 x7 x8 hO hB hH e2 e2d
          go_wp2
          go_still_tail 10, (by kernel_rfl)
          change wpList _ _ _ _ _ wr.drew
          clear g0 x3' x4'
          generalize wr.drew = Z at HF g0d x3 x4 d4 ⊢
          go_wp2
          go_roundw
          case rel => exact ⟨m+1, by omega, by go_num, HF.out⟩
          case measure => clear w1' w2'; simp [intOf]; omega
        · obtain rfl : m = n1 := by omega
          rw [wmS_row] at hO
          have HF := Lib.hid (⟨hO, hB, hH⟩ : _ ∧ _ ∧ _)
          clear hO hB hH e2
          go_wp2
          go_roundw
          case rel => exact ⟨k+1, by omega, by go_num, HF.out⟩
          case measure => simp [intOf]; omega
    · obtain rfl : k = n1 := by omega
      rw [wmS_all] at hO
      have HF := Lib.hid (⟨OwR.mono hO HLW.out hH, hB⟩ : _ ∧ _)
      clear hO hB hH
      go_wp2
      go_ret
      exact ⟨_, _, rfl, HF.out⟩

set_option maxHeartbeats 3200000 in
theorem l06Rows {lo hi lo1 hi1 : Nat} (p s : Int) (a : Option Addr) (n c : Nat) (xss : List (List Int)) (a1 : Option Addr) (n1 c1 : Nat) (vs : List Int) (w : World) (h : RdR lo hi w (.slice a n c) xss) (hn : xss.length = n) (hg : grB s xss = true) (h1 : RdI lo1 hi1 w (.slice a1 n1 c1) vs) (hl : vs.length = n1) (hn1 : n1 = 2 * n) (hv : ∀ j, j < n1 → 0 ≤ vs.getD j 0 ∧ vs.getD j 0 < p) (hp : p ≤ 10007) :
    Calls Try.prog 104 #[.agg #[.int .i64 s, .slice a n c], .slice a1 n1 c1] w fun e w' => ∃ a' c', e = .returned (.slice a' (2 * n) c') ∧ OwR w.heap.size w'.heap.size w' (.slice a' (2 * n) c') (tab (2 * n) (wtM (edgeM (dirE (pairs xss))) vs)) ∧ Below w.heap.size w w' := by
  have hb0 : ∀ o, Below w.heap.size w (w.alloc o) := fun o => (Below.refl _ _).alloc (Nat.le_refl _) o
  have hn10 : n ≤ 10 := by have := grB_iff hg; omega
  have HER := Lib.hid (fun W (hB : Below w.heap.size w W) => l02Matrix s a n c xss W (h.below hB) hn hg)
  have HC := Lib.hid (fun W (hB : Below w.heap.size w W) => (h1.below hB).at hl)
  have HV := Lib.hid hv
  have hf01 := Lib.hid (edgeM_01w (dirE (pairs xss)))
  generalize edgeM (dirE (pairs xss)) = f at HER hf01 ⊢
  obtain ⟨N, hN⟩ : ∃ N, N = 2 * n := ⟨_, rfl⟩
  have hnN : n1 = N := by omega
  have hN20 : N ≤ 20 := by omega
  rw [← hN] at HER ⊢
  subst hnN
  clear hN hn1 hn10 h h1 hv hl hn hg
  go_enter Try.func104, Try.ntmps104
  go_wp2_with fail
  refine calls_gen (fun W => Below w.heap.size w W) (hb0 _) ?_
  rintro W hB
  refine (HER.out W hB).mono ?_
  rintro e w1 ⟨a9, c9, rfl, o1, b1⟩
  obtain ⟨L, hL⟩ : ∃ L, L = W.heap.size := ⟨_, rfl⟩
  obtain ⟨H1, hH⟩ : ∃ H, H = w1.heap.size := ⟨_, rfl⟩
  have HLW : Hid (w.heap.size ≤ L) := Lib.hid (by rw [hL]; exact hB.size)
  have HH : Hid (H1 ≤ w1.heap.size) := Lib.hid (by omega)
  rw [← hL, ← hH] at o1
  have HO := Lib.hid (⟨by rw [wmS_start]; exact o1, hB.next b1⟩ : OwR L H1 w1 (.slice a9 n1 c9) (tab n1 (wmS f vs 0 0)) ∧ _)
  clear o1 b1 hB HER hL hH
  go_wp2
  go_loopw [6] (fun v wr => ∃ k : Nat, k ≤ n1 ∧ v = .int .i64 k ∧ OwR L H1 wr (.slice a9 n1 c9) (tab n1 (wmS f vs k 0)) ∧ Below w.heap.size w wr ∧ H1 ≤ wr.heap.size) (fun v _ => n1 - (intOf v).toNat)
  case atStart => exact ⟨0, Nat.zero_le _, rfl, HO.out.1, HO.out.2, HH.out⟩
  case round =>
    clear HO HH
    obtain ⟨k, hk, rfl, hO, hB, hH⟩ := hrel
    obtain ⟨U, rfl⟩ : ∃ U, U = wr := ⟨_, rfl⟩
    by_cases hlt : k < n1
    · obtain ⟨g, c', b, cb, e1, e2, _, _, _, _, _, _, _, _, hgb, _⟩ := hO.store (k := k) (j := 0) (by rw [tab_len]; exact hlt) (by rw [tab_rlen _ hlt]; omega)
      rw [tab_rlen _ hlt] at e2
      have e1a : a9 = some ⟨g, 0, none⟩ := by injection e1
      clear e1
      subst e1a
      have HO := Lib.hid (⟨hO, e2, hB, hH⟩ : _ ∧ _ ∧ _ ∧ _)
      have hkn : (k : Int) < (n1 : Int) := by omega
      clear hO hB hH
      go_wp2
      clear e2
      go_loopw [8] (fun v wr2 => ∃ m : Nat, m ≤ n1 ∧ v = .int .i64 m ∧ OwR L H1 wr2 (.slice (some ⟨g, 0, none⟩) n1 c9) (tab n1 (wmS f vs k m)) ∧ wr2.cell? ⟨g, k, none⟩ = some (.slice (some ⟨b, 0, none⟩) n1 cb) ∧ Below w.heap.size w wr2 ∧ H1 ≤ wr2.heap.size) (fun v _ => n1 - (intOf v).toNat)
      case atStart => exact ⟨0, Nat.zero_le _, rfl, HO.out⟩
      case round =>
        rename_i hrel
        clear HO
        obtain ⟨m, hm, rfl, hO, e2, hB, hH⟩ := hrel
        by_cases hlm : m < n1
        · obtain ⟨g3, c3, b3, cb3, x1, x2, x3, x4, x5, x6, x7, _, _, _, _, _, x8⟩ := (hO.qt (Qt.refl wr).drew).store (k := k) (j := m) (by rw [tab_len]; exact hlt) (by rw [tab_rlen _ hlt]; exact hlm)
          rw [tab_rlen _ hlt] at x2
          rw [tab_get _ hlt hlm, wmS_at] at x3
          have x1a : some (⟨g, 0, none⟩ : Addr) = some ⟨g3, 0, none⟩ := by injection x1
          clear x1
          simp only [Option.some.injEq, Addr.mk.injEq, and_true] at x1a
          subst x1a
          have e2d : wr.drew.cell? ⟨g, k, none⟩ = some (.slice (some ⟨b, 0, none⟩) n1 cb) := e2
          rw [e2d] at x2
          simp only [Option.some.injEq, Value.slice.injEq, Addr.mk.injEq, and_true, true_and] at x2
          obtain ⟨rfl, rfl⟩ := x2
          obtain ⟨wb, wo, rfl, g0⟩ := HC.out wr hB m hlm
          have g0d : wr.drew.cell? ⟨wb, wo + m, none⟩ = _ := g0
          obtain ⟨hv0, hv1⟩ := HV.out m hlm
          have h01 := hf01.out k m
          have hst := x8 (f k m * vs.getD m 0) (by rcases h01 with e | e <;> rw [e] <;> (unfold I64; omega))
          rw [tab_set _ _ hlt hlm, wmS_put] at hst
          have e2s : (wr.drew.setCell ⟨b, m, none⟩ (.int .i64 (f k m * vs.getD m 0))).cell? ⟨g, k, none⟩ = some (.slice (some ⟨b, 0, none⟩) n1 cb) := by
            rw [World.cell?_setCell_other _ _ _ _ (by intro e9; have e8 := congrArg Addr.block e9; dsimp only at e8; omega)]; exact e2d
          have hB2 : Below w.heap.size w (wr.drew.setCell ⟨b, m, none⟩ (.int .i64 (f k m * vs.getD m 0))) := hB.drew.setCell (p := ⟨b, m, none⟩) (Nat.le_trans HLW.out x5) _
          have HF := Lib.hid (⟨hst, e2s, hB2, by rw [World.size_setCell]; exact hH⟩ : _ ∧ _ ∧ _ ∧ H1 ≤ (wr.drew.setCell ⟨b, m, none⟩ (.int .i64 (f k m * vs.getD m 0))).heap.size)
          have hmn : (m : Int) < (n1 : Int) := by omega
          have hm0 : (0 : Int) ≤ (m : Int) := by omega
          have hz : -100000 ≤ f k m * vs.getD m 0 ∧ f k m * vs.getD m 0 ≤ 100000 := by rcases h01 with e | e <;> rw [e] <;> omega
          generalize f k m = y at *
          generalize vs.getD m 0 = u at *
          obtain ⟨z, hzz⟩ : ∃ z, z = y * u := ⟨_, rfl⟩
          rw [← hzz] at HF hz
          have w1' : IntKind.i64.wrap (y * u) = z := by rw [← hzz]; exact IntWalk.i64_in _ (by clear hzz; omega)
          have w2' : wrap64 (y * u) = z := by rw [← hzz]; exact IntWalk.wrap64_in _ (by clear hzz w1'; omega)
          have d4 : wr.drew.frozen? ⟨b, m, none⟩ = _ := x4
          have x3' : wr.cell? ⟨b, m, none⟩ = _ := x3
          have x4' : wr.frozen? ⟨b, m, none⟩ = _ := x4
          clear hst e2s hB2 hzz h01 hv0 hv1 x5 x6 x7 x8 hO hB hH e2 e2d
          go_wp2
          go_still_tail 12, (by kernel_rfl)
          change wpList _ _ _ _ _ wr.drew
          clear g0 x3' x4'
          generalize wr.drew = Z at HF g0d x3 x4 d4 ⊢
          go_wp2
          go_roundw
          case rel => exact ⟨m+1, by omega, by go_num, HF.out⟩
          case measure => clear w1' w2'; simp [intOf]; omega
        · obtain rfl : m = n1 := by omega
          rw [wmS_row] at hO
          have HF := Lib.hid (⟨hO, hB, hH⟩ : _ ∧ _ ∧ _)
          clear hO hB hH e2
          go_wp2
          go_roundw
          case rel => exact ⟨k+1, by omega, by go_num, HF.out⟩
          case measure => simp [intOf]; omega
    · obtain rfl : k = n1 := by omega
      rw [wmS_all] at hO
      have HF := Lib.hid (⟨OwR.mono hO HLW.out hH, hB⟩ : _ ∧ _)
      clear hO hB hH
      go_wp2
      go_ret
      exact ⟨_, _, rfl, HF.out⟩

end Go.Proofs.Ytebgbplhcaocoaa
