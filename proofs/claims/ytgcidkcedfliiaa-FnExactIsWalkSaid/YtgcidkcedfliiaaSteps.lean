/- The program's set of straight steps. -/
import Derived.Test.YtgcidkcedfliiaaDirected
import Derived.Test.YtgcidkcedfliiaaMapB
set_option linter.unusedSimpArgs false
set_option linter.unusedVariables false
namespace Go.Proofs.Ytgcidkcedfliiaa
open Go.RowKit

/-- the number of the reverse of a directed edge -/
def rv (x : Int) : Int := bits BinOp.xor .i64 x 1
theorem reverseOf (x : Int) (w : World) :
    Calls Try.prog 66 #[.int .i64 x] w fun e w' => e = .returned (.int .i64 (rv x)) ∧ Qt w w' := by
  go_enter Try.func66, Try.ntmps66
  go_wp2
  go_ret
  exact ⟨rfl, Qt.refl _⟩

/-- two directed edges, by their numbers, make a straight step -/
def stepQ (ds : List (Int × Int)) (x y : Int) : Bool := decide (0 ≤ x ∧ x < ds.length ∧ 0 ≤ y ∧ y < ds.length) && ((ds.getD x.toNat (0, 0)).2 == (ds.getD y.toNat (0, 0)).1 && y != rv x)
/-- .. of those that came before the round i, j -/
def stepP (ds : List (Int × Int)) (i j : Nat) (x y : Int) : Bool := stepQ ds x y && decide (x < i ∨ (x = i ∧ y < j))
theorem stepP_zero (ds : List (Int × Int)) : stepP ds 0 0 = fun _ _ => false := by
  funext x y
  unfold stepP stepQ
  by_cases h : 0 ≤ x ∧ x < ds.length ∧ 0 ≤ y ∧ y < ds.length
  · simp; omega
  · simp [h]
theorem stepP_all (ds : List (Int × Int)) : stepP ds ds.length 0 = stepQ ds := by
  funext x y
  unfold stepP stepQ
  by_cases h : 0 ≤ x ∧ x < ds.length ∧ 0 ≤ y ∧ y < ds.length
  · have : (x < (ds.length : Int) ∨ (x = (ds.length : Int) ∧ y < (0 : Nat))) := by omega
    simp [h, this]
  · simp [h]
theorem stepP_next (ds : List (Int × Int)) (i : Nat) : stepP ds i ds.length = stepP ds (i + 1) 0 := by
  funext x y
  unfold stepP stepQ
  by_cases h : 0 ≤ x ∧ x < ds.length ∧ 0 ≤ y ∧ y < ds.length
  · have : (x < (i : Int) ∨ (x = (i : Int) ∧ y < ds.length)) ↔ (x < ((i + 1 : Nat) : Int) ∨ (x = ((i + 1 : Nat) : Int) ∧ y < (0 : Nat))) := by omega
    simp only [this]
  · simp [h]
theorem stepP_yes {ds : List (Int × Int)} {i j : Nat} (hi : i < ds.length) (hj : j < ds.length) (h1 : (ds.getD i (0, 0)).2 = (ds.getD j (0, 0)).1) (h2 : ¬ (j : Int) = rv i) :
    stepP ds i (j + 1) = fun x y => stepP ds i j x y || (x == (i : Int) && y == (j : Int)) := by
  funext x y
  by_cases e : x = i ∧ y = j
  · obtain ⟨rfl, rfl⟩ := e
    unfold stepP stepQ
    simp only [Int.toNat_natCast]
    have a1 : decide (0 ≤ (i : Int) ∧ (i : Int) < ds.length ∧ 0 ≤ (j : Int) ∧ (j : Int) < ds.length) = true := decide_eq_true (by omega)
    have a2 : ((ds.getD i (0, 0)).2 == (ds.getD j (0, 0)).1) = true := by rw [h1]; exact beq_self_eq_true _
    have a3 : ((j : Int) != rv i) = true := by simpa using h2
    have a4 : decide ((i : Int) < i ∨ True ∧ (j : Int) < ((j + 1 : Nat) : Int)) = true := decide_eq_true (.inr ⟨trivial, by omega⟩)
    have a5 : ((i : Int) == i && (j : Int) == j) = true := by simp
    rw [a1, a2, a3, a4, a5]
    simp
  · have e2 : (x == (i : Int) && y == (j : Int)) = false := by simpa using e
    rw [e2, Bool.or_false]
    unfold stepP
    have : (x < (i : Int) ∨ (x = (i : Int) ∧ y < ((j + 1 : Nat) : Int))) ↔ (x < (i : Int) ∨ (x = (i : Int) ∧ y < (j : Int))) := by
      constructor <;> intro h <;> rcases h with h | h <;> first | (left; omega) | (right; omega)
    simp only [this]
theorem stepP_no {ds : List (Int × Int)} {i j : Nat} (h : ¬ ((ds.getD i (0, 0)).2 = (ds.getD j (0, 0)).1 ∧ ¬ (j : Int) = rv i)) :
    stepP ds i (j + 1) = stepP ds i j := by
  funext x y
  by_cases e : x = i ∧ y = j
  · obtain ⟨rfl, rfl⟩ := e
    have : stepQ ds i j = false := by
      unfold stepQ
      simp only [Int.toNat_natCast]
      by_cases h1 : (ds.getD i (0, 0)).2 = (ds.getD j (0, 0)).1
      · have h2 : (j : Int) = rv i := Classical.byContradiction fun h2 => h ⟨h1, h2⟩
        simp [← h2]
      · have a2 : ((ds.getD i (0, 0)).2 == (ds.getD j (0, 0)).1) = false := beq_eq_false_iff_ne.2 h1
        rw [a2]
        simp
    unfold stepP
    rw [this]
    rfl
  · unfold stepP
    have : (x < (i : Int) ∨ (x = (i : Int) ∧ y < ((j + 1 : Nat) : Int))) ↔ (x < (i : Int) ∨ (x = (i : Int) ∧ y < (j : Int))) := by
      constructor <;> intro h <;> rcases h with h | h <;> first | (left; omega) | (right; omega)
    simp only [this]

set_option maxRecDepth 100000 in
set_option maxHeartbeats 6400000 in
theorem stepsOf {lo hi : Nat} (s : Int) (a : Option Addr) (n c : Nat) (xss : List (List Int)) (w : World) (h : RdR lo hi w (.slice a n c) xss) (hn : xss.length = n) (hg : grB s xss = true) :
    Calls Try.prog 101 #[.agg #[.int .i64 s, .slice a n c]] w fun e w' => ∃ b k, e = .returned (.map (some b)) ∧ MapB w' b k (stepQ (dirE (pairs xss))) ∧ Below w.heap.size w w' := by
  have hmm := @run_makeMap Try.prog
  have hb0 : ∀ o, Below w.heap.size w (w.alloc o) := fun o => (Below.refl _ _).alloc (Nat.le_refl _) o
  obtain ⟨hs1, hs2, h3, h4⟩ := grB_iff hg
  have hn10 : n ≤ 10 := by omega
  have HDO := Lib.hid (fun W' (h : RdR lo hi W' (.slice a n c) xss) => directedOf s a n c xss W' h hn hg)
  obtain ⟨ds, hds⟩ : ∃ ds, ds = dirE (pairs xss) := ⟨_, rfl⟩
  obtain ⟨N, hN⟩ : ∃ N, N = 2 * n := ⟨_, rfl⟩
  have HL := Lib.hid (show ds.length = N by rw [hds, dirE_len, pairs_len, hn, hN])
  rw [← hds, ← hN] at HDO
  rw [← hds]
  have hN20 : N ≤ 20 := by omega
  clear hn hg h3 h4 hds hN
  go_enter Try.func101, Try.ntmps101
  go_wp2_with fail
  refine calls_gen (fun W => Below w.heap.size w W) (hb0 _) ?_
  rintro W hB
  refine (HDO.out W (h.below hB)).mono ?_
  rintro e w2 ⟨a2, c2, rfl, o2, b2⟩
  replace hB := hB.next b2
  have HRE := Lib.hid o2
  have HK := Lib.hid hB
  clear o2 b2 hB
  go_wp2
  have HM0 := Lib.hid (MapB.made w2)
  have hBM := (Below.refl w2.heap.size w2).alloc (Nat.le_refl _) (.map #[] 0)
  obtain ⟨M, hM⟩ : ∃ M, M = w2.heap.size := ⟨_, rfl⟩
  rw [← hM] at HM0 ⊢
  have HMM := Lib.hid hM
  clear hM
  go_loopw [16] (fun i wr => ∃ q k : Nat, q ≤ N ∧ i = .int .i64 q ∧ k ≤ q * 20 ∧ MapB wr M k (stepP ds q 0) ∧ Below w2.heap.size w2 wr) (fun i _ => N - (intOf i).toNat)
  case atStart => exact ⟨0, 0, Nat.zero_le _, rfl, Nat.le_refl _, by rw [stepP_zero]; exact HM0.out, hBM⟩
  case round =>
    obtain ⟨q, k, hq, rfl, hk, hMB, hB⟩ := hrel
    by_cases hlq : q < N
    · obtain ⟨b, rfl, hb2, h1, h2⟩ := HRE.out q (by rw [HL.out]; exact hlq)
      replace h1 := hB.keep h1
      replace h2 := hB.keep h2
      obtain ⟨p0, hp0⟩ : ∃ x, x = (ds.getD q (0, 0)).1 := ⟨_, rfl⟩
      obtain ⟨p1, hp1⟩ : ∃ x, x = (ds.getD q (0, 0)).2 := ⟨_, rfl⟩
      rw [← hp0] at h1
      rw [← hp1] at h2
      have HP1 := Lib.hid hp1
      clear hp0 hp1
      go_wp2
      have hA := (Below.refl wr.heap.size wr).alloc (Nat.le_refl _) (.cells #[.int .i64 p0, .int .i64 p1] 64)
      have u0 : (wr.alloc (.cells #[.int .i64 p0, .int .i64 p1] 64)).cell? ⟨wr.heap.size, 0, none⟩ = some (.int .i64 p0) := by go_simp
      have u1 : (wr.alloc (.cells #[.int .i64 p0, .int .i64 p1] 64)).cell? ⟨wr.heap.size, 1, none⟩ = some (.int .i64 p1) := by go_simp
      have hMX := hMB.lt
      have hMU := hMB.keep hA
      have hBU := hB.next hA
      obtain ⟨X, hX⟩ : ∃ X, X = wr.heap.size := ⟨_, rfl⟩
      rw [← hX] at u0 u1 hMX ⊢
      have HF := Lib.hid (⟨hMU, hBU, u0, u1⟩ : _ ∧ _ ∧ _ ∧ _)
      clear hX hA u0 u1 hMU hBU hMB h1 h2 hB
      go_loopw [23] (fun i wr' => ∃ p k' : Nat, p ≤ N ∧ i = .int .i64 p ∧ k' ≤ q * 20 + p ∧ MapB wr' M k' (stepP ds q p) ∧ Below w2.heap.size w2 wr' ∧ wr'.cell? ⟨X, 0, none⟩ = some (.int .i64 p0) ∧ wr'.cell? ⟨X, 1, none⟩ = some (.int .i64 p1)) (fun i _ => N - (intOf i).toNat)
      case atStart => exact ⟨0, k, Nat.zero_le _, rfl, by omega, HF.out⟩
      case round =>
        rename_i hrel
        obtain ⟨p, k', hp, rfl, hk', hMB, hB, x0, x1⟩ := hrel
        clear HF
        by_cases hlp : p < N
        · obtain ⟨b', hbb, _, g1, g2⟩ := HRE.out p (by rw [HL.out]; exact hlp)
          obtain rfl : b' = b := by simpa using hbb.symm
          replace g1 := hB.keep g1
          replace g2 := hB.keep g2
          obtain ⟨r0, hr0⟩ : ∃ x, x = (ds.getD p (0, 0)).1 := ⟨_, rfl⟩
          obtain ⟨r1, hr1⟩ : ∃ x, x = (ds.getD p (0, 0)).2 := ⟨_, rfl⟩
          rw [← hr0] at g1
          rw [← hr1] at g2
          have HR0 := Lib.hid hr0
          clear hr0 hr1 hbb
          have hA := fun o => (Below.refl wr.heap.size wr).alloc (Nat.le_refl _) o
          have HA := Lib.hid (fun o => (⟨hMB.keep (hA o), hB.next (hA o), (hA o).keep x0, (hA o).keep x1⟩ : MapB (wr.alloc o) M k' (stepP ds q p) ∧ Below w2.heap.size w2 (wr.alloc o) ∧ (wr.alloc o).cell? ⟨X, 0, none⟩ = some (.int .i64 p0) ∧ (wr.alloc o).cell? ⟨X, 1, none⟩ = some (.int .i64 p1)))
          have xa0 := fun o => (hA o).keep x0
          have xa1 := fun o => (hA o).keep x1
          clear hA hB hMB
          by_cases he : p1 = r0
          · have hb1 : (p1 == r0) = true := by simpa using he
            have HE := Lib.hid he
            clear he
            go_wp2_with fail
            refine calls_gen (fun W => MapB W M k' (stepP ds q p) ∧ Below w2.heap.size w2 W ∧ W.cell? ⟨X, 0, none⟩ = some (.int .i64 p0) ∧ W.cell? ⟨X, 1, none⟩ = some (.int .i64 p1)) (HA.out _) ?_
            clear xa0 xa1 HA x0 x1 g1 g2
            rintro W4 ⟨m4, b4, y0, y1⟩
            refine (reverseOf (q : Int) W4).mono ?_
            rintro e w5 ⟨rfl, hq5⟩
            replace m4 := m4.keep hq5.below
            replace y0 := hq5.below.keep y0
            replace y1 := hq5.below.keep y1
            replace b4 := b4.next hq5.below
            clear hq5 hb1
            by_cases hr : (p : Int) = rv q
            · have hb2 : ((p : Int) != rv q) = false := by simpa using hr
              have HF := Lib.hid (show MapB w5 M k' (stepP ds q (p + 1)) by rw [stepP_no (fun h => h.2 hr)]; exact m4)
              clear m4 hr
              go_wp2
              go_roundw
              case rel => exact ⟨p+1, k', by omega, by go_num, by omega, HF.out, b4, y0, y1⟩
              case measure => simp [intOf]; omega
            · have hb2 : ((p : Int) != rv q) = true := by simpa using hr
              have HR := Lib.hid hr
              clear hr
              go_wp2_with (at_mapUpdate; refine wpList_update_mapB w5 rfl _ _ _ rfl M k' (stepP ds q p) rfl m4 (by unfold maxLen; omega) (q : Int) (p : Int) (by unfold I64; omega) (by unfold I64; omega) rfl rfl ?_; intro w6 m6 hgr6)
              rw [← stepP_yes (by rw [HL.out]; exact hlq) (by rw [HL.out]; exact hlp) (by rw [← HP1.out, ← HR0.out]; exact HE.out) HR.out] at m6
              have hne : ∀ o, some (⟨X, o, none⟩ : Addr).block ≠ some M := fun o e => by simp at e; omega
              have HF := Lib.hid (⟨m6, b4.grown hgr6 b4.size (fun j hj => by cases hj; rw [HMM.out]; exact Nat.le_refl _), hgr6.cell y0 (by simp; omega), hgr6.cell y1 (by simp; omega)⟩ : MapB w6 M (k' + 1) (stepP ds q (p + 1)) ∧ Below w2.heap.size w2 w6 ∧ w6.cell? ⟨X, 0, none⟩ = some (.int .i64 p0) ∧ w6.cell? ⟨X, 1, none⟩ = some (.int .i64 p1))
              clear m6 hgr6
              go_wp2
              go_roundw
              case rel => exact ⟨p+1, k'+1, by omega, by go_num, by omega, HF.out⟩
              case measure => simp [intOf]; omega
          · have hb1 : (p1 == r0) = false := by simpa using he
            have hst := stepP_no (ds := ds) (i := q) (j := p) (fun h => he (by rw [HP1.out, HR0.out]; exact h.1))
            have HF := Lib.hid hst
            clear hst
            go_wp2
            go_roundw
            case rel => exact ⟨p+1, k', by omega, by go_num, by omega, by rw [HF.out]; exact HA.out _⟩
            case measure => simp [intOf]; omega
        · obtain rfl : p = N := by omega
          have hnx := stepP_next ds q
          rw [HL.out] at hnx
          have HF := Lib.hid (show MapB wr M k' (stepP ds (q + 1) 0) by rw [← hnx]; exact hMB)
          clear hnx hMB
          go_wp2
          go_roundw
          case rel => exact ⟨q+1, k', by omega, by go_num, by omega, HF.out, hB⟩
          case measure => simp [intOf]; omega
    · obtain rfl : q = N := by omega
      have hall := stepP_all ds
      rw [HL.out] at hall
      rw [hall] at hMB
      have HF := Lib.hid (⟨hMB, HK.out.next hB⟩ : _ ∧ _)
      clear hMB hB hall
      go_wp2
      go_ret
      exact ⟨M, k, rfl, HF.out⟩

end Go.Proofs.Ytgcidkcedfliiaa
