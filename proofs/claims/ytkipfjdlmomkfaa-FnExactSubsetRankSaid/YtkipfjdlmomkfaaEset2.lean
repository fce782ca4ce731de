/- Sets of edges: ranks, forests, trees. -/
import Derived.Test.YtkipfjdlmomkfaaEset
set_option linter.unusedSimpArgs false
set_option linter.unusedVariables false
set_option maxRecDepth 100000
namespace Go.Proofs.Ytkipfjdlmomkfaa
open Go.RowKit

theorem setRank (a1 : Option Addr) (n1 c1 : Nat) (a2 : Option Addr) (S c2 P : Nat) (hS : S ≤ 8) (hP : P ≤ S) (w : World) :
    Calls Try.prog 66 #[.agg #[.slice a1 n1 c1, .slice a2 S c2, .int .i64 (P : Int)]] w fun e w' => e = .returned (.int .i64 ((S : Int) - (P : Int))) ∧ Below w.heap.size w w' := by
  have hb0 : ∀ o, Below w.heap.size w (w.alloc o) := fun o => (Below.refl _ _).alloc (Nat.le_refl _) o
  have t1 : IntKind.i64.wrap ((S : Int) - (P : Int)) = (S : Int) - (P : Int) := IntWalk.i64_in _ (by omega)
  have t2 : wrap64 ((S : Int) - (P : Int)) = (S : Int) - (P : Int) := IntWalk.wrap64_in _ (by clear t1; omega)
  go_enter Try.func66, Try.ntmps66
  go_wp2
  go_ret
  exact ⟨rfl, hb0 _⟩

theorem setConn (v0 v1 : Value) (P : Nat) (w : World) :
    Calls Try.prog 101 #[.agg #[v0, v1, .int .i64 (P : Int)]] w fun e w' => e = .returned (.bool ((P : Int) == 1)) ∧ Below w.heap.size w w' := by
  have hb0 : ∀ o, Below w.heap.size w (w.alloc o) := fun o => (Below.refl _ _).alloc (Nat.le_refl _) o
  go_enter Try.func101, Try.ntmps101
  go_wp2
  go_ret
  exact ⟨rfl, hb0 _⟩

set_option maxHeartbeats 1600000 in
theorem setForest (a1 : Option Addr) (n1 c1 : Nat) (a2 : Option Addr) (S c2 P : Nat) (hS : S ≤ 8) (hP : P ≤ S) (w : World) :
    Calls Try.prog 100 #[.agg #[.slice a1 n1 c1, .slice a2 S c2, .int .i64 (P : Int)]] w fun e w' => e = .returned (.bool ((S : Int) - (P : Int) == (n1 : Int))) ∧ Below w.heap.size w w' := by
  have hB : Below w.heap.size w (w.alloc (.cells #[.slice a1 n1 c1, .slice a2 S c2, .int .i64 (P : Int)] 74)) := (Below.refl _ _).alloc (Nat.le_refl _) _
  have k0 : (w.alloc (.cells #[.slice a1 n1 c1, .slice a2 S c2, .int .i64 (P : Int)] 74)).cell? ⟨w.heap.size, 0, none⟩ = some (.slice a1 n1 c1) := by go_simp
  have k1 : (w.alloc (.cells #[.slice a1 n1 c1, .slice a2 S c2, .int .i64 (P : Int)] 74)).cell? ⟨w.heap.size, 1, none⟩ = some (.slice a2 S c2) := by go_simp
  have k2 : (w.alloc (.cells #[.slice a1 n1 c1, .slice a2 S c2, .int .i64 (P : Int)] 74)).cell? ⟨w.heap.size, 2, none⟩ = some (.int .i64 (P : Int)) := by go_simp
  go_enter Try.func100, Try.ntmps100
  go_wp2
  generalize w.alloc (.cells #[.slice a1 n1 c1, .slice a2 S c2, .int .i64 (P : Int)] 74) = W at hB k0 k1 k2 ⊢
  go_region_held3 (fun W' => W'.cell? ⟨w.heap.size, 0, none⟩ = some (.slice a1 n1 c1) ∧ W'.cell? ⟨w.heap.size, 1, none⟩ = some (.slice a2 S c2) ∧ W'.cell? ⟨w.heap.size, 2, none⟩ = some (.int .i64 (P : Int)))
    (first | (exact ⟨k0, k1, k2⟩) | (go_split_ands; exact ⟨b4.keep (by assumption), b4.keep (by assumption), b4.keep (by assumption)⟩) | go_keep)
    (first
      | (go_at_call 66; refine (setRank a1 n1 c1 a2 S c2 P hS hP _).mono ?_; rintro e w4 ⟨rfl, b4⟩))
  all_goals
    have hBB := hB.next ((Qt.refl W).drew.below.next b4)
    go_wp2
    go_ret
    exact ⟨rfl, hBB⟩

set_option maxHeartbeats 1600000 in
theorem setTree (a1 : Option Addr) (n1 c1 : Nat) (a2 : Option Addr) (S c2 P : Nat) (hS : S ≤ 8) (hP : P ≤ S) (w : World) :
    Calls Try.prog 64 #[.agg #[.slice a1 n1 c1, .slice a2 S c2, .int .i64 (P : Int)]] w fun e w' => e = .returned (.bool (((S : Int) - (P : Int) == (n1 : Int)) && ((P : Int) == 1))) ∧ Below w.heap.size w w' := by
  have hB : Below w.heap.size w (w.alloc (.cells #[.slice a1 n1 c1, .slice a2 S c2, .int .i64 (P : Int)] 74)) := (Below.refl _ _).alloc (Nat.le_refl _) _
  have k0 : (w.alloc (.cells #[.slice a1 n1 c1, .slice a2 S c2, .int .i64 (P : Int)] 74)).cell? ⟨w.heap.size, 0, none⟩ = some (.slice a1 n1 c1) := by go_simp
  have k1 : (w.alloc (.cells #[.slice a1 n1 c1, .slice a2 S c2, .int .i64 (P : Int)] 74)).cell? ⟨w.heap.size, 1, none⟩ = some (.slice a2 S c2) := by go_simp
  have k2 : (w.alloc (.cells #[.slice a1 n1 c1, .slice a2 S c2, .int .i64 (P : Int)] 74)).cell? ⟨w.heap.size, 2, none⟩ = some (.int .i64 (P : Int)) := by go_simp
  go_enter Try.func64, Try.ntmps64
  go_wp2_with fail
  refine calls_gen (fun W => Below w.heap.size w W ∧ W.cell? ⟨w.heap.size, 0, none⟩ = some (.slice a1 n1 c1) ∧ W.cell? ⟨w.heap.size, 1, none⟩ = some (.slice a2 S c2) ∧ W.cell? ⟨w.heap.size, 2, none⟩ = some (.int .i64 (P : Int))) ⟨hB, k0, k1, k2⟩ ?_
  clear hB k0 k1 k2
  rintro W ⟨hB, k0, k1, k2⟩
  refine (setForest a1 n1 c1 a2 S c2 P hS hP _).mono ?_
  rintro e w1 ⟨rfl, b1⟩
  replace hB := hB.next b1
  replace k0 := b1.keep k0
  replace k1 := b1.keep k1
  replace k2 := b1.keep k2
  clear b1
  cases hf : ((S : Int) - (P : Int) == (n1 : Int)) with
  | false =>
    go_wp2
    go_ret
    exact ⟨by rw [hf]; rfl, hB⟩
  | true =>
    go_wp2_with fail
    refine (setConn _ _ P _).mono ?_
    rintro e w2 ⟨rfl, b2⟩
    replace hB := hB.next b2
    go_wp2
    go_ret
    exact ⟨by rw [hf, Bool.true_and]; rfl, hB⟩

/-- the numbers of a list ascend, and are those of edges -/
def subOk (n : Nat) (ws : List Int) (j : Nat) : Bool := inR (ws.getD j 0) (n : Int) && (j == 0 || decide (ws.getD (j - 1) 0 < ws.getD j 0))
def subB (n : Nat) (ws : List Int) : Bool := (List.range ws.length).all (subOk n ws)
theorem subB_no {n : Nat} {ws : List Int} {j : Nat} (hj : j < ws.length) (h : subOk n ws j = false) : subB n ws = false := by
  unfold subB
  rw [List.all_eq_false]
  exact ⟨j, List.mem_range.2 hj, by rw [h]; simp⟩
theorem subB_yes {n : Nat} {ws : List Int} (h : ∀ j, j < ws.length → subOk n ws j = true) : subB n ws = true := by
  unfold subB
  rw [List.all_eq_true]
  exact fun j hj => h j (List.mem_range.1 hj)
theorem subB_at {n : Nat} {ws : List Int} (h : subB n ws = true) (j : Nat) (hj : j < ws.length) : subOk n ws j = true := by
  unfold subB at h
  rw [List.all_eq_true] at h
  exact h j (List.mem_range.2 hj)
theorem subB_in {n : Nat} {ws : List Int} (h : subB n ws = true) (j : Nat) (hj : j < ws.length) : 0 ≤ ws.getD j 0 ∧ ws.getD j 0 < (n : Int) := by
  have := subB_at h j hj
  unfold subOk inR at this
  simp only [Bool.and_eq_true, decide_eq_true_eq] at this
  omega
def subCode (s : Int) (xss : List (List Int)) (ws : List Int) : Int := if grB s xss = true then (if subB xss.length ws = true then 0 else 2) else 1
/-- what stands before -/
def befI (ws : List Int) (k : Nat) : Int := if k = 0 then -1 else ws.getD (k - 1) 0

set_option maxHeartbeats 3200000 in
theorem checkSubset {lo hi lo1 hi1 : Nat} (s : Int) (a : Option Addr) (n c : Nat) (xss : List (List Int)) (a1 : Option Addr) (n1 c1 : Nat) (ws : List Int) (w : World) (h : RdR lo hi w (.slice a n c) xss) (hn : xss.length = n) (h1 : RdI lo1 hi1 w (.slice a1 n1 c1) ws) (hl : ws.length = n1) :
    Calls Try.prog 62 #[.agg #[.int .i64 s, .slice a n c], .slice a1 n1 c1] w fun e w' => e = .returned (.int .i64 (subCode s xss ws)) ∧ Below w.heap.size w w' := by
  have hb0 : ∀ o, Below w.heap.size w (w.alloc o) := fun o => (Below.refl _ _).alloc (Nat.le_refl _) o
  have hlen1 := h1.1
  rw [hl] at hlen1
  have HI := Lib.hid (fun W' (h' : RdR lo hi W' (.slice a n c) xss) => implIsGraph s a n c xss W' h' hn)
  obtain ⟨cd, hcd⟩ : ∃ cd, cd = subCode s xss ws := ⟨_, rfl⟩
  rw [← hcd]
  unfold subCode at hcd
  rw [hn] at hcd
  have HCD := Lib.hid hcd
  have HR := Lib.hid h
  have HR1 := Lib.hid h1
  have HL := Lib.hid hl
  have HN := Lib.hid hn
  clear h h1 hn hl hcd
  go_enter Try.func62, Try.ntmps62
  go_wp2_with fail
  refine calls_gen (fun W => Below w.heap.size w W ∧ w.heap.size < W.heap.size ∧ W.cell? ⟨w.heap.size, 1, none⟩ = some (.slice a n c)) ⟨hb0 _, by simp, by go_simp⟩ ?_
  rintro W ⟨hB, hzz, k1⟩
  refine (HI.out W (HR.out.below hB)).mono ?_
  rintro e w1 ⟨rfl, b1⟩
  replace hB := hB.next b1
  replace k1 := b1.keep k1
  clear b1 hzz
  cases hg : grB s xss with
  | false =>
    have hcd := HCD.out
    rw [hg, if_neg (by simp)] at hcd
    subst hcd
    go_wp2
    go_ret
    exact ⟨rfl, hB⟩
  | true =>
    have hcd := HCD.out
    rw [hg, if_pos rfl] at hcd
    have HC2 := Lib.hid hcd
    have hn10 : n ≤ 10 := by have := grB_iff hg; have := HN.out; omega
    clear hcd hg HCD
    have HB := Lib.hid (⟨hB, k1⟩ : _ ∧ _)
    clear hB
    go_wp2
    clear k1
    go_loopw [13, 5] (fun i bv wr => ∃ k : Nat, k ≤ n1 ∧ i = .int .i64 k ∧ bv = .int .i64 (befI ws k) ∧ Hid (∀ j, j < k → subOk n ws j = true) ∧ Below w.heap.size w wr ∧ wr.cell? ⟨w.heap.size, 1, none⟩ = some (.slice a n c)) (fun i _ _ => n1 - (intOf i).toNat)
    case atStart => exact ⟨0, Nat.zero_le _, rfl, rfl, Lib.hid (fun j hj => by omega), HB.out⟩
    case round =>
      clear HB
      obtain ⟨k, hk, rfl, rfl, HOK, hB, k1⟩ := hrel
      by_cases hlt : k < n1
      · obtain ⟨sb, so, rfl, g1⟩ := (HR1.out.below hB).cellsD HL.out k hlt
        have hkl : k < ws.length := by rw [HL.out]; exact hlt
        have hbad : subOk n ws k = false → cd = 2 := fun e => by
          have h2 := HC2.out
          rw [subB_no hkl e, if_neg (by simp)] at h2
          exact h2
        have hsub : subOk n ws k = (inR (ws.getD k 0) (n : Int) && !decide (ws.getD k 0 ≤ befI ws k)) := by
          unfold subOk befI
          by_cases h0 : k = 0
          · subst h0
            rw [if_pos rfl]
            unfold inR
            rw [Bool.eq_iff_iff]
            simp
            omega
          · have e0 : (k == 0) = false := by simpa using h0
            rw [if_neg h0, e0, Bool.false_or]
            congr 1
            rw [Bool.eq_iff_iff]
            simp
        have hnx : befI ws (k + 1) = ws.getD k 0 := by unfold befI; rw [if_neg (by omega), Nat.add_sub_cancel]
        generalize ws.getD k 0 = x at *
        generalize befI ws k = p at *
        have HBAD := Lib.hid hbad
        have HSUB := Lib.hid hsub
        have HNX := Lib.hid hnx
        clear hbad hsub hnx
        have hn0 : (0 : Int) ≤ (n : Int) := by omega
        by_cases hxp : x ≤ p
        · have hcd := HBAD.out (by rw [HSUB.out]; simp [hxp])
          have HCD := Lib.hid hcd
          clear hcd
          go_wp2
          go_ret
          exact ⟨by rw [HCD.out]; rfl, hB⟩
        · cases hi : inR x (n : Int) with
          | false =>
            have hcd := HBAD.out (by rw [HSUB.out, hi]; rfl)
            have HCD := Lib.hid hcd
            have HI2 := Lib.hid hi
            clear hcd hi
            go_wp2_with (go_at_call 95; refine (isIndexV _ _ false HI2.out _).mono ?_; rintro e w' ⟨rfl, q1⟩)
            go_ret
            exact ⟨by rw [HCD.out]; rfl, hB.qt q1⟩
          | true =>
            have hok : subOk n ws k = true := by rw [HSUB.out, hi]; simpa using hxp
            have HOK2 : Hid (∀ j, j < k + 1 → subOk n ws j = true) := Lib.hid (fun j hj => by
              by_cases e : j = k
              · subst e; exact hok
              · exact HOK.out j (by omega))
            have HI2 := Lib.hid hi
            clear hok hi
            go_wp2_with (go_at_call 95; refine (isIndexV _ _ true HI2.out _).mono ?_; rintro e w' ⟨rfl, q1⟩)
            go_roundw
            case rel => exact ⟨k+1, by omega, by go_num, by rw [HNX.out], HOK2, hB.qt q1, q1.cell k1⟩
            case measure => simp [intOf]; omega
      · obtain rfl : k = n1 := by omega
        have hcd := HC2.out
        rw [subB_yes (fun j hj => HOK.out j (by rw [← HL.out]; exact hj)), if_pos rfl] at hcd
        have HCD := Lib.hid hcd
        clear hcd
        go_wp2
        go_ret
        exact ⟨by rw [HCD.out]; rfl, hB⟩

end Go.Proofs.Ytkipfjdlmomkfaa
