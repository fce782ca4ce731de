/- Lists of chips, and DegreeOfChips: both sides. -/
import Derived.Test.YtnblhkhdilkbeaaDw
import Derived.Test.YtnblhkhdilkbeaaDbl
set_option linter.unusedSimpArgs false
set_option linter.unusedVariables false
set_option maxRecDepth 100000
namespace Go.Proofs.Ytnblhkhdilkbeaa
open Go.RowKit

def chB (x : Int) : Bool := decide (-200 ≤ x) && decide (x ≤ 200)
theorem chClo (x : Int) (w : World) : Calls Try.prog 91 #[.int .i64 x] w fun e w' => e = .returned (.bool (!chB x)) ∧ Qt w w' := by
  have HW := Lib.hid (isWithinL x 200 (by decide) (by decide) w)
  go_enter Try.func91, Try.ntmps91
  go_wp2_with fail
  refine HW.out.mono ?_
  rintro e w1 ⟨rfl, q1⟩
  go_wp2
  go_ret
  exact ⟨by show Ending.returned (.bool (!decide (-200 ≤ x) || !decide (x ≤ 200))) = _; unfold chB; rw [Bool.not_and], q1⟩
set_option maxHeartbeats 1600000 in
theorem chIndex {lo hi : Nat} (a : Option Addr) (n c : Nat) (xs : List Int) (w : World) (h : RdI lo hi w (.slice a n c) xs) (hn : xs.length = n) (h1 : n ≤ 1000) :
    Calls Try.prog 131 #[.slice a n c, .func (.func 91) #[] #[]] w fun e w' => (∃ v : Int, e = .returned (.int .i64 v) ∧ decide (0 ≤ v) = !xs.all chB) ∧ Qt w w' := by
  have HC := Lib.hid (fun W (hq : Qt w W) k (hk : k < n) => (h.qt hq).at hn k hk)
  have HYES := Lib.hid (fun k (hk : k < n) (e : chB (xs.getD k 0) = false) => (all_notI (f := chB) (ys := xs) (show k < xs.length by omega) e))
  have HTK := Lib.hid (fun k (hk : k < n) (h : (xs.take k).all chB = true) (e : chB (xs.getD k 0) = true) => (all_takeI (f := chB) (ys := xs) (show k < xs.length by omega) h e))
  have HFULL := Lib.hid (show xs.take n = xs by rw [← hn]; exact List.take_length)
  clear h hn
  go_enter Try.func131, Try.ntmps131
  go_wp2
  go_loopw [8] (fun v wr => ∃ k : Nat, k ≤ n ∧ v = .int .i64 k ∧ Qt w wr ∧ Hid ((xs.take k).all chB = true)) (fun v _ => n - (intOf v).toNat)
  case atStart => exact ⟨0, Nat.zero_le _, rfl, Qt.refl _, Lib.hid (by simp)⟩
  case round =>
    obtain ⟨k, hk, rfl, hq, HA⟩ := hrel
    by_cases hlt : k < n
    · obtain ⟨b, off, rfl, e0⟩ := HC.out wr hq k hlt
      have hy := HYES.out k hlt
      have ht := HTK.out k hlt HA.out
      generalize xs.getD k 0 = x at e0 hy ht
      have hkn : (k : Int) < (n : Int) := by omega
      have HQ := Lib.hid hq
      have HL := Lib.hid (chClo x wr)
      have HY := Lib.hid hy
      have HT := Lib.hid ht
      clear hq hy ht
      go_wp2_with fail
      refine HL.out.mono ?_
      rintro e w2 ⟨rfl, q2⟩
      have HQ2 := Lib.hid (HQ.out.trans q2)
      clear q2 HL
      cases hx : chB x with
      | false =>
        have HF := Lib.hid (HY.out hx)
        have hk0 : decide ((0 : Int) ≤ (k : Int)) = true := decide_eq_true (by omega)
        clear hx
        go_wp2
        go_ret
        exact ⟨⟨_, rfl, by rw [HF.out]; exact hk0⟩, HQ2.out⟩
      | true =>
        have HN2 := Lib.hid (HT.out hx)
        clear hx
        go_wp2
        go_roundw
        case rel => exact ⟨k+1, by omega, by go_num, HQ2.out, HN2⟩
        case measure => simp [intOf]; omega
    · obtain rfl : k = n := by omega
      have HF := Lib.hid HA.out
      rw [HFULL.out] at HF
      go_wp2
      go_ret
      exact ⟨⟨_, rfl, by rw [HF.out]; rfl⟩, hq⟩
set_option maxHeartbeats 1600000 in
theorem chContains {lo hi : Nat} (a : Option Addr) (n c : Nat) (xs : List Int) (w : World) (h : RdI lo hi w (.slice a n c) xs) (hn : xs.length = n) (h1 : n ≤ 1000) :
    Calls Try.prog 90 #[.slice a n c, .func (.func 91) #[] #[]] w fun e w' => e = .returned (.bool (!xs.all chB)) ∧ Qt w w' := by
  have HI := Lib.hid (chIndex a n c xs w h hn h1)
  clear h hn
  go_enter Try.func90, Try.ntmps90
  go_wp2_with fail
  refine HI.out.mono ?_
  rintro e w2 ⟨⟨v, rfl, hv⟩, q2⟩
  go_wp2
  go_ret
  exact ⟨by rw [← hv]; rfl, q2⟩
def chipsB (s : Int) (xs : List Int) : Bool := decide ((xs.length : Int) = s) && xs.all chB
set_option maxHeartbeats 1600000 in
theorem isChips {lo hi : Nat} (s : Int) (a : Option Addr) (n c : Nat) (a2 : Option Addr) (n2 c2 : Nat) (xs : List Int) (w : World) (h2 : RdI lo hi w (.slice a2 n2 c2) xs) (hn2 : xs.length = n2) (hs : s ≤ 8) :
    Calls Try.prog 52 #[.agg #[.int .i64 s, .slice a n c], .slice a2 n2 c2] w fun e w' => e = .returned (.bool (chipsB s xs)) ∧ Below w.heap.size w w' := by
  have hb0 : ∀ o, Below w.heap.size w (w.alloc o) := fun o => (Below.refl _ _).alloc (Nat.le_refl _) o
  obtain ⟨z, hz⟩ : ∃ z, z = chipsB s xs := ⟨_, rfl⟩
  rw [← hz]
  by_cases he : (n2 : Int) = s
  · have HC := Lib.hid (fun W (hB : Below w.heap.size w W) => chContains a2 n2 c2 xs W (h2.below hB) hn2 (by omega))
    have hzz : z = xs.all chB := by rw [hz]; unfold chipsB; rw [decide_eq_true (by omega), Bool.true_and]
    have HZ := Lib.hid hzz
    have hb : ((n2 : Int) != s) = false := by simp [he]
    clear h2 hn2 hz hzz he hs
    go_enter Try.func52, Try.ntmps52
    go_wp2_with fail
    refine calls_gen (fun W => Below w.heap.size w W) (hb0 _) ?_
    rintro W hB
    refine (HC.out W hB).mono ?_
    rintro e w2 ⟨rfl, q2⟩
    have HF := Lib.hid (hB.qt q2)
    clear q2 HC hB
    go_wp2
    go_ret
    exact ⟨by rw [HZ.out]; simp, HF.out⟩
  · have hzz : z = false := by rw [hz]; unfold chipsB; rw [decide_eq_false (by omega), Bool.false_and]
    subst hzz
    have hb : ((n2 : Int) != s) = true := by simp [he]
    clear h2 hn2 hz he hs
    go_enter Try.func52, Try.ntmps52
    go_wp2
    go_ret
    exact ⟨rfl, hb0 _⟩
def chipsCode (s : Int) (xss : List (List Int)) (xs : List Int) : Int := if grB s xss then (if chipsB s xs then 0 else 2) else 1
set_option maxHeartbeats 1600000 in
theorem checkChips1 {lo hi lo' hi' : Nat} (s : Int) (a : Option Addr) (n c : Nat) (xss : List (List Int)) (a2 : Option Addr) (n2 c2 : Nat) (xs : List Int) (G : Nat) (w : World) (h : RdR lo hi w (.slice a n c) xss) (hn : xss.length = n) (h2 : RdI lo' hi' w (.slice a2 n2 c2) xs) (hn2 : xs.length = n2) (hG : w.cell? ⟨G, 0, none⟩ = some (.slice a2 n2 c2)) :
    Calls Try.prog 95 #[.agg #[.int .i64 s, .slice a n c], .slice (some ⟨G, 0, none⟩) 1 1] w fun e w' => e = .returned (.int .i64 (chipsCode s xss xs)) ∧ Below w.heap.size w w' := by
  have hb0 : ∀ o, Below w.heap.size w (w.alloc o) := fun o => (Below.refl _ _).alloc (Nat.le_refl _) o
  have HI := Lib.hid (fun W (hB : Below w.heap.size w W) => implIsGraph s a n c xss W (h.below hB) hn)
  obtain ⟨cd, hcd⟩ : ∃ cd, cd = chipsCode s xss xs := ⟨_, rfl⟩
  rw [← hcd]
  unfold chipsCode at hcd
  cases hg : grB s xss with
  | false =>
    rw [hg] at HI hcd
    rw [if_neg (by simp)] at hcd
    subst hcd
    clear h hn h2 hn2 hg
    go_enter Try.func95, Try.ntmps95
    go_wp2_with fail
    refine calls_gen (fun W => Below w.heap.size w W) (hb0 _) ?_
    rintro W hB
    refine (HI.out W hB).mono ?_
    rintro e w1 ⟨rfl, b1⟩
    replace hB := hB.next b1
    go_wp2
    go_ret
    exact ⟨rfl, hB⟩
  | true =>
    rw [hg] at HI hcd
    rw [if_pos rfl] at hcd
    have hg4 := grB_iff hg
    have HC := Lib.hid (fun W (hB : Below w.heap.size w W) => isChips s a n c a2 n2 c2 xs W (h2.below hB) hn2 (by omega))
    have HCD := Lib.hid hcd
    clear h hn h2 hn2 hg hg4 hcd
    go_enter Try.func95, Try.ntmps95
    go_wp2_with fail
    refine calls_gen (fun W => Below w.heap.size w W ∧ W.cell? ⟨w.heap.size, 0, none⟩ = some (.int .i64 s) ∧ W.cell? ⟨w.heap.size, 1, none⟩ = some (.slice a n c)) ⟨hb0 _, by go_simp, by go_simp⟩ ?_
    rintro W ⟨hB, k0, k1⟩
    refine (HI.out W hB).mono ?_
    rintro e w1 ⟨rfl, b1⟩
    replace k0 := b1.keep k0
    replace k1 := b1.keep k1
    replace hB := hB.next b1
    have g0 := hB.keep hG
    clear b1 HI
    go_wp2
    refine wp_loop_rounds 2 ?_
    rw [rounds_succ]
    have hlt0 : (0 : Int) < 1 := by omega
    go_wp2_with fail
    refine (HC.out w1 hB).mono ?_
    rintro e w2 ⟨rfl, b2⟩
    have HF := Lib.hid (hB.next b2)
    clear b2 HC hB k0 k1 g0
    cases hz : chipsB s xs with
    | false =>
      have HD := Lib.hid (show cd = 2 by rw [HCD.out, hz]; rfl)
      go_wp2
      go_ret
      exact ⟨by rw [HD.out]; rfl, HF.out⟩
    | true =>
      have HD := Lib.hid (show cd = 0 by rw [HCD.out, hz]; rfl)
      go_wp2
      rw [rounds_succ]
      go_wp2
      go_ret
      exact ⟨by rw [HD.out]; rfl, HF.out⟩

def smK (f : Nat → Int) : Nat → Int
  | 0 => 0
  | k + 1 => smK f k + f k
theorem smK_bd {f : Nat → Int} (h : ∀ k, -200 ≤ f k ∧ f k ≤ 200) : ∀ k : Nat, -(200 * (k : Int)) ≤ smK f k ∧ smK f k ≤ 200 * (k : Int)
  | 0 => by simp [smK]
  | k + 1 => by
    have h1 := smK_bd h k
    have h2 := h k
    unfold smK
    omega
theorem ch_get {xs : List Int} (h : xs.all chB = true) (k : Nat) : -200 ≤ xs.getD k 0 ∧ xs.getD k 0 ≤ 200 := by
  by_cases hk : k < xs.length
  · have h1 := List.all_eq_true.1 h _ (List.getElem_mem hk)
    have e : xs.getD k 0 = xs[k] := by simp [List.getD, List.getElem?_eq_getElem hk]
    rw [e]
    simp only [chB, Bool.and_eq_true, decide_eq_true_eq] at h1
    exact h1
  · have : xs.getD k 0 = 0 := by simp [List.getD, List.getElem?_eq_none (show xs.length ≤ k by omega)]
    rw [this]; decide
def dcOf (s : Int) (xss : List (List Int)) (xs : List Int) : Int × Int := if chipsCode s xss xs = 0 then (smK (fun k => xs.getD k 0) xs.length, 0) else (0, chipsCode s xss xs)
theorem chips_ok {s : Int} {xss : List (List Int)} {xs : List Int} (h : chipsCode s xss xs = 0) : grB s xss = true ∧ (xs.length : Int) = s ∧ xs.all chB = true := by
  unfold chipsCode at h
  cases hg : grB s xss with
  | false => rw [hg] at h; simp at h
  | true =>
    cases hz : chipsB s xs with
    | false => rw [hg, hz] at h; simp at h
    | true =>
      unfold chipsB at hz
      simp only [Bool.and_eq_true, decide_eq_true_eq] at hz
      exact ⟨rfl, hz.1, hz.2⟩
set_option maxHeartbeats 3200000 in
theorem l10Chips1 {lo hi lo' hi' : Nat} (s : Int) (a : Option Addr) (n c : Nat) (xss : List (List Int)) (a2 : Option Addr) (n2 c2 : Nat) (xs : List Int) (G : Nat) (w : World) (h : RdR lo hi w (.slice a n c) xss) (hn : xss.length = n) (h2 : RdI lo' hi' w (.slice a2 n2 c2) xs) (hn2 : xs.length = n2) (hG : w.cell? ⟨G, 0, none⟩ = some (.slice a2 n2 c2)) :
    Calls Try.prog 49 #[.agg #[.int .i64 s, .slice a n c], .slice (some ⟨G, 0, none⟩) 1 1] w fun e w' => e = .returned (.int .i64 (chipsCode s xss xs)) ∧ Below w.heap.size w w' := by
  have hb0 : ∀ o, Below w.heap.size w (w.alloc o) := fun o => (Below.refl _ _).alloc (Nat.le_refl _) o
  have HI := Lib.hid (fun W (hB : Below w.heap.size w W) => l01Is s a n c xss W (h.below hB) hn)
  obtain ⟨cd, hcd⟩ : ∃ cd, cd = chipsCode s xss xs := ⟨_, rfl⟩
  rw [← hcd]
  unfold chipsCode at hcd
  cases hg : grB s xss with
  | false =>
    rw [hg] at HI hcd
    rw [if_neg (by simp)] at hcd
    subst hcd
    clear h hn h2 hn2 hg
    go_enter Try.func49, Try.ntmps49
    go_wp2_with fail
    refine calls_gen (fun W => Below w.heap.size w W) (hb0 _) ?_
    rintro W hB
    refine (HI.out W hB).mono ?_
    rintro e w1 ⟨rfl, b1⟩
    replace hB := hB.next b1
    go_wp2
    go_ret
    exact ⟨rfl, hB⟩
  | true =>
    rw [hg] at HI hcd
    rw [if_pos rfl] at hcd
    have hg4 := grB_iff hg
    have HCD := Lib.hid hcd
    have HC := Lib.hid (fun W (hB : Below w.heap.size w W) k (hk : k < n2) => (h2.below hB).at hn2 k hk)
    have HYES := Lib.hid (fun k (hk : k < n2) (e : chB (xs.getD k 0) = false) => (all_notI (f := chB) (ys := xs) (show k < xs.length by omega) e))
    have HTK := Lib.hid (fun k (hk : k < n2) (h : (xs.take k).all chB = true) (e : chB (xs.getD k 0) = true) => (all_takeI (f := chB) (ys := xs) (show k < xs.length by omega) h e))
    have HFULL := Lib.hid (show xs.take n2 = xs by rw [← hn2]; exact List.take_length)
    have HS8 := Lib.hid (show s ≤ 8 by omega)
    have HL2 := Lib.hid hn2
    clear h hn h2 hn2 hg hg4 hcd
    go_enter Try.func49, Try.ntmps49
    go_wp2_with fail
    refine calls_gen (fun W => Below w.heap.size w W ∧ W.cell? ⟨w.heap.size, 0, none⟩ = some (.int .i64 s) ∧ W.cell? ⟨w.heap.size, 1, none⟩ = some (.slice a n c)) ⟨hb0 _, by go_simp, by go_simp⟩ ?_
    rintro W ⟨hB, k0, k1⟩
    refine (HI.out W hB).mono ?_
    rintro e w1 ⟨rfl, b1⟩
    replace k0 := b1.keep k0
    replace k1 := b1.keep k1
    replace hB := hB.next b1
    have g0 := hB.keep hG
    have HK := Lib.hid (⟨hB, k0, g0⟩ : _ ∧ _ ∧ _)
    clear b1 HI k1
    go_wp2
    refine wp_loop_rounds 2 ?_
    rw [rounds_succ]
    have hlt0 : (0 : Int) < 1 := by omega
    have hlt1 : ¬ (1 : Int) < 1 := by omega
    go_wp2_with fail
    go_quiet (fail)
    have hqq := (Qt.refl w1).drewN nq
    generalize w1.drewN nq = V at hqq ⊢
    have HK2 := Lib.hid (⟨HK.out.1.qt hqq, hqq.cell HK.out.2.2⟩ : Below w.heap.size w V ∧ V.cell? ⟨G, 0, none⟩ = some (.slice a2 n2 c2))
    clear hqq hB k0 g0 HK
    by_cases he : (n2 : Int) = s
    · have hb : ((n2 : Int) != s) = false := by simp [he]
      have h8 : n2 ≤ 8 := by have := HS8.out; omega
      have HCB := Lib.hid (show cd = if xs.all chB = true then 0 else 2 by
        have e1 : chipsB s xs = xs.all chB := by unfold chipsB; rw [HL2.out, decide_eq_true he, Bool.true_and]
        rw [HCD.out, e1])
      have H8 := Lib.hid h8
      clear he HCD h8
      go_wp2
      rw [hb]
      clear hb
      go_loopw [6] (fun v wr => ∃ k : Nat, k ≤ n2 ∧ v = .int .i64 k ∧ Below w.heap.size w wr ∧ wr.cell? ⟨G, 0, none⟩ = some (.slice a2 n2 c2) ∧ Hid ((xs.take k).all chB = true)) (fun v _ => n2 - (intOf v).toNat)
      case atStart => exact ⟨0, Nat.zero_le _, rfl, HK2.out.1, HK2.out.2, Lib.hid (by simp)⟩
      case round =>
        clear HK2
        obtain ⟨k, hk, rfl, hB, g0, HA⟩ := hrel
        by_cases hlt : k < n2
        · obtain ⟨b, off, rfl, e0⟩ := HC.out wr hB k hlt
          have hy := HYES.out k hlt
          have ht := HTK.out k hlt HA.out
          generalize xs.getD k 0 = x at e0 hy ht
          have hkn : (k : Int) < (n2 : Int) := by omega
          have hkI : (0 : Int) ≤ (k : Int) := by omega
          have HLI := Lib.hid (l01In x (-200) 200 wr)
          have HY := Lib.hid hy
          have HT := Lib.hid ht
          have HBg := Lib.hid (⟨hB, g0⟩ : _ ∧ _)
          clear hB hy ht
          go_wp2_with fail
          refine HLI.out.mono ?_
          rintro e w2 ⟨rfl, q2⟩
          have HB2 := Lib.hid (⟨HBg.out.1.qt q2, q2.cell HBg.out.2⟩ : _ ∧ w2.cell? ⟨G, 0, none⟩ = some (.slice (some ⟨b, off, none⟩) n2 c2))
          have hch : (decide (-200 ≤ x) && decide (x ≤ 200)) = chB x := rfl
          rw [hch]
          clear q2 HLI HBg g0 e0 hch
          cases hx : chB x with
          | false =>
            have HF := Lib.hid (show cd = 2 by rw [HCB.out, HY.out hx]; rfl)
            clear hx
            go_wp2
            go_ret
            exact ⟨by rw [HF.out]; rfl, HB2.out.1⟩
          | true =>
            have HN2 := Lib.hid (HT.out hx)
            have h8 := H8.out
            clear hx
            go_wp2
            go_roundw
            case rel => exact ⟨k+1, by omega, by go_num, HB2.out.1, HB2.out.2, HN2⟩
            case measure => simp [intOf]; omega
        · obtain rfl : k = n2 := by omega
          have HF := Lib.hid (show cd = 0 by
            have := HA.out
            rw [HFULL.out] at this
            rw [HCB.out, this]; rfl)
          have HB2 := Lib.hid hB
          clear hB
          go_wp2
          rw [rounds_succ]
          go_wp2
          go_ret
          exact ⟨by rw [HF.out]; rfl, HB2.out⟩
    · have hb : ((n2 : Int) != s) = true := by simp [he]
      have HF := Lib.hid (show cd = 2 by
        have e1 : chipsB s xs = false := by unfold chipsB; rw [HL2.out, decide_eq_false he, Bool.false_and]
        rw [HCD.out, e1]; rfl)
      clear he HCD
      go_wp2
      go_ret
      exact ⟨by rw [HF.out]; rfl, HK2.out.1⟩
end Go.Proofs.Ytnblhkhdilkbeaa
