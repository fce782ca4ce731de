/- Sets that switch, by the program: DoesSwitch. -/
import Derived.Test.YtolipjemabmlkaaSwI
set_option linter.unusedSimpArgs false
set_option linter.unusedVariables false
set_option maxRecDepth 100000
namespace Go.Proofs.Ytolipjemabmlkaa
open Go.RowKit

theorem rowRd {lo hi : Nat} {w : World} {a : Option Addr} {S c : Nat} {f : Nat → Nat → Int} (h : RdR lo hi w (.slice a S c) (tab S f)) {k : Nat} (hk : k < S) : ∃ b off b' off' c', a = some ⟨b, off, none⟩ ∧ w.cell? ⟨b, off + k, none⟩ = some (.slice (some ⟨b', off', none⟩) S c') ∧ RdI lo hi w (.slice (some ⟨b', off', none⟩) S c') ((List.range S).map (f k)) := by
  obtain ⟨b, off, rv, e1, e2, e3⟩ := h.at (tab_len _ _) k hk
  obtain ⟨a', c', rfl⟩ := e3.shape
  rw [tab_rlen f hk] at e2 e3
  obtain ⟨b', off', rfl, e4⟩ := e3.at (tab_rlen f hk) k hk
  rw [tab_row f hk] at e3
  exact ⟨b, off, b', off', c', e1, e2, e3⟩
theorem swV_mem {f : Nat → Nat → Int} {xs : List Int} {v : Nat} (h : memB xs v = true) : swV f xs v = decide (nbR (f v) xs xs.length = nbR (f (xs.getD 0 0).toNat) xs xs.length) := by unfold swV; rw [if_pos h]
theorem swV_out {f : Nat → Nat → Int} {xs : List Int} {v : Nat} (h : memB xs v = false) : swV f xs v = decide (nbR (f v) xs xs.length = 0 ∨ nbR (f v) xs xs.length = xs.length ∨ 2 * nbR (f v) xs xs.length = xs.length) := by unfold swV; rw [if_neg (by rw [h]; simp)]

set_option maxHeartbeats 3200000 in
theorem doesSwitchP {lo hi lo1 hi1 : Nat} (S : Nat) (f : Nat → Nat → Int) (a : Option Addr) (c : Nat) (a1 : Option Addr) (n1 c1 : Nat) (xs : List Int) (w : World) (h : RdR lo hi w (.slice a S c) (tab S f)) (h1 : RdI lo1 hi1 w (.slice a1 n1 c1) xs) (hl : xs.length = n1) (hS8 : S ≤ 8) (hn8 : n1 ≤ 8) (hx : ∀ k, k < n1 → ∃ m : Nat, xs.getD k 0 = (m : Int) ∧ m < S) :
    Calls Try.prog 93 #[.slice a S c, .slice a1 n1 c1] w fun e w' => e = .returned (.bool (swB f S xs)) ∧ Qt w w' := by
  have HR := Lib.hid (fun W (hq : Qt w W) k (hk : k < S) => rowRd (h.qt hq) hk)
  have HNB := Lib.hid (fun (r : Nat → Int) (b : Option Addr) (cb lo2 hi2 : Nat) W (hq : Qt w W) (hW : RdI lo2 hi2 W (.slice b S cb) ((List.range S).map r)) => neighboursIn S r b cb a1 n1 c1 xs W hW (h1.qt hq) hl hS8 hn8 hx)
  have HCN := Lib.hid (fun (v : Nat) W (hq : Qt w W) => slContains a1 n1 c1 xs v W (h1.qt hq) hl)
  have HC := Lib.hid (fun W (hq : Qt w W) => (h1.qt hq).at hl)
  have HXN := Lib.hid hx
  have HNO := Lib.hid (fun v (hv : v < S) (e : swV f xs v = false) => swB_no hv e)
  have HYES := Lib.hid (fun (h : ∀ v, v < S → swV f xs v = true) => swB_yes h)
  have HV1 := Lib.hid (fun v (h : memB xs v = true) => by have := swV_mem (f := f) h; rw [hl] at this; exact this)
  have HV2 := Lib.hid (fun v (h : memB xs v = false) => by have := swV_out (f := f) h; rw [hl] at this; exact this)
  have HM0 := Lib.hid (fun v (h : memB xs v = true) => by have := memB_at h; rw [hl] at this; exact this)
  have HLE := Lib.hid (fun (r : Nat → Int) => nbR_le r xs n1)
  generalize swB f S xs = R at HNO HYES ⊢
  clear h h1 hl hx
  go_enter Try.func93, Try.ntmps93
  go_wp2
  go_loopw [10] (fun v wr => ∃ k : Nat, k ≤ S ∧ v = .int .i64 k ∧ Qt w wr ∧ Hid (∀ j, j < k → swV f xs j = true)) (fun v _ => S - (intOf v).toNat)
  case atStart => exact ⟨0, Nat.zero_le _, rfl, Qt.refl _, Lib.hid (fun i hi => by omega)⟩
  case round =>
    obtain ⟨k, hk, rfl, hq, HA⟩ := hrel
    by_cases hlt : k < S
    · obtain ⟨b, off, b', off', c', rfl, e2, e3⟩ := HR.out wr hq k hlt
      have HN1 := Lib.hid (HNB.out (f k) _ c' _ _ wr hq e3)
      have hcl := HLE.out (f k)
      obtain ⟨cn, hcn⟩ : ∃ cn, cn = nbR (f k) xs n1 := ⟨_, rfl⟩
      rw [← hcn] at HN1 hcl
      have HCC := Lib.hid hcn
      have HQ := Lib.hid hq
      have hkS : (k : Int) < (S : Int) := by omega
      clear hcn e3 hq
      go_wp2_with fail
      refine HN1.out.mono ?_
      rintro e w2 ⟨rfl, q2⟩
      have HQ2 := Lib.hid (HQ.out.trans q2)
      have HC2 := Lib.hid (HCN.out k w2 HQ2.out)
      clear q2 HN1
      go_wp2_with fail
      refine HC2.out.mono ?_
      rintro e w3 ⟨rfl, q3⟩
      have HQ3 := Lib.hid (HQ2.out.trans q3)
      clear q3 HC2 e2
      cases hmm : memB xs k with
      | true =>
        have hn0 := HM0.out k hmm
        have hv := HV1.out k hmm
        rw [← HCC.out] at hv
        obtain ⟨ob, oo, rfl, g0⟩ := HC.out w3 HQ3.out 0 hn0
        obtain ⟨m, hm, hmS⟩ := HXN.out 0 hn0
        rw [hm] at g0 hv
        rw [Int.toNat_natCast] at hv
        obtain ⟨b2, off2, b3, off3, c3, hbb, g2, g3⟩ := HR.out w3 HQ3.out m hmS
        simp only [Option.some.injEq, Addr.mk.injEq, and_true] at hbb
        obtain ⟨rfl, rfl⟩ := hbb
        have HN2 := Lib.hid (HNB.out (f m) _ c3 _ _ w3 HQ3.out g3)
        obtain ⟨cm, hcm⟩ : ∃ cm, cm = nbR (f m) xs n1 := ⟨_, rfl⟩
        rw [← hcm] at HN2 hv
        have hmSi : (m : Int) < (S : Int) := by omega
        have hn0i : (0 : Int) < (n1 : Int) := by omega
        rw [Nat.add_zero] at g0
        clear hcm g3 hm hmm
        go_wp2_with fail
        refine HN2.out.mono ?_
        rintro e w4 ⟨rfl, q4⟩
        have HQ4 := Lib.hid (HQ3.out.trans q4)
        clear q4 HN2 g0 g2
        by_cases hce : cn = cm
        · have hb : ((cn : Int) != (cm : Int)) = false := by simp; omega
          have hvt : swV f xs k = true := by rw [hv]; exact decide_eq_true hce
          have HN := Lib.hid (fun j (hj : j < k + 1) => show swV f xs j = true by
            by_cases e : j = k
            · subst e; exact hvt
            · exact HA.out j (by omega))
          clear hv hvt hce HA
          go_wp2
          go_roundw
          case rel => exact ⟨k + 1, by omega, by go_num, HQ4.out, HN⟩
          case measure => simp [intOf]; omega
        · have hb : ((cn : Int) != (cm : Int)) = true := by simp; omega
          have HF := Lib.hid (HNO.out k hlt (by rw [hv]; exact decide_eq_false hce))
          clear hv hce HA
          go_wp2
          go_ret
          exact ⟨by rw [HF.out]; rfl, HQ4.out⟩
      | false =>
        have hv := HV2.out k hmm
        rw [← HCC.out] at hv
        have w1' : IntKind.i64.wrap (2 * (cn : Int)) = 2 * (cn : Int) := IntWalk.i64_in _ (by omega)
        have w2' : wrap64 (2 * (cn : Int)) = 2 * (cn : Int) := IntWalk.wrap64_in _ (by clear w1'; omega)
        have HN1 := Lib.hid (fun (hp : cn = 0 ∨ cn = n1 ∨ 2 * cn = n1) j (hj : j < k + 1) => show swV f xs j = true by
          by_cases e : j = k
          · subst e; rw [hv]; exact decide_eq_true hp
          · exact HA.out j (by omega))
        have HN2 := Lib.hid (fun (hp : ¬ (cn = 0 ∨ cn = n1 ∨ 2 * cn = n1)) => HNO.out k hlt (by rw [hv]; exact decide_eq_false hp))
        clear hmm hv HA
        by_cases h0 : cn = 0
        · have hb : ((cn : Int) != 0) = false := by simpa using h0
          have HN := Lib.hid (HN1.out (.inl h0))
          clear h0 HN1 HN2 w1' w2'
          go_wp2
          go_roundw
          case rel => exact ⟨k + 1, by omega, by go_num, HQ3.out, HN⟩
          case measure => simp [intOf]; omega
        · have hb : ((cn : Int) != 0) = true := by simp; clear w1' w2'; omega
          by_cases h2 : cn = n1
          · have hb2 : ((cn : Int) != (n1 : Int)) = false := by simp; clear w1' w2'; omega
            have HN := Lib.hid (HN1.out (.inr (.inl h2)))
            clear h0 h2 HN1 HN2 w1' w2'
            go_wp2
            go_roundw
            case rel => exact ⟨k + 1, by omega, by go_num, HQ3.out, HN⟩
            case measure => simp [intOf]; omega
          · have hb2 : ((cn : Int) != (n1 : Int)) = true := by simp; clear w1' w2'; omega
            by_cases h3 : 2 * cn = n1
            · have hb3 : (2 * (cn : Int) != (n1 : Int)) = false := by simp; clear w1' w2'; omega
              have HN := Lib.hid (HN1.out (.inr (.inr h3)))
              clear h0 h2 h3 HN1 HN2
              go_wp2
              clear w1' w2'
              go_roundw
              case rel => exact ⟨k + 1, by omega, by go_num, HQ3.out, HN⟩
              case measure => simp [intOf]; omega
            · have hb3 : (2 * (cn : Int) != (n1 : Int)) = true := by simp; clear w1' w2'; omega
              have HF := Lib.hid (HN2.out (by clear w1' w2'; omega))
              clear h0 h2 h3 HN1 HN2
              go_wp2
              go_ret
              exact ⟨by rw [HF.out]; rfl, HQ3.out⟩
    · obtain rfl : k = S := by omega
      have HF := Lib.hid (HYES.out HA.out)
      clear HA
      go_wp2
      go_ret
      exact ⟨by rw [HF.out]; rfl, hq⟩

theorem swCode_no {s : Int} {xss : List (List Int)} {xs : List Int} (h : grB s xss = false) : swCode s xss xs = 1 := by unfold swCode; rw [h]; rfl
theorem swCode_rng {s : Int} {xss : List (List Int)} {xs : List Int} (h : grB s xss = true) (h2 : setB s xs = false) : swCode s xss xs = 2 := by unfold swCode; rw [if_pos h, h2]; rfl
theorem swCode_st {S : Nat} {xss : List (List Int)} {xs : List Int} (h : grB (S : Int) xss = true) (h2 : setB (S : Int) xs = true) (h3 : simB (adF xss) S = false) : swCode (S : Int) xss xs = 5 := by unfold swCode; rw [if_pos h, if_pos h2, Int.toNat_natCast, h3]; rfl
theorem swCode_ok {S : Nat} {xss : List (List Int)} {xs : List Int} (h : grB (S : Int) xss = true) (h2 : setB (S : Int) xs = true) (h3 : simB (adF xss) S = true) : swCode (S : Int) xss xs = 0 := by unfold swCode; rw [if_pos h, if_pos h2, Int.toNat_natCast, h3]; rfl
theorem swCode_cases (s : Int) (xss : List (List Int)) (xs : List Int) : (swCode s xss xs ≠ 0) ∨ (∃ S : Nat, s = (S : Int) ∧ S ≤ 8 ∧ grB (S : Int) xss = true ∧ setB (S : Int) xs = true ∧ simB (adF xss) S = true ∧ swCode s xss xs = 0) := by
  cases hg : grB s xss with
  | false => left; rw [swCode_no hg]; decide
  | true =>
    have hg4 := grB_iff hg
    obtain ⟨S, hS⟩ : ∃ S : Nat, s = (S : Int) := ⟨s.toNat, by omega⟩
    subst hS
    cases h2 : setB (S : Int) xs with
    | false => left; rw [swCode_rng hg h2]; decide
    | true =>
      cases h3 : simB (adF xss) S with
      | false => left; rw [swCode_st hg h2 h3]; decide
      | true => right; exact ⟨S, rfl, by omega, hg, h2, h3, swCode_ok hg h2 h3⟩

/-- the program's checks: all is well -/
theorem switchRows_ok {lo hi lo1 hi1 : Nat} (S : Nat) (a : Option Addr) (n c : Nat) (xss : List (List Int)) (a1 : Option Addr) (n1 c1 : Nat) (xs : List Int) (w : World) (h : RdR lo hi w (.slice a n c) xss) (hn : xss.length = n) (h1 : RdI lo1 hi1 w (.slice a1 n1 c1) xs) (hl : xs.length = n1) (hg : grB (S : Int) xss = true) (h2 : setB (S : Int) xs = true) (h3 : simB (adF xss) S = true) :
    Calls Try.prog 92 #[.agg #[.int .i64 (S : Int), .slice a n c], .slice a1 n1 c1] w fun e w' => ∃ a' c' L, e = .returned (.tuple #[.slice a' S c', .int .i64 0]) ∧ OwR L w'.heap.size w' (.slice a' S c') (tab S (adF xss)) ∧ w.heap.size < L ∧ Below w.heap.size w w' := by
  have hb0 : ∀ o, Below w.heap.size w (w.alloc o) := fun o => (Below.refl _ _).alloc (Nat.le_refl _) o
  have hg4 := grB_iff hg
  have HA := Lib.hid (fun W (hB : Below w.heap.size w W) => implAdj_yes S a n c xss W (h.below hB) hn hg)
  have HVS := Lib.hid (fun W (hB : Below w.heap.size w W) => isVertexSet (S : Int) a n c a1 n1 c1 xs W (h1.below hB) hl)
  have HIS := Lib.hid (fun (a1 : Option Addr) (c1 lo1 hi1 : Nat) (W : World) (hW : RdR lo1 hi1 W (.slice a1 S c1) (tab S (adF xss))) => isSimpleP S (adF xss) a1 c1 W hW (by omega) (fun v _ => diag_ok (s := (S : Int)) v))
  rw [h2] at HVS
  rw [h3] at HIS
  have HN := Lib.hid hn
  have HAT := Lib.hid (show tab S (fun i j => adS (pairs xss) xss.length i j) = tab S (adF xss) from rfl)
  generalize adF xss = f at HAT HIS ⊢
  clear h hn h1 hl hg h2 h3 hg4
  go_enter Try.func92, Try.ntmps92
  go_wp2_with fail
  refine calls_gen (fun W => Below w.heap.size w W ∧ w.heap.size < W.heap.size ∧ W.cell? ⟨w.heap.size, 0, none⟩ = some (.int .i64 (S : Int)) ∧ W.cell? ⟨w.heap.size, 1, none⟩ = some (.slice a n c)) ⟨hb0 _, by simp, by go_simp, by go_simp⟩ ?_
  rintro W ⟨hB, hz, k0, k1⟩
  refine (HA.out W hB).mono ?_
  rintro e w2 ⟨a2, c2, rfl, o2, b2⟩
  have ho : OwR W.heap.size w2.heap.size w2 (.slice a2 S c2) (tab S f) := by
    rw [← HN.out, HAT.out] at o2
    exact o2
  replace k0 := b2.keep k0
  replace k1 := b2.keep k1
  have HO := Lib.hid (⟨ho, hB.next b2, hz⟩ : _ ∧ _ ∧ _)
  have HV2 := Lib.hid (HVS.out w2 HO.out.2.1)
  clear o2 b2 ho hB hz HA HVS HAT HN
  go_wp2_with fail
  refine HV2.out.mono ?_
  rintro e w3 ⟨rfl, b3⟩
  have HO3 := Lib.hid (⟨(HO.out.1.below b3).mono (Nat.le_refl _) b3.size, HO.out.2.1.next b3⟩ : OwR W.heap.size w3.heap.size w3 (.slice a2 S c2) (tab S f) ∧ _)
  have HS3 := Lib.hid (HIS.out a2 c2 _ _ w3 HO3.out.1.rd)
  clear b3 HV2 HIS k0 k1
  go_wp2_with fail
  refine HS3.out.mono ?_
  rintro e w4 ⟨rfl, q4⟩
  have HF := Lib.hid (⟨(HO3.out.1.qt q4).mono (Nat.le_refl _) q4.below.size, HO3.out.2.qt q4⟩ : OwR W.heap.size w4.heap.size w4 (.slice a2 S c2) (tab S f) ∧ _)
  clear q4 HS3
  go_wp2
  go_ret2
  exact ⟨a2, c2, W.heap.size, rfl, HF.out.1, HO.out.2.2, HF.out.2⟩

/-- .. something is wrong -/
theorem switchRows_bad {lo hi lo1 hi1 : Nat} (s : Int) (a : Option Addr) (n c : Nat) (xss : List (List Int)) (a1 : Option Addr) (n1 c1 : Nat) (xs : List Int) (w : World) (h : RdR lo hi w (.slice a n c) xss) (hn : xss.length = n) (h1 : RdI lo1 hi1 w (.slice a1 n1 c1) xs) (hl : xs.length = n1) (hc : swCode s xss xs ≠ 0) :
    Calls Try.prog 92 #[.agg #[.int .i64 s, .slice a n c], .slice a1 n1 c1] w fun e w' => e = .returned (.tuple #[.slice none 0 0, .int .i64 (swCode s xss xs)]) ∧ Below w.heap.size w w' := by
  have hb0 : ∀ o, Below w.heap.size w (w.alloc o) := fun o => (Below.refl _ _).alloc (Nat.le_refl _) o
  cases hg : grB s xss with
  | false =>
    have HR := Lib.hid (fun W (hB : Below w.heap.size w W) => implAdj s a n c xss W (h.below hB) hn)
    have hno : adjOf s xss = ([], 1) := by unfold adjOf; rw [hg]; rfl
    rw [hno] at HR
    rw [swCode_no hg]
    clear h hn hg hno h1 hl hc
    go_enter Try.func92, Try.ntmps92
    go_wp2_with fail
    refine calls_gen (fun W => Below w.heap.size w W) (hb0 _) ?_
    rintro W hB
    refine (HR.out W hB).mono ?_
    rintro e w1 ⟨a1, c1, rfl, o1, b1⟩
    replace hB := hB.next b1
    clear o1 b1 HR
    go_wp2
    go_ret2
    exact ⟨rfl, hB⟩
  | true =>
    have hg4 := grB_iff hg
    obtain ⟨S, hS⟩ : ∃ S : Nat, s = (S : Int) := ⟨s.toNat, by omega⟩
    subst hS
    have HA := Lib.hid (fun W (hB : Below w.heap.size w W) => implAdj_yes S a n c xss W (h.below hB) hn hg)
    have HVS := Lib.hid (fun W (hB : Below w.heap.size w W) => isVertexSet (S : Int) a n c a1 n1 c1 xs W (h1.below hB) hl)
    have HIS := Lib.hid (fun (a1 : Option Addr) (c1 lo1 hi1 : Nat) (W : World) (hW : RdR lo1 hi1 W (.slice a1 S c1) (tab S (adF xss))) => isSimpleP S (adF xss) a1 c1 W hW (by omega) (fun v _ => diag_ok (s := (S : Int)) v))
    have HN := Lib.hid hn
    have HAT := Lib.hid (show tab S (fun i j => adS (pairs xss) xss.length i j) = tab S (adF xss) from rfl)
    have HC2 := Lib.hid (fun h2 => swCode_rng (xs := xs) hg h2)
    have HC3 := Lib.hid (fun h2 h3 => swCode_st (xs := xs) hg h2 h3)
    have HC4 := Lib.hid (fun h2 h3 => hc (swCode_ok hg h2 h3))
    generalize swCode (S : Int) xss xs = cd at HC2 HC3 HC4 ⊢
    generalize adF xss = f at HAT HIS HC3 HC4 ⊢
    clear h hn h1 hl hg hg4 hc
    go_enter Try.func92, Try.ntmps92
    go_wp2_with fail
    refine calls_gen (fun W => Below w.heap.size w W ∧ W.cell? ⟨w.heap.size, 0, none⟩ = some (.int .i64 (S : Int)) ∧ W.cell? ⟨w.heap.size, 1, none⟩ = some (.slice a n c)) ⟨hb0 _, by go_simp, by go_simp⟩ ?_
    rintro W ⟨hB, k0, k1⟩
    refine (HA.out W hB).mono ?_
    rintro e w2 ⟨a2, c2, rfl, o2, b2⟩
    have ho : RdR W.heap.size w2.heap.size w2 (.slice a2 S c2) (tab S f) := by
      have := o2.rd
      rw [← HN.out, HAT.out] at this
      exact this
    replace k0 := b2.keep k0
    replace k1 := b2.keep k1
    have HO := Lib.hid (⟨ho, hB.next b2⟩ : _ ∧ _)
    have HV2 := Lib.hid (HVS.out w2 HO.out.2)
    clear o2 b2 ho hB HA HVS HAT HN
    go_wp2_with fail
    refine HV2.out.mono ?_
    rintro e w3 ⟨rfl, b3⟩
    have HO3 := Lib.hid (⟨HO.out.1.below b3, HO.out.2.next b3⟩ : _ ∧ _)
    have HS3 := Lib.hid (HIS.out a2 c2 _ _ w3 HO3.out.1)
    clear b3 HV2 HIS k0 k1
    cases h2 : setB (S : Int) xs with
    | false =>
      have hcd := HC2.out h2
      subst hcd
      clear HC2 HC3 HC4 HS3
      go_wp2
      go_ret2
      exact ⟨rfl, HO3.out.2⟩
    | true =>
      cases h3 : simB f S with
      | true => exact absurd (HC4.out h2 h3) (by simp)
      | false =>
        have hcd := HC3.out h2 h3
        subst hcd
        rw [h3] at HS3
        clear HC2 HC3 HC4 h2 h3
        go_wp2_with fail
        refine HS3.out.mono ?_
        rintro e w4 ⟨rfl, q4⟩
        have HF := Lib.hid (HO3.out.2.qt q4)
        clear q4 HS3
        go_wp2
        go_ret2
        exact ⟨rfl, HF.out⟩

set_option maxHeartbeats 1600000 in
theorem implDs {lo hi lo1 hi1 : Nat} (s : Int) (a : Option Addr) (n c : Nat) (xss : List (List Int)) (a1 : Option Addr) (n1 c1 : Nat) (xs : List Int) (w : World) (h : RdR lo hi w (.slice a n c) xss) (hn : xss.length = n) (h1 : RdI lo1 hi1 w (.slice a1 n1 c1) xs) (hl : xs.length = n1) :
    Calls Try.prog 45 #[.agg #[.int .i64 s, .slice a n c], .slice a1 n1 c1] w fun e w' => e = .returned (.tuple #[.bool (dsOf s xss xs).1, .int .i64 (dsOf s xss xs).2]) ∧ Below w.heap.size w w' := by
  have hb0 : ∀ o, Below w.heap.size w (w.alloc o) := fun o => (Below.refl _ _).alloc (Nat.le_refl _) o
  rcases swCode_cases s xss xs with hc | ⟨S, rfl, hS8, hg, h2, h3, hc⟩
  · have HR := Lib.hid (fun W (hB : Below w.heap.size w W) => switchRows_bad s a n c xss a1 n1 c1 xs W (h.below hB) hn (h1.below hB) hl hc)
    have hd : dsOf s xss xs = (false, swCode s xss xs) := by unfold dsOf; rw [if_neg hc]
    rw [hd]
    have hcb : (swCode s xss xs != 0) = true := by simpa using hc
    generalize swCode s xss xs = cd at HR hcb ⊢
    clear h hn h1 hl hc hd
    go_enter Try.func45, Try.ntmps45
    go_wp2_with fail
    refine calls_gen (fun W => Below w.heap.size w W) (hb0 _) ?_
    rintro W hB
    refine (HR.out W hB).mono ?_
    rintro e w1 ⟨rfl, b1⟩
    replace hB := hB.next b1
    clear b1 HR
    go_wp2
    go_ret2
    exact ⟨rfl, hB⟩
  · have HR := Lib.hid (fun W (hB : Below w.heap.size w W) => switchRows_ok S a n c xss a1 n1 c1 xs W (h.below hB) hn (h1.below hB) hl hg h2 h3)
    have hd : dsOf (S : Int) xss xs = (swB (adF xss) S xs, 0) := by unfold dsOf; rw [if_pos hc, Int.toNat_natCast]
    rw [hd]
    have hsl := setB_len h2
    rw [hl] at hsl
    have hsn := setB_nat h2
    rw [hl] at hsn
    have HDS := Lib.hid (fun (a2 : Option Addr) (c2 lo2 hi2 : Nat) (W : World) (hB : Below w.heap.size w W) (hW : RdR lo2 hi2 W (.slice a2 S c2) (tab S (adF xss))) => doesSwitchP S (adF xss) a2 c2 a1 n1 c1 xs W hW (h1.below hB) hl hS8 (by omega) (fun k hk => by
      obtain ⟨m, e1, e2, _⟩ := hsn k hk
      exact ⟨m, e1, e2⟩))
    generalize swB (adF xss) S xs = R at HDS ⊢
    clear h hn h1 hl hc hd hg h2 h3 hsl hsn
    go_enter Try.func45, Try.ntmps45
    go_wp2_with fail
    refine calls_gen (fun W => Below w.heap.size w W) (hb0 _) ?_
    rintro W hB
    refine (HR.out W hB).mono ?_
    rintro e w1 ⟨a2, c2, L, rfl, o2, hL, b2⟩
    have HB := Lib.hid (hB.next b2)
    have HD2 := Lib.hid (HDS.out a2 c2 _ _ w1 HB.out o2.rd)
    clear o2 b2 hB HR HDS
    go_wp2_with fail
    refine HD2.out.mono ?_
    rintro e w2 ⟨rfl, q2⟩
    have HF := Lib.hid (HB.out.qt q2)
    clear q2 HD2
    go_wp2
    go_ret2
    exact ⟨rfl, HF.out⟩

end Go.Proofs.Ytolipjemabmlkaa
