/- IsSimple, both sides. -/
import Derived.Test.YtolipjemabmlkaaSimP
import Derived.Test.YtolipjemabmlkaaCoreF
set_option linter.unusedSimpArgs false
set_option linter.unusedVariables false
set_option maxRecDepth 100000
namespace Go.Proofs.Ytolipjemabmlkaa
open Go.RowKit

/-- the greatest of the numbers up to k -/
def mxL (xs : List Int) : Nat → Int
  | 0 => xs.getD 0 0
  | k + 1 => if mxL xs k < xs.getD (k + 1) 0 then xs.getD (k + 1) 0 else mxL xs k
theorem mxL_le {xs : List Int} {B : Int} : ∀ k, mxL xs k ≤ B ↔ ∀ j, j ≤ k → xs.getD j 0 ≤ B
  | 0 => ⟨fun h j hj => by obtain rfl : j = 0 := by omega
                           exact h, fun h => h 0 (Nat.le_refl _)⟩
  | k + 1 => by
    have ih := mxL_le (xs := xs) (B := B) k
    unfold mxL
    constructor
    · intro h j hj
      by_cases e : j = k + 1
      · subst e; split at h <;> omega
      · refine ih.1 ?_ j (by omega); split at h <;> omega
    · intro h
      have h1 := ih.2 (fun j hj => h j (by omega))
      have h2 := h (k + 1) (Nat.le_refl _)
      split <;> omega

set_option maxHeartbeats 1600000 in
theorem slMaxI {lo hi : Nat} (a : Option Addr) (c S : Nat) (xs : List Int) (w : World) (h : RdI lo hi w (.slice a S c) xs) (hL : xs.length = S) (h1 : 1 ≤ S) (h32 : S ≤ 1000) :
    Calls Try.prog 127 #[.slice a S c] w fun e w' => e = .returned (.int .i64 (mxL xs (S - 1))) ∧ Qt w w' := by
  have HC := Lib.hid (h.at hL)
  clear h hL
  obtain ⟨b, off, rfl, g0⟩ := HC.out 0 (by omega)
  rw [Nat.add_zero] at g0
  obtain ⟨m0, hm0⟩ : ∃ m0, m0 = xs.getD 0 0 := ⟨_, rfl⟩
  rw [← hm0] at g0
  have HM0 := Lib.hid (show mxL xs 0 = m0 from hm0.symm)
  have hn1 : ¬ (S : Int) < 1 := by omega
  have hn2 : (0 : Int) < (S : Int) := by omega
  have HMX := Lib.hid (fun k => show mxL xs (k + 1) = if mxL xs k < xs.getD (k + 1) 0 then xs.getD (k + 1) 0 else mxL xs k from rfl)
  generalize mxL xs = F at HM0 HMX ⊢
  clear hm0
  go_enter Try.func127, Try.ntmps127
  go_wp2
  go_loopw [3, 4] (fun v i wr => ∃ (k : Nat) (m : Int), 1 ≤ k ∧ k ≤ S ∧ i = .int .i64 k ∧ v = .int .i64 m ∧ Hid (m = F (k - 1)) ∧ Qt w wr) (fun _ i _ => S - (intOf i).toNat)
  case atStart => exact ⟨1, m0, Nat.le_refl _, h1, rfl, rfl, Lib.hid HM0.out.symm, Qt.refl _⟩
  case round =>
    obtain ⟨k, m, hk1, hk, rfl, rfl, HI, hq⟩ := hrel
    by_cases hlt : k < S
    · obtain ⟨b', off', hbb, g1⟩ := HC.out k hlt
      obtain ⟨rfl, rfl⟩ : b' = b ∧ off' = off := by simp at hbb; exact ⟨hbb.1.symm, hbb.2.symm⟩
      replace g1 := hq.cell g1
      have hmx := HMX.out (k - 1)
      rw [show k - 1 + 1 = k by omega, ← HI.out] at hmx
      obtain ⟨x, hx⟩ : ∃ x, x = xs.getD k 0 := ⟨_, rfl⟩
      rw [← hx] at g1 hmx
      clear hx hbb HI
      by_cases hmx2 : m < x
      · rw [if_pos hmx2] at hmx
        have HN := Lib.hid (show x = F (k + 1 - 1) by rw [Nat.add_sub_cancel]; exact hmx.symm)
        have e2 : ¬ x < m := by omega
        clear hmx
        go_wp2
        go_roundw
        case rel => exact ⟨k+1, x, by omega, by omega, by go_num, rfl, HN, hq⟩
        case measure => simp [intOf]; omega
      · rw [if_neg hmx2] at hmx
        have HN := Lib.hid (show m = F (k + 1 - 1) by rw [Nat.add_sub_cancel]; exact hmx.symm)
        clear hmx
        by_cases hxm : x < m
        · go_wp2
          go_roundw
          case rel => exact ⟨k+1, m, by omega, by omega, by go_num, rfl, HN, hq⟩
          case measure => simp [intOf]; omega
        · obtain rfl : x = m := by omega
          go_wp2
          go_roundw
          case rel => exact ⟨k+1, x, by omega, by omega, by go_num, rfl, HN, hq⟩
          case measure => simp [intOf]; omega
    · obtain rfl : k = S := by omega
      go_wp2
      go_ret
      exact ⟨by rw [HI.out]; rfl, hq⟩

set_option maxHeartbeats 3200000 in
theorem isSimpleP {lo hi : Nat} (S : Nat) (f : Nat → Nat → Int) (a : Option Addr) (c : Nat) (w : World) (h : RdR lo hi w (.slice a S c) (tab S f)) (hS : S ≤ 1000) (hd : ∀ v, v < S → f v v ≤ 0 ∨ 1 < f v v) :
    Calls Try.prog 87 #[.slice a S c] w fun e w' => e = .returned (.bool (simB f S)) ∧ Qt w w' := by
  have HE := Lib.hid (fun W (hq : Qt w W) k (hk : k < S) => show ∃ b off b' off' c', a = some ⟨b, off, none⟩ ∧ W.cell? ⟨b, off + k, none⟩ = some (.slice (some ⟨b', off', none⟩) S c') ∧ W.cell? ⟨b', off' + k, none⟩ = some (.int .i64 (f k k)) ∧ RdI lo hi W (.slice (some ⟨b', off', none⟩) S c') ((List.range S).map (f k)) by
    obtain ⟨b, off, rv, e1, e2, e3⟩ := (h.qt hq).at (tab_len _ _) k hk
    obtain ⟨a', c', rfl⟩ := e3.shape
    rw [tab_rlen f hk] at e2 e3
    obtain ⟨b', off', rfl, e4⟩ := e3.at (tab_rlen f hk) k hk
    rw [tab_get f hk hk] at e4
    rw [tab_row f hk] at e3
    exact ⟨b, off, b', off', c', e1, e2, e4, e3⟩)
  have HD := Lib.hid hd
  have HNO := Lib.hid (fun i j (hi : i < S) (hj : j < S) (h : 1 < f i j) => simB_no hi hj h)
  have HYES := Lib.hid (fun (h : ∀ i, i < S → ∀ j, j < S → f i j ≤ 1) => simB_yes h)
  generalize simB f S = R at HNO HYES ⊢
  clear h hd
  go_enter Try.func87, Try.ntmps87
  go_wp2
  go_loopw [7] (fun v wr => ∃ k : Nat, k ≤ S ∧ v = .int .i64 k ∧ Qt w wr ∧ Hid (∀ i, i < k → ∀ j, j < S → f i j ≤ 1)) (fun v _ => S - (intOf v).toNat)
  case atStart => exact ⟨0, Nat.zero_le _, rfl, Qt.refl _, Lib.hid (fun i hi => by omega)⟩
  case round =>
    obtain ⟨k, hk, rfl, hq, HA⟩ := hrel
    by_cases hlt : k < S
    · obtain ⟨b, off, b', off', c', rfl, e2, e4, e3⟩ := HE.out wr hq k hlt
      have hdk := HD.out k hlt
      have hno := HNO.out k k hlt hlt
      obtain ⟨x, hx⟩ : ∃ x, x = f k k := ⟨_, rfl⟩
      rw [← hx] at e4 hdk hno
      have hlS : ((List.range S).map (f k)).length = S := by simp
      have HMX := Lib.hid (fun W (hq : Qt wr W) => slMaxI (some ⟨b', off', none⟩) c' S _ W (e3.qt hq) hlS (by omega) hS)
      have HML := Lib.hid (show mxL ((List.range S).map (f k)) (S - 1) ≤ 1 ↔ ∀ j, j < S → f k j ≤ 1 by
        rw [mxL_le]
        constructor
        · intro h j hj
          have := h j (by omega)
          rw [map_get _ hj] at this; exact this
        · intro h j hj
          have hj2 : j < S := by omega
          rw [map_get _ hj2]; exact h j hj2)
      have HNOK := Lib.hid (fun (hm : ¬ mxL ((List.range S).map (f k)) (S - 1) ≤ 1) => show R = false by
        rw [HML.out] at hm
        cases hR : R with
        | false => rfl
        | true =>
          exact absurd (fun j hj => by
            by_cases e : f k j ≤ 1
            · exact e
            · have := HNO.out k j hlt hj (by omega); rw [hR] at this; cases this) hm)
      generalize mxL ((List.range S).map (f k)) (S - 1) = M at HMX HML HNOK
      have HQ := Lib.hid hq
      have hkS : (k : Int) < (S : Int) := by omega
      clear hx e3 hlS
      by_cases h0 : 0 < x
      · have hb : decide (0 < x) = true := decide_eq_true h0
        have HF := Lib.hid (hno (by omega))
        clear hno hdk hq
        go_wp2
        go_ret
        exact ⟨by rw [HF.out]; rfl, HQ.out⟩
      · have hb : decide (0 < x) = false := decide_eq_false h0
        clear hno hdk hq
        by_cases hm : M ≤ 1
        · have hb2 : decide (1 < M) = false := decide_eq_false (by omega)
          have HF := Lib.hid (fun i (hi : i < k + 1) j (hj : j < S) => show f i j ≤ 1 by
            by_cases e : i = k
            · subst e; exact HML.out.1 hm j hj
            · exact HA.out i (by omega) j hj)
          clear HA
          go_wp2_with fail
          refine (HMX.out _ (Qt.refl _)).mono ?_
          rintro e w5 ⟨rfl, q5⟩
          have HQ5 := Lib.hid (HQ.out.trans q5)
          clear q5
          go_wp2
          go_roundw
          case rel => exact ⟨k + 1, by omega, by go_num, HQ5.out, HF⟩
          case measure => simp [intOf]; omega
        · have hb2 : decide (1 < M) = true := decide_eq_true (by omega)
          have HF := Lib.hid (HNOK.out hm)
          clear HA
          go_wp2_with fail
          refine (HMX.out _ (Qt.refl _)).mono ?_
          rintro e w5 ⟨rfl, q5⟩
          have HQ5 := Lib.hid (HQ.out.trans q5)
          clear q5
          go_wp2
          go_ret
          exact ⟨by rw [HF.out]; rfl, HQ5.out⟩
    · obtain rfl : k = S := by omega
      have HF := Lib.hid (HYES.out HA.out)
      clear HA
      go_wp2
      go_ret
      exact ⟨by rw [HF.out]; rfl, hq⟩

set_option maxHeartbeats 3200000 in
theorem l08Simple {lo hi : Nat} (S : Nat) (a : Option Addr) (n c : Nat) (xss : List (List Int)) (w : World) (h : RdR lo hi w (.slice a n c) xss) (hn : xss.length = n) (hg : grB (S : Int) xss = true) :
    Calls Try.prog 86 #[.agg #[.int .i64 (S : Int), .slice a n c]] w fun e w' => e = .returned (.bool (simB (adF xss) S)) ∧ Below w.heap.size w w' := by
  have hb0 : ∀ o, Below w.heap.size w (w.alloc o) := fun o => (Below.refl _ _).alloc (Nat.le_refl _) o
  have hg4 := grB_iff hg
  have HR := Lib.hid (fun W (hB : Below w.heap.size w W) => l01Adjacency S a n c xss W (h.below hB) hn hg)
  have HN := Lib.hid hn
  have HT := Lib.hid (adZ_tab hg S)
  have hsy := adF_sym xss
  have HNO := Lib.hid (fun i j (hi : i < S) (hj : j < S) (h : 1 < adF xss i j) => simB_no hi hj h)
  have HYES := Lib.hid (fun (h : ∀ i, i < S → ∀ j, j ≤ i → adF xss i j ≤ 1) => simB_low hsy h)
  have HAT := Lib.hid (show tab S (fun i j => adS (pairs xss) xss.length i j) = tab S (adF xss) from rfl)
  generalize adF xss = f at HNO HYES HAT ⊢
  generalize simB f S = R at HNO HYES ⊢
  have hS8 : S ≤ 8 := by omega
  clear h hn hg hg4 hsy
  go_enter Try.func86, Try.ntmps86
  go_wp2_with fail
  refine calls_gen (fun W => Below w.heap.size w W) (hb0 _) ?_
  rintro W hB
  refine (HR.out W hB).mono ?_
  rintro e w1 ⟨a1, c1, rfl, o1, b1⟩
  have ho : RdR W.heap.size w1.heap.size w1 (.slice a1 S c1) (tab S f) := by
    have := o1.rd
    rw [← HN.out, HT.out, HAT.out] at this
    exact this
  have HE := Lib.hid (fun W' (hq : Qt w1 W') i j (hi : i < S) (hj : j < S) => (ho.qt hq).ent hi hj)
  have HB := Lib.hid (hB.next b1)
  clear hB o1 b1 ho HR HT HAT
  go_wp2
  go_loopw [4] (fun v wr => ∃ k : Nat, k ≤ S ∧ v = .int .i64 k ∧ Qt w1 wr ∧ Hid (∀ i, i < k → ∀ j, j ≤ i → f i j ≤ 1)) (fun v _ => S - (intOf v).toNat)
  case atStart => exact ⟨0, Nat.zero_le _, rfl, Qt.refl _, Lib.hid (fun i hi => by omega)⟩
  case round =>
    obtain ⟨k, hk, rfl, hq, HA⟩ := hrel
    obtain ⟨U, rfl⟩ : ∃ U, U = wr := ⟨_, rfl⟩
    by_cases hlt : k < S
    · have hkS : (k : Int) < (S : Int) := by omega
      go_wp2
      go_loopw [5] (fun v wr' => ∃ m : Nat, m ≤ k + 1 ∧ v = .int .i64 m ∧ Qt U wr' ∧ Hid (∀ j, j < m → f k j ≤ 1)) (fun v _ => k + 1 - (intOf v).toNat)
      case atStart => exact ⟨0, Nat.zero_le _, rfl, Qt.refl _, Lib.hid (fun i hi => by omega)⟩
      case round =>
        rename_i hrel
        obtain ⟨m, hm, rfl, hq2, HA2⟩ := hrel
        by_cases hlm : m ≤ k
        · obtain ⟨b, off, b', off', c', rfl, e2, e4⟩ := HE.out wr (hq.trans hq2) k m hlt (by omega)
          have hno := HNO.out k m hlt (by omega)
          obtain ⟨x, hx⟩ : ∃ x, x = f k m := ⟨_, rfl⟩
          rw [← hx] at e4 hno
          have HX := Lib.hid hx
          have HQ2 := Lib.hid hq2
          have hmk : (m : Int) ≤ (k : Int) := by omega
          clear hx hq2
          by_cases h1 : 1 < x
          · have hb : decide (1 < x) = true := decide_eq_true h1
            have HF := Lib.hid (hno h1)
            clear hno
            go_wp2
            go_ret
            exact ⟨by rw [HF.out]; rfl, HB.out.qt (hq.trans (HQ2.out))⟩
          · have hb : decide (1 < x) = false := decide_eq_false h1
            have HF := Lib.hid (fun j (hj : j < m + 1) => show f k j ≤ 1 by
              by_cases e : j = m
              · subst e; rw [← HX.out]; omega
              · exact HA2.out j (by omega))
            clear hno HA2
            go_wp2
            go_roundw
            case rel => exact ⟨m + 1, by omega, by go_num, HQ2.out, HF⟩
            case measure => simp [intOf]; omega
        · obtain rfl : m = k + 1 := by omega
          have HF := Lib.hid (⟨hq.trans hq2, fun i (hi : i < k + 1) j (hj : j ≤ i) => show f i j ≤ 1 by
            by_cases e : i = k
            · subst e; exact HA2.out j (by omega)
            · exact HA.out i (by omega) j hj⟩ : _ ∧ _)
          clear HA HA2 hq hq2
          have hmk : ¬ ((k + 1 : Nat) : Int) ≤ (k : Int) := by omega
          go_wp2
          go_roundw
          case rel => exact ⟨k + 1, by omega, by go_num, HF.out.1, Lib.hid HF.out.2⟩
          case measure => simp [intOf]; omega
    · obtain rfl : k = S := by omega
      have HF := Lib.hid (HYES.out HA.out)
      clear HA
      go_wp2
      go_ret
      exact ⟨by rw [HF.out]; rfl, HB.out.qt hq⟩

def simOf (s : Int) (xss : List (List Int)) : Bool × Int := if grB s xss = true then (simB (adF xss) s.toNat, 0) else (false, 1)
theorem simOf_no {s : Int} {xss : List (List Int)} (h : grB s xss = false) : simOf s xss = (false, 1) := by unfold simOf; rw [h]; rfl
theorem simOf_yes {S : Nat} {xss : List (List Int)} (h : grB (S : Int) xss = true) : simOf (S : Int) xss = (simB (adF xss) S, 0) := by unfold simOf; rw [if_pos h, Int.toNat_natCast]
theorem diag_ok {s : Int} {xss : List (List Int)} (v : Nat) : adF xss v v ≤ 0 ∨ 1 < adF xss v v := by
  have h2 := adF_even xss v
  omega

set_option maxHeartbeats 1600000 in
theorem implSim {lo hi : Nat} (s : Int) (a : Option Addr) (n c : Nat) (xss : List (List Int)) (w : World) (h : RdR lo hi w (.slice a n c) xss) (hn : xss.length = n) :
    Calls Try.prog 41 #[.agg #[.int .i64 s, .slice a n c]] w fun e w' => e = .returned (.tuple #[.bool (simOf s xss).1, .int .i64 (simOf s xss).2]) ∧ Below w.heap.size w w' := by
  have hb0 : ∀ o, Below w.heap.size w (w.alloc o) := fun o => (Below.refl _ _).alloc (Nat.le_refl _) o
  cases hg : grB s xss with
  | true =>
    have hg4 := grB_iff hg
    obtain ⟨S, hS⟩ : ∃ S : Nat, s = (S : Int) := ⟨s.toNat, by omega⟩
    subst hS
    have HR := Lib.hid (fun W (hB : Below w.heap.size w W) => implAdj_yes S a n c xss W (h.below hB) hn hg)
    have HC := Lib.hid (fun (a1 : Option Addr) (c1 lo1 hi1 : Nat) (W : World) (hW : RdR lo1 hi1 W (.slice a1 S c1) (tab S (adF xss))) => isSimpleP S (adF xss) a1 c1 W hW (by omega) (fun v _ => diag_ok (s := (S : Int)) v))
    have HN := Lib.hid hn
    rw [simOf_yes hg]
    generalize simB (adF xss) S = R at HC ⊢
    clear h hn hg hg4
    go_enter Try.func41, Try.ntmps41
    go_wp2_with fail
    refine calls_gen (fun W => Below w.heap.size w W) (hb0 _) ?_
    rintro W hB
    refine (HR.out W hB).mono ?_
    rintro e w1 ⟨a1, c1, rfl, o1, b1⟩
    have ho : RdR W.heap.size w1.heap.size w1 (.slice a1 S c1) (tab S (adF xss)) := by
      have := o1.rd
      rw [← HN.out] at this
      exact this
    have HC1 := Lib.hid (HC.out a1 c1 _ _ w1 ho)
    have HB := Lib.hid (hB.next b1)
    clear hB o1 b1 ho HC HR
    go_wp2_with fail
    refine HC1.out.mono ?_
    rintro e w2 ⟨rfl, q2⟩
    have HF := Lib.hid (HB.out.qt q2)
    clear q2 HC1
    go_wp2
    go_ret2
    exact ⟨rfl, HF.out⟩
  | false =>
    have HR := Lib.hid (fun W (hB : Below w.heap.size w W) => implAdj s a n c xss W (h.below hB) hn)
    have hno : adjOf s xss = ([], 1) := by unfold adjOf; rw [hg]; rfl
    rw [hno] at HR
    rw [simOf_no hg]
    clear h hn hg hno
    go_enter Try.func41, Try.ntmps41
    go_wp2_with fail
    refine calls_gen (fun W => Below w.heap.size w W) (hb0 _) ?_
    rintro W hB
    refine (HR.out W hB).mono ?_
    rintro e w1 ⟨a1, c1, rfl, o1, b1⟩
    replace hB := hB.next b1
    clear o1 b1 HR
    go_wp2
    go_ret2
    exact ⟨rfl, hB⟩

set_option maxHeartbeats 1600000 in
theorem specSim {lo hi : Nat} (s : Int) (a : Option Addr) (n c : Nat) (xss : List (List Int)) (w : World) (h : RdR lo hi w (.slice a n c) xss) (hn : xss.length = n) :
    Calls Try.prog 40 #[.agg #[.int .i64 s, .slice a n c]] w fun e w' => e = .returned (.tuple #[.bool (simOf s xss).1, .int .i64 (simOf s xss).2]) ∧ Below w.heap.size w w' := by
  have hb0 : ∀ o, Below w.heap.size w (w.alloc o) := fun o => (Below.refl _ _).alloc (Nat.le_refl _) o
  have HI := Lib.hid (fun W (hB : Below w.heap.size w W) => l01Is s a n c xss W (h.below hB) hn)
  cases hg : grB s xss with
  | true =>
    rw [hg] at HI
    have hg4 := grB_iff hg
    obtain ⟨S, hS⟩ : ∃ S : Nat, s = (S : Int) := ⟨s.toNat, by omega⟩
    subst hS
    have HR := Lib.hid (fun W (hB : Below w.heap.size w W) => l08Simple S a n c xss W (h.below hB) hn hg)
    rw [simOf_yes hg]
    generalize simB (adF xss) S = R at HR ⊢
    clear h hn hg hg4
    go_enter Try.func40, Try.ntmps40
    go_wp2_with fail
    refine calls_gen (fun W => Below w.heap.size w W ∧ W.cell? ⟨w.heap.size, 0, none⟩ = some (.int .i64 (S : Int)) ∧ W.cell? ⟨w.heap.size, 1, none⟩ = some (.slice a n c)) ⟨hb0 _, by go_simp, by go_simp⟩ ?_
    rintro W ⟨hB, k0, k1⟩
    refine (HI.out W hB).mono ?_
    rintro e w0 ⟨rfl, b0⟩
    replace hB := hB.next b0
    replace k0 := b0.keep k0
    replace k1 := b0.keep k1
    clear b0 HI
    go_wp2_with fail
    refine (HR.out w0 hB).mono ?_
    rintro e w2 ⟨rfl, b2⟩
    have HF := Lib.hid (hB.next b2)
    clear b2 HR k0 k1
    go_wp2
    go_ret2
    exact ⟨rfl, HF.out⟩
  | false =>
    rw [hg] at HI
    rw [simOf_no hg]
    clear h hn hg
    go_enter Try.func40, Try.ntmps40
    go_wp2_with fail
    refine calls_gen (fun W => Below w.heap.size w W) (hb0 _) ?_
    rintro W hB
    refine (HI.out W hB).mono ?_
    rintro e w1 ⟨rfl, b1⟩
    replace hB := hB.next b1
    clear b1 HI
    go_wp2
    go_ret2
    exact ⟨rfl, hB⟩

end Go.Proofs.Ytolipjemabmlkaa
