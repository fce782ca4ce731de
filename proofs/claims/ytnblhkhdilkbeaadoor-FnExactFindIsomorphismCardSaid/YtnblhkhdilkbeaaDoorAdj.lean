/- AdjacencyOf of the program. -/
import Derived.Test.YtnblhkhdilkbeaaDoorCoreG
import Derived.Test.YtnblhkhdilkbeaaDoorCoreB
import Derived.Deep.RegionHeld3
set_option linter.unusedSimpArgs false
set_option linter.unusedVariables false
namespace Go.Proofs.YtnblhkhdilkbeaaDoor
open Go.RowKit

theorem RdE.chgM {M : Nat} {w w' : World} {a : Option Addr} {es : List (Int × Int)} (h : RdE w a es) (hb : Chg M (M + 1) w w') (ho : ∀ b, a = some ⟨b, 0, none⟩ → M < b) : RdE w' a es := fun j hj => by
  obtain ⟨b, h1, h2, h3, h4⟩ := h j hj
  have := ho b h1
  exact ⟨b, h1, Nat.lt_of_lt_of_le h2 hb.size, hb.cell h3 (.inr (by show M + 1 ≤ b; omega)), hb.cell h4 (.inr (by show M + 1 ≤ b; omega))⟩
/-- one more at a, b -/
def upd (p : Int → Int → Int) (a b : Int) : Int → Int → Int := fun x y => if x = a ∧ y = b then wrap64 (p a b + 1) else p x y
/-- the counts behind the first q edges -/
def adS (es : List (Int × Int)) : Nat → Int → Int → Int
  | 0 => fun _ _ => 0
  | q + 1 => upd (upd (adS es q) (es.getD q (0, 0)).1 (es.getD q (0, 0)).2) (es.getD q (0, 0)).2 (es.getD q (0, 0)).1
theorem upd_I64 {p : Int → Int → Int} (h : ∀ x y, I64 (p x y)) (a b x y : Int) : I64 (upd p a b x y) := by
  unfold upd
  split
  · exact wrap_I64 _
  · exact h x y
theorem adS_I64 (es : List (Int × Int)) (q : Nat) : ∀ x y, I64 (adS es q x y) := by
  induction q with
  | zero => intro x y; exact I64_zero
  | succ q ih => exact fun x y => upd_I64 (fun x y => upd_I64 ih _ _ x y) _ _ x y
/-- the rows below f, and of row f the numbers below g -/
def fil (p : Int → Int → Int) (f g : Nat) : Nat → Nat → Int := fun i j => if i < f ∨ (i = f ∧ j < g) then p i j else 0
theorem fil_zero (S : Nat) (p : Int → Int → Int) : tab S (fil p 0 0) = tab S zeros := tab_congr fun i j _ _ => by simp [fil, zeros]
theorem fil_put (p : Int → Int → Int) (f g : Nat) : put (fil p f g) f g (p f g) = fil p f (g + 1) := by
  funext i j
  unfold put fil
  by_cases h : i = f ∧ j = g
  · obtain ⟨rfl, rfl⟩ := h; simp
  · rw [if_neg h]
    have : (i < f ∨ (i = f ∧ j < g)) ↔ (i < f ∨ (i = f ∧ j < g + 1)) := by omega
    simp only [this]
theorem fil_next (S : Nat) (p : Int → Int → Int) (f : Nat) : tab S (fil p f S) = tab S (fil p (f + 1) 0) := tab_congr fun i j hi hj => by
  unfold fil
  have : (i < f ∨ (i = f ∧ j < S)) ↔ (i < f + 1 ∨ (i = f + 1 ∧ j < 0)) := by omega
  simp only [this]
theorem fil_all (S : Nat) (p : Int → Int → Int) : tab S (fil p S 0) = tab S (fun i j => p i j) := tab_congr fun i j hi hj => by
  unfold fil
  rw [if_pos (.inl hi)]
def adjOf (s : Int) (xss : List (List Int)) : List (List Int) × Int := if grB s xss = true then (tab s.toNat (fun i j => adS (pairs xss) xss.length i j), 0) else ([], 1)
theorem adjOf_lens (s : Int) (xss : List (List Int)) : lens (adjOf s xss).1 ≤ 1000 := by
  unfold adjOf
  split
  · rename_i hg
    have h1 := grB_iff hg
    simp only [tab_lens]
    have h2 : s.toNat ≤ 8 := by omega
    exact Nat.le_trans (Nat.mul_le_mul h2 h2) (by decide)
  · simp [lens]

set_option maxRecDepth 100000 in
set_option maxHeartbeats 6400000 in
theorem implAdj_yes {lo hi : Nat} (S : Nat) (a : Option Addr) (n c : Nat) (xss : List (List Int)) (w : World) (h : RdR lo hi w (.slice a n c) xss) (hn : xss.length = n) (hg : grB (S : Int) xss = true) :
    Calls Tryd.prog 67 #[.agg #[.int .i64 (S : Int), .slice a n c]] w fun e w' => ∃ a' c', e = .returned (.tuple #[.slice a' S c', .int .i64 0]) ∧ OwR w.heap.size w'.heap.size w' (.slice a' S c') (tab S (fun i j => adS (pairs xss) n i j)) ∧ Below w.heap.size w w' := by
  have hmm := @run_makeMap Tryd.prog
  have hg4 := grB_iff hg
  have hn10 : n ≤ 10 := by omega
  have hS8 : S ≤ 8 := by omega
  have HR := Lib.hid h
  have HI := Lib.hid (fun W' (h' : RdR lo hi W' (.slice a n c) xss) => implIsGraph (S : Int) a n c xss W' h' hn)
  have HED := Lib.hid (fun W' (h' : RdR lo hi W' (.slice a n c) xss) => edgesOf (S : Int) a n c xss W' h' hg hn)
  have HG := Lib.hid hg
  have HPI := Lib.hid (show ∀ q, q < n → I64 ((pairs xss).getD q (0, 0)).1 ∧ I64 ((pairs xss).getD q (0, 0)).2 from fun q hq => by
    have := hg4.2.2.2 q (by omega)
    rw [pairs_getD]
    simp only
    unfold I64; omega)
  have hpl : (pairs xss).length = n := by rw [pairs_len, hn]
  generalize pairs xss = es at HED HPI hpl ⊢
  have HPL := Lib.hid hpl
  obtain ⟨p, hpa⟩ : ∃ p, p = adS es n := ⟨_, rfl⟩
  rw [← hpa]
  have HPA := Lib.hid hpa
  clear h hn hg hg4 hpl hpa
  go_enter Tryd.func67, Tryd.ntmps67
  go_wp2_with fail
  refine calls_gen (fun W => Below w.heap.size w W ∧ w.heap.size < W.heap.size ∧ W.cell? ⟨w.heap.size, 0, none⟩ = some (.int .i64 (S : Int)) ∧ W.cell? ⟨w.heap.size, 1, none⟩ = some (.slice a n c)) ⟨(Below.refl _ _).alloc (Nat.le_refl _) _, by simp, by go_simp, by go_simp⟩ ?_
  rintro W ⟨hB, hzz, k0, k1⟩
  refine (HI.out W (HR.out.below hB)).mono ?_
  rw [HG.out]
  rintro e w1 ⟨rfl, b1⟩
  replace hB := hB.next b1
  replace k0 := b1.keep k0
  replace k1 := b1.keep k1
  replace hzz := Nat.lt_of_lt_of_le hzz b1.size
  clear b1 HG
  have hA := (Below.refl w1.heap.size w1).alloc (Nat.le_refl _) (.map #[] 0)
  have HA := Lib.hid (⟨hB.next hA, hA.keep k0, hA.keep k1, MapI.made w1, show w1.heap.size < (w1.alloc (.map #[] 0)).heap.size by simp⟩ : _ ∧ _ ∧ _ ∧ _ ∧ _)
  obtain ⟨M, hM⟩ : ∃ M, M = w1.heap.size := ⟨_, rfl⟩
  rw [← hM] at HA hzz
  have kA0 := hA.keep k0
  have kA1 := hA.keep k1
  clear hA hB k0 k1
  go_wp2_with fail
  rw [← hM]
  clear hM kA0 kA1
  refine calls_gen (fun W => Below w.heap.size w W ∧ W.cell? ⟨w.heap.size, 0, none⟩ = some (.int .i64 (S : Int)) ∧ W.cell? ⟨w.heap.size, 1, none⟩ = some (.slice a n c) ∧ MapI W M 0 (fun _ _ => 0) ∧ M < W.heap.size) HA.out ?_
  clear HA
  rintro W2 ⟨hB, k0, k1, hMI, hMz⟩
  refine (HED.out W2 (HR.out.below hB)).mono ?_
  clear HED
  rintro e w2 ⟨a2, c2, rfl, o2, b2⟩
  have HP0 := Lib.hid (⟨hMI.keep b2, RdE.mk o2 HPL.out, hB.next b2, b2.keep k0, b2.keep k1, Nat.lt_of_lt_of_le hMz b2.size⟩ : _ ∧ _ ∧ _ ∧ _ ∧ _ ∧ _)
  have HLO := Lib.hid (show ∀ b, a2 = some (⟨b, 0, none⟩ : Addr) → M < b from fun b e => by
    have := (o2.lt b (by rw [e]; rfl)).1; omega)
  have hMw : w.heap.size < M := hzz
  clear o2 b2 hMI hB k0 k1 hMz hzz
  go_wp2
  go_loopw [17] (fun i wr => ∃ q k : Nat, q ≤ n ∧ i = .int .i64 q ∧ k ≤ 2 * q ∧ MapI wr M k (adS es q) ∧ RdE wr a2 es ∧ Below w.heap.size w wr ∧ wr.cell? ⟨w.heap.size, 0, none⟩ = some (.int .i64 (S : Int)) ∧ wr.cell? ⟨w.heap.size, 1, none⟩ = some (.slice a n c) ∧ M < wr.heap.size) (fun i _ => n - (intOf i).toNat)
  case atStart => exact ⟨0, 0, Nat.zero_le _, rfl, by omega, HP0.out⟩
  case round =>
    clear HP0
    obtain ⟨q, k, hq, rfl, hk, hMI, hRE, hB, k0, k1, hMz⟩ := hrel
    by_cases hlq : q < n
    · obtain ⟨d, rfl, hdw, x1, x2⟩ := hRE q (by rw [HPL.out]; exact hlq)
      have hst : adS es (q + 1) = upd (upd (adS es q) (es.getD q (0, 0)).1 (es.getD q (0, 0)).2) (es.getD q (0, 0)).2 (es.getD q (0, 0)).1 := rfl
      have hpi := HPI.out q hlq
      have had := adS_I64 es q
      generalize (es.getD q (0, 0)).1 = p0 at x1 hst hpi
      generalize (es.getD q (0, 0)).2 = p1 at x2 hst hpi
      generalize adS es q = pq at hMI hst had
      have HST := Lib.hid hst
      have HPP := Lib.hid (⟨hpi, had⟩ : _ ∧ _)
      have hA := (Below.refl wr.heap.size wr).alloc (Nat.le_refl _) (.cells #[.int .i64 p0, .int .i64 p1] 99)
      have u0 : (wr.alloc (.cells #[.int .i64 p0, .int .i64 p1] 99)).cell? ⟨wr.heap.size, 0, none⟩ = some (.int .i64 p0) := by go_simp
      have u1 : (wr.alloc (.cells #[.int .i64 p0, .int .i64 p1] 99)).cell? ⟨wr.heap.size, 1, none⟩ = some (.int .i64 p1) := by go_simp
      have HO := Lib.hid (⟨hMI.keep hA, hRE.below hA, hB.next hA, hA.keep k0, hA.keep k1, Nat.lt_of_lt_of_le hMz hA.size, u0, u1, hMz⟩ : _ ∧ _ ∧ _ ∧ _ ∧ _ ∧ _ ∧ _ ∧ _ ∧ _)
      clear hst hpi had hMI hRE hB k0 k1 hA u0 u1 hdw
      go_wp2
      obtain ⟨hMI, hRE, hB, k0, k1, hMz2, u0, u1, hMX⟩ := HO.out
      generalize wr.alloc (.cells #[.int .i64 p0, .int .i64 p1] 99) = V at hMI hRE hB k0 k1 hMz2 u0 u1 ⊢
      generalize wr.heap.size = X at u0 u1 hMX ⊢
      clear HO x1 x2 hMz
      have hMD : MapI V.drew M k pq := hMI
      have hlk := hMD.look HPP.out.1.1 HPP.out.1.2
      obtain ⟨v0, st, w4, w5, e1, e2, hM5, hg5, hg4⟩ := hMD.entry (v := wrap64 (pq p0 p1 + 1)) (by unfold maxLen; omega) HPP.out.1.1 HPP.out.1.2 (wrap_I64 _)
      have hlk4 := (hMD.entry1 (by unfold maxLen; omega) HPP.out.1.1 HPP.out.1.2 e1).look HPP.out.1.1 HPP.out.1.2
      have hXM : (X : Nat) ≠ M := by omega
      have u04 := hg4.cell (show V.drew.cell? ⟨X, 0, none⟩ = _ from u0) (by simpa using hXM)
      have u14 := hg4.cell (show V.drew.cell? ⟨X, 1, none⟩ = _ from u1) (by simpa using hXM)
      have hp5 : (fun x' y' => if x' = p0 ∧ y' = p1 then wrap64 (pq p0 p1 + 1) else pq x' y') = upd pq p0 p1 := rfl
      rw [hp5] at hM5
      obtain ⟨cc, hcc⟩ : ∃ cc, cc = pq p0 p1 := ⟨_, rfl⟩
      rw [← hcc] at hlk hlk4 e2
      obtain ⟨c1, hc1⟩ : ∃ c1, c1 = wrap64 (cc + 1) := ⟨_, rfl⟩
      rw [← hc1] at e2
      have t1 : IntKind.i64.wrap (cc + 1) = c1 := by rw [IntWalk.i64_left, hc1]
      have t2 : wrap64 (cc + 1) = c1 := hc1.symm
      have HK5 := Lib.hid (⟨hM5, hg5, hRE, hB, k0, k1, hMz2, u0, u1⟩ : _ ∧ _ ∧ _ ∧ _ ∧ _ ∧ _ ∧ _ ∧ _ ∧ _)
      clear hcc hc1 hM5 hg5 hRE hB k0 k1 hMI hMD hg4 hp5
      have u0d : V.drew.cell? ⟨X, 0, none⟩ = some (.int .i64 p0) := u0
      have u1d : V.drew.cell? ⟨X, 1, none⟩ = some (.int .i64 p1) := u1
      have HKB := Lib.hid (show k ≤ 20 by omega)
      have HKQ := Lib.hid hk
      clear hmm hXM hk
      go_region
      all_goals
        clear hlk hlk4 e1 e2 t1 t2 u04 u14 u0d u1d u0 u1
        obtain ⟨hM5, hg5, hRE, hB, k0, k1, hMz2, u0, u1⟩ := HK5.out
        have hXM : (X : Nat) ≠ M := by omega
        have v0d : w5.cell? ⟨X, 0, none⟩ = some (.int .i64 p0) := hg5.cell (show V.drew.cell? ⟨X, 0, none⟩ = _ from u0) (by simpa using hXM)
        have v1d : w5.cell? ⟨X, 1, none⟩ = some (.int .i64 p1) := hg5.cell (show V.drew.cell? ⟨X, 1, none⟩ = _ from u1) (by simpa using hXM)
        have v0e : w5.drew.cell? ⟨X, 0, none⟩ = some (.int .i64 p0) := v0d
        have v1e : w5.drew.cell? ⟨X, 1, none⟩ = some (.int .i64 p1) := v1d
        have hch5 : Chg M (M + 1) V w5 := ((Qt.refl V).drew.chg M (M + 1)).trans (Chg.grown hg5 (fun j e => by cases e; omega))
        have hMD5 : MapI w5.drew M (k + 1) (upd pq p0 p1) := hM5
        have HK6 := Lib.hid (⟨hRE.chgM hch5 HLO.out, hB.chgn hch5 (by omega) hB.size, hch5.cell k0 (.inl (by show w.heap.size < M; exact hMw)), hch5.cell k1 (.inl (by show w.heap.size < M; exact hMw)), Nat.lt_of_lt_of_le hMz2 hch5.size⟩ : _ ∧ _ ∧ _ ∧ _ ∧ _)
        clear hM5 hg5 hRE hB k0 k1 hMz2 u0 u1 hXM hch5 HK5
        go_wp2
        go_region_with (first
          | (go_at_call 84; refine (reversed p0 p1 _).mono ?_; rintro e w6 ⟨rfl, b6⟩
             have hM6 : MapI w6 M (k + 1) (upd pq p0 p1) := hMD5.keep b6
             obtain ⟨v02, st2, w7, w8, f1, f2, hM8, hg8, hg7⟩ := hM6.entry (v := wrap64 (upd pq p0 p1 p1 p0 + 1)) (by unfold maxLen; have := HKB.out; omega) HPP.out.1.2 HPP.out.1.1 (wrap_I64 _)
             have hlk6 := hM6.look HPP.out.1.2 HPP.out.1.1
             have hlk7 := (hM6.entry1 (by unfold maxLen; have := HKB.out; omega) HPP.out.1.2 HPP.out.1.1 f1).look HPP.out.1.2 HPP.out.1.1
             obtain ⟨cc2, hcc2⟩ : ∃ cc2, cc2 = upd pq p0 p1 p1 p0 := ⟨_, rfl⟩
             rw [← hcc2] at hlk6 hlk7 f2
             obtain ⟨c2', hc2'⟩ : ∃ c2', c2' = wrap64 (cc2 + 1) := ⟨_, rfl⟩
             rw [← hc2'] at f2
             have t3 : IntKind.i64.wrap (cc2 + 1) = c2' := by rw [IntWalk.i64_left, hc2']
             have t4 : wrap64 (cc2 + 1) = c2' := hc2'.symm
             have HK8 := Lib.hid (⟨hM8, hg8, b6⟩ : _ ∧ _ ∧ _)
             clear hM8 hg8 hg7 hcc2 hc2' hM6 b6 hMD5))
        all_goals
          obtain ⟨hM8, hg8, b6⟩ := HK8.out
          obtain ⟨hRE, hB, k0, k1, hMz5⟩ := HK6.out
          have hp8 : (fun x' y' => if x' = p1 ∧ y' = p0 then wrap64 (upd pq p0 p1 p1 p0 + 1) else upd pq p0 p1 x' y') = upd (upd pq p0 p1) p1 p0 := rfl
          rw [hp8, ← HST.out] at hM8
          have b65 : Below w5.heap.size w5 w6 := ((Qt.refl w5).drew.below).next b6
          have hch8 : Chg M (M + 1) w6 w8 := Chg.grown hg8 (fun j e => by cases e; omega)
          have hM6z : M < w6.heap.size := Nat.lt_of_lt_of_le hMz5 b65.size
          have HF := Lib.hid (⟨hM8, (hRE.below b65).chgM hch8 HLO.out, (hB.next b65).chgn hch8 (by omega) (hB.next b65).size, hch8.cell (b65.keep k0) (.inl (by show w.heap.size < M; exact hMw)), hch8.cell (b65.keep k1) (.inl (by show w.heap.size < M; exact hMw)), Nat.lt_of_lt_of_le hM6z hch8.size⟩ : _ ∧ _ ∧ _ ∧ _ ∧ _ ∧ _)
          clear hM8 hg8 b6 hRE hB k0 k1 hMz5 hp8 b65 hch8 hM6z HK8 HK6 hlk6 hlk7 f1 f2 t3 t4 v0d v1d v0e v1e
          go_wp2
          go_roundw
          case rel => exact ⟨q+1, k+1+1, by omega, by go_num, by have := HKQ.out; omega, HF.out⟩
          case measure => simp [intOf]; omega
    · obtain rfl : q = n := by omega
      have hzr := zeroRows S wr (by omega) (.inr (by omega))
      have had := adS_I64 es q
      rw [← HPA.out] at hMI had
      have HAD := Lib.hid had
      have HK := Lib.hid (⟨hMI, hB, k0, k1⟩ : _ ∧ _ ∧ _ ∧ _)
      clear had hMI hRE hB k1 HPI
      go_wp2_with fail
      refine hzr.mono ?_
      clear hzr k0
      rintro e w4 ⟨v, rfl, o4, b4⟩
      obtain ⟨a9, c9, rfl⟩ := o4.rd.shape
      rw [tab_len] at o4 ⊢
      obtain ⟨hMI, hB, k0, k1⟩ := HK.out
      obtain ⟨L, hL⟩ : ∃ L, L = wr.heap.size := ⟨_, rfl⟩
      have hML : M < L := by omega
      rw [← hL] at o4
      obtain ⟨H1, hH1⟩ : ∃ H, H = w4.heap.size := ⟨_, rfl⟩
      rw [← hH1] at o4
      have hH1w : H1 ≤ w4.heap.size := by omega
      have hLw : w.heap.size ≤ L := by omega
      rw [← fil_zero S p] at o4
      have HP0 := Lib.hid (⟨o4, hMI.keep b4, hB.next b4, b4.keep k0, hH1w⟩ : _ ∧ _ ∧ _ ∧ _ ∧ _)
      have k0' := b4.keep k0
      clear o4 b4 hMI hB k0 k1 HK hL hH1 hMz hH1w
      go_wp2
      clear k0'
      go_loopw [40] (fun y wr => ∃ f : Nat, f ≤ S ∧ y = .int .i64 f ∧ OwR L H1 wr (.slice a9 S c9) (tab S (fil p f 0)) ∧ MapI wr M k p ∧ Below w.heap.size w wr ∧ wr.cell? ⟨w.heap.size, 0, none⟩ = some (.int .i64 (S : Int)) ∧ H1 ≤ wr.heap.size) (fun y _ => S - (intOf y).toNat)
      case atStart => exact ⟨0, Nat.zero_le _, rfl, HP0.out⟩
      case round =>
        rename_i hrel
        clear HP0
        obtain ⟨f, hf, rfl, hO, hMI, hB, k0, hHz⟩ := hrel
        by_cases hlf : f < S
        · have HW := Lib.hid (⟨hO, hMI, hB, k0, hHz⟩ : _ ∧ _ ∧ _ ∧ _ ∧ _)
          clear hO hMI hB hHz
          go_wp2
          clear k0
          go_loopw [45] (fun y wr' => ∃ g : Nat, g ≤ S ∧ y = .int .i64 g ∧ OwR L H1 wr' (.slice a9 S c9) (tab S (fil p f g)) ∧ MapI wr' M k p ∧ Below w.heap.size w wr' ∧ wr'.cell? ⟨w.heap.size, 0, none⟩ = some (.int .i64 (S : Int)) ∧ H1 ≤ wr'.heap.size) (fun y _ => S - (intOf y).toNat)
          case atStart => exact ⟨0, Nat.zero_le _, rfl, HW.out⟩
          case round =>
            rename_i hrel
            clear HW
            obtain ⟨g, hg, rfl, hO, hMI, hB, k0, hHz⟩ := hrel
            by_cases hlg : g < S
            · obtain ⟨gg, b, cb, rfl, h1, h2, h3, h4, h5, h6, h7⟩ := (hO.qt ((Qt.refl wr).drew)).ent hlf hlg
              have hlk := hMI.look (x := (f : Int)) (y := (g : Int)) (by unfold I64; omega) (by unfold I64; omega)
              have hput := fil_put p f g
              have hvI := HAD.out (f : Int) (g : Int)
              generalize hxx : p (f : Int) (g : Int) = x at hlk hput hvI
              have hfin := h7 x hvI
              rw [hput] at hfin
              have hch : Chg b (b + 1) wr.drew (wr.drew.setCell ⟨b, g, none⟩ (.int .i64 x)) := (Chg.refl b (b + 1) wr.drew).setCell (p := ⟨b, g, none⟩) ⟨Nat.le_refl _, Nat.lt_succ_self _⟩ _
              have HF := Lib.hid (⟨hfin, (show MapI wr.drew M k p from hMI).chg hch (.inl (by omega)), hB.drew.setCell (p := ⟨b, g, none⟩) (by show w.heap.size ≤ b; omega) _, hch.cell (show wr.drew.cell? ⟨w.heap.size, 0, none⟩ = _ from k0) (.inl (by show w.heap.size < b; omega)), by rw [World.size_setCell]; exact hHz⟩ : _ ∧ _ ∧ Below w.heap.size w (wr.drew.setCell ⟨b, g, none⟩ (.int .i64 x)) ∧ _ ∧ H1 ≤ (wr.drew.setCell ⟨b, g, none⟩ (.int .i64 x)).heap.size)
              have h1' : wr.cell? ⟨gg, f, none⟩ = some (.slice (some ⟨b, 0, none⟩) S cb) := h1
              generalize fil p f g f g = old at h2
              have hlkd : Sem.run Tryd.prog (Instr.lookup 120 (.map (some M)) (.agg #[.int .i64 (f : Int), .int .i64 (g : Int)]) false) wr.drew = .ok (.int .i64 x) wr.drew := (show MapI wr.drew M k p from hMI).look (by unfold I64; omega) (by unfold I64; omega) |>.trans (by rw [hxx])
              clear hfin hch hput hvI hO hMI hB h7 hxx hlk
              go_wp2
              go_region
              all_goals
                clear hlkd h1 h2 h3 k0
                go_wp2
                go_roundw
                case rel => exact ⟨g+1, by omega, by go_num, HF.out⟩
                case measure => simp [intOf]; omega
            · obtain rfl : g = S := by omega
              rw [fil_next] at hO
              have HF := Lib.hid (⟨hO, hMI, hB, k0, hHz⟩ : _ ∧ _ ∧ _ ∧ _ ∧ _)
              clear hO hMI hB k0
              go_wp2
              go_roundw
              case rel => exact ⟨f+1, by omega, by go_num, HF.out⟩
              case measure => simp [intOf]; omega
        · obtain rfl : f = S := by omega
          rw [fil_all] at hO
          have HF := Lib.hid (⟨hO.mono hLw hHz, hB⟩ : OwR w.heap.size wr.heap.size wr (.slice a9 f c9) (tab f (fun i j => p i j)) ∧ _)
          clear hO hMI hB k0
          go_wp2
          go_ret2
          exact ⟨a9, c9, rfl, HF.out⟩

end Go.Proofs.YtnblhkhdilkbeaaDoor
