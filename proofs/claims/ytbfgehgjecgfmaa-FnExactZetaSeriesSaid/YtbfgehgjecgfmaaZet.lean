/- ZetaSeries, both sides. -/
import Derived.Test.YtbfgehgjecgfmaaAez
import Derived.Test.YtbfgehgjecgfmaaSpecStc
set_option linter.unusedSimpArgs false
set_option linter.unusedVariables false
set_option maxRecDepth 100000
namespace Go.Proofs.Ytbfgehgjecgfmaa
open Go.RowKit

/-- the sum of the first q terms of the number n of the series, as it is reckoned -/
def zw (R out : List Int) (n : Nat) : Nat → Int
  | 0 => 0
  | q + 1 => wrap64 (zw R out n q - wrap64 (R.getD (q + 1) 0 * out.getD (n - (q + 1)) 0))
theorem zw_I64 (R out : List Int) (n : Nat) : ∀ q, I64 (zw R out n q)
  | 0 => by unfold zw I64; omega
  | q + 1 => wrap_I64 _
def zq (R : List Int) (n : Nat) : Nat := min n (R.length - 1)
def zsL (R : List Int) : Nat → List Int
  | 0 => [1]
  | n + 1 => zsL R n ++ [zw R (zsL R n) (n + 1) (zq R (n + 1))]
def zN (R : List Int) (n : Nat) : Int := zw R (zsL R n) (n + 1) (zq R (n + 1))
theorem zsL_s (R : List Int) (n : Nat) : zsL R (n + 1) = zsL R n ++ [zN R n] := rfl
theorem zsL_len (R : List Int) : ∀ n, (zsL R n).length = n + 1
  | 0 => rfl
  | n + 1 => by rw [zsL_s, List.length_append, zsL_len R n]; rfl
theorem zsL_I64 (R : List Int) : ∀ n, ∀ x ∈ zsL R n, I64 x
  | 0 => fun x hx => by
    simp only [zsL, List.mem_cons, List.not_mem_nil, or_false] at hx
    subst hx; unfold I64; omega
  | n + 1 => fun x hx => by
    rw [zsL_s, List.mem_append] at hx
    rcases hx with hx | hx
    · exact zsL_I64 R n x hx
    · simp only [List.mem_cons, List.not_mem_nil, or_false] at hx
      subst hx; exact zw_I64 _ _ _ _
def zB (R : List Int) : Nat → Bool
  | 0 => true
  | n + 1 => zB R n && decide (zN R n ≤ 1000000000000000)
theorem zB_no {R : List Int} {n : Nat} (h : zB R n = false) : ∀ d, zB R (n + d) = false
  | 0 => h
  | d + 1 => by
    show (zB R (n + d) && _) = false
    rw [zB_no h d]; rfl
def zetOf (s : Int) (xss : List (List Int)) (k : Int) : List Int × Int :=
  if ccode s xss k 0 10 = 0 then (if zB (recL xss) k.toNat then (zsL (recL xss) k.toNat, 0) else ([], 3)) else ([], ccode s xss k 0 10)
theorem RdL.cell {w : World} {g : Nat} {xs : List Int} (h : RdL w g xs) {t : Nat} (ht : t < xs.length) : w.cell? ⟨g, t, none⟩ = some (.int .i64 (xs.getD t 0)) := h t ht

set_option maxHeartbeats 6400000 in
theorem implZet {lo hi : Nat} (s : Int) (a : Option Addr) (n c : Nat) (xss : List (List Int)) (k : Int) (w : World) (h : RdR lo hi w (.slice a n c) xss) (hn : xss.length = n) :
    Calls Try.prog 29 #[.agg #[.int .i64 s, .slice a n c], .int .i64 k] w fun e w' => ∃ a' c', e = .returned (.tuple #[.slice a' (zetOf s xss k).1.length c', .int .i64 (zetOf s xss k).2]) ∧ OwI w.heap.size w'.heap.size w' (.slice a' (zetOf s xss k).1.length c') (zetOf s xss k).1 ∧ Below w.heap.size w w' := by
  obtain ⟨i0, hi0, z0, z1, z2⟩ := info_parts Try.info2
  have hb0 : ∀ o, Below w.heap.size w (w.alloc o) := fun o => (Below.refl _ _).alloc (Nat.le_refl _) o
  have HR := Lib.hid (fun W (hB : Below w.heap.size w W) => implRec s a n c xss W (h.below hB) hn)
  obtain ⟨P, hP⟩ : ∃ P, P = zetOf s xss k := ⟨_, rfl⟩
  rw [← hP]
  unfold zetOf at hP
  cases hg : grB s xss with
  | false =>
    have hc : ccode s xss k 0 10 = 1 := by unfold ccode; rw [hg]; rfl
    rw [hc, if_neg (by omega)] at hP
    rw [recOf_no hg] at HR
    have HP := Lib.hid hP
    clear h hn hg hc hP
    go_enter Try.func29, Try.ntmps29
    go_wp2_with fail
    refine calls_gen (fun W => Below w.heap.size w W) (hb0 _) ?_
    rintro W hB
    refine (HR.out W hB).mono ?_
    rintro e w1 ⟨a1, c1, rfl, o1, b1⟩
    replace hB := hB.next b1
    clear o1 b1 HR
    go_wp2
    go_ret2
    exact ⟨none, 0, by rw [HP.out]; rfl, by rw [HP.out]; exact OwI.nil' _ _ _, hB⟩
  | true =>
  rw [recOf_yes hg] at HR
  by_cases hr : 0 ≤ k ∧ k ≤ 10
  case neg =>
    have hc : ccode s xss k 0 10 = 2 := by unfold ccode; rw [if_pos hg, if_neg hr]
    rw [hc, if_neg (by omega)] at hP
    have HP := Lib.hid hP
    by_cases hk0 : k < 0
    · have d1 : decide (k < 0) = true := decide_eq_true hk0
      clear h hn hg hc hP hr
      go_enter Try.func29, Try.ntmps29
      go_wp2_with fail
      refine calls_gen (fun W => Below w.heap.size w W) (hb0 _) ?_
      rintro W hB
      refine (HR.out W hB).mono ?_
      rintro e w1 ⟨a1, c1, rfl, o1, b1⟩
      replace hB := hB.next b1
      clear o1 b1 HR
      go_wp2
      go_ret2
      exact ⟨none, 0, by rw [HP.out]; rfl, by rw [HP.out]; exact OwI.nil' _ _ _, hB⟩
    · have d1 : decide (k < 0) = false := decide_eq_false hk0
      have d2 : decide (10 < k) = true := decide_eq_true (by omega)
      clear h hn hg hc hP hr
      go_enter Try.func29, Try.ntmps29
      go_wp2_with fail
      refine calls_gen (fun W => Below w.heap.size w W) (hb0 _) ?_
      rintro W hB
      refine (HR.out W hB).mono ?_
      rintro e w1 ⟨a1, c1, rfl, o1, b1⟩
      replace hB := hB.next b1
      clear o1 b1 HR
      go_wp2
      go_ret2
      exact ⟨none, 0, by rw [HP.out]; rfl, by rw [HP.out]; exact OwI.nil' _ _ _, hB⟩
  obtain ⟨hk0, hk1⟩ := hr
  have hc : ccode s xss k 0 10 = 0 := by unfold ccode; rw [if_pos hg, if_pos ⟨hk0, hk1⟩]
  rw [if_pos hc] at hP
  obtain ⟨K, hK⟩ : ∃ K : Nat, k = (K : Int) := ⟨k.toNat, by omega⟩
  subst hK
  rw [Int.toNat_natCast] at hP
  have hRl := recL_len xss
  have hg4 := grB_iff hg
  generalize recL xss = R at HR hP hRl
  obtain ⟨RN, hRN⟩ : ∃ RN, RN = R.length := ⟨_, rfl⟩
  have HRL : Hid (R.length = RN ∧ RN ≤ 30) := Lib.hid ⟨hRN.symm, by omega⟩
  have HP := Lib.hid hP
  rw [← hRN] at HR
  have d1 : decide ((K : Int) < 0) = false := decide_eq_false (by omega)
  have d2 : decide ((10 : Int) < (K : Int)) = false := decide_eq_false (by omega)
  have hK10 : K ≤ 10 := by omega
  clear h hn hg hc hP hRl hg4 hRN hk0 hk1
  go_enter Try.func29, Try.ntmps29
  go_wp2_with fail
  refine calls_gen (fun W => Below w.heap.size w W) (hb0 _) ?_
  rintro W hB
  refine (HR.out W hB).mono ?_
  rintro e w1 ⟨a1, c1, rfl, o1, b1⟩
  have hB1 := hB.next b1
  have hl0 := World.ownsRow_lit (base := w1.heap.size) (e := 2) (size := 1) w1 #[.int .i64 1] 1 (Nat.le_refl _) (by unfold maxLen; omega) rfl
  have hA0 := hB1.alloc hB1.size (.cells #[.int .i64 1] 2)
  have HRC := Lib.hid (fun W (hB2 : Below w1.heap.size w1 W) => (o1.rd.below hB2).at HRL.out.1)
  have HS := Lib.hid (⟨hl0, (Below.refl _ _).alloc (Nat.le_refl _) _⟩ : (w1.alloc (.cells #[.int .i64 1] 2)).ownsRow w1.heap.size 2 1 (.slice (some ⟨w1.heap.size, 0, none⟩) (0 + 1) 1) (0 + 1) ((zsL R 0).map (Value.int .i64)) ∧ Below w1.heap.size w1 (w1.alloc (.cells #[.int .i64 1] 2)))
  have HB1 := Lib.hid hB1
  clear o1 b1 HR hB hl0 hA0 hB1
  go_wp2
  generalize w1.alloc (.cells #[.int .i64 1] 2) = V0 at HS ⊢
  go_loopw [8] (fun d wr => ∃ (m g cg : Nat), m ≤ K ∧ d = .slice (some ⟨g, 0, none⟩) (m + 1) cg ∧ wr.ownsRow w1.heap.size 2 1 (.slice (some ⟨g, 0, none⟩) (m + 1) cg) (m + 1) ((zsL R m).map (Value.int .i64)) ∧ Below w1.heap.size w1 wr ∧ zB R m = true) (fun d _ => K + 1 - (match d with | .slice _ n _ => n | _ => 0))
  case atStart => exact ⟨0, w1.heap.size, 1, Nat.zero_le _, rfl, HS.out.1, HS.out.2, rfl⟩
  case round =>
    clear HS
    obtain ⟨m, g, cg, hm, rfl, hown, hB, hzb⟩ := hrel
    obtain ⟨U, rfl⟩ : ∃ U, U = wr := ⟨_, rfl⟩
    by_cases hlt : m < K
    · have HOW := Lib.hid (⟨hown, hB, hzb, hown.lt g rfl⟩ : _ ∧ _ ∧ _ ∧ _)
      have HSR := Lib.hid (RdL.own hown)
      have hzqb : zq R (m + 1) ≤ m + 1 ∧ zq R (m + 1) ≤ R.length - 1 := by unfold zq; omega
      have hzqe : zq R (m + 1) = m + 1 ∨ zq R (m + 1) = R.length - 1 := by unfold zq; omega
      obtain ⟨Qn, hQn⟩ : ∃ q, q = zq R (m + 1) := ⟨_, rfl⟩
      rw [← hQn] at hzqb hzqe
      have HQN := Lib.hid hQn
      have ht : decide (((m + 1 : Nat) : Int) ≤ (K : Int)) = true := decide_eq_true (by omega)
      have ht2 : ((m + 1 : Nat) : Int) ≤ (K : Int) := by omega
      have ht3 : m + 1 ≤ K := hlt
      clear hown hB hzb hQn
      go_wp2
      go_loopw [9, 10] (fun sm v wr => ∃ q : Nat, q ≤ Qn ∧ v = .int .i64 ((q : Int) + 1) ∧ sm = .int .i64 (zw R (zsL R m) (m + 1) q) ∧ Qt U wr) (fun _ v _ => Qn + 1 - (intOf v).toNat)
      case atStart => exact ⟨0, Nat.zero_le _, rfl, rfl, Qt.refl _⟩
      case round =>
        rename_i hrel
        obtain ⟨q, hq, rfl, rfl, hqt⟩ := hrel
        have hRL := HRL.out
        by_cases hlq : q < Qn
        · have c1 := HRC.out wr (HOW.out.2.1.qt hqt) (q + 1) (by omega)
          obtain ⟨rb, ro, rfl, c1⟩ := c1
          obtain ⟨D, hD⟩ : ∃ D, D = m + 1 - (q + 1) := ⟨_, rfl⟩
          have c2 := hqt.cell (HSR.out.cell (t := D) (by rw [zsL_len]; omega))
          have hst : zw R (zsL R m) (m + 1) (q + 1) = wrap64 (zw R (zsL R m) (m + 1) q - wrap64 (R.getD (q + 1) 0 * (zsL R m).getD D 0)) := by rw [hD]; rfl
          generalize zw R (zsL R m) (m + 1) q = s0 at hst ⊢
          generalize R.getD (q + 1) 0 = x at c1 hst
          generalize (zsL R m).getD D 0 = y at c2 hst
          obtain ⟨p, hp⟩ : ∃ p, p = wrap64 (x * y) := ⟨_, rfl⟩
          obtain ⟨s1, hs1⟩ : ∃ s1, s1 = wrap64 (s0 - p) := ⟨_, rfl⟩
          rw [← hp, ← hs1] at hst
          have HST := Lib.hid hst
          have e1 : IntKind.i64.wrap (x * y) = p := by rw [IntWalk.i64_left, hp]
          have e2 : wrap64 (x * y) = p := hp.symm
          have e3 : IntKind.i64.wrap (s0 - p) = s1 := by rw [IntWalk.i64_left, hs1]
          have e4 : wrap64 (s0 - p) = s1 := hs1.symm
          obtain ⟨q1, hq1⟩ : ∃ q1, q1 = q + 1 := ⟨_, rfl⟩
          have hq1i : (q : Int) + 1 = (q1 : Int) := by clear e1 e2 e3 e4 hp hs1; omega
          rw [← hq1] at c1
          rw [hq1i]
          have d1 : decide ((q1 : Int) ≤ ((m + 1 : Nat) : Int)) = true := decide_eq_true (by clear e1 e2 e3 e4 hp hs1; omega)
          have d1' : (q1 : Int) ≤ (m : Int) + 1 := by clear e1 e2 e3 e4 hp hs1; omega
          have d2 : decide ((q1 : Int) < (RN : Int)) = true := decide_eq_true (by clear e1 e2 e3 e4 hp hs1; omega)
          have d2' : (q1 : Int) < (RN : Int) := by clear e1 e2 e3 e4 hp hs1; omega
          have d0 : (0 : Int) ≤ (q1 : Int) := by clear e1 e2 e3 e4 hp hs1; omega
          have hDi : ((m + 1 : Nat) : Int) - (q1 : Int) = (D : Int) := by clear e1 e2 e3 e4 hp hs1; omega
          have f1 : IntKind.i64.wrap (((m + 1 : Nat) : Int) - (q1 : Int)) = (D : Int) := by rw [hDi]; exact IntWalk.i64_in _ (by clear e1 e2 e3 e4 hp hs1; omega)
          have f2 : wrap64 (((m + 1 : Nat) : Int) - (q1 : Int)) = (D : Int) := by rw [hDi]; exact IntWalk.wrap64_in _ (by clear e1 e2 e3 e4 hp hs1 f1; omega)
          have f1' : IntKind.i64.wrap ((m : Int) + 1 - (q1 : Int)) = (D : Int) := by rw [show (m : Int) + 1 - (q1 : Int) = (D : Int) by clear e1 e2 e3 e4 hp hs1 f1 f2; omega]; exact IntWalk.i64_in _ (by clear e1 e2 e3 e4 hp hs1 f1 f2; omega)
          have f2' : wrap64 ((m : Int) + 1 - (q1 : Int)) = (D : Int) := by rw [show (m : Int) + 1 - (q1 : Int) = (D : Int) by clear e1 e2 e3 e4 hp hs1 f1 f2 f1'; omega]; exact IntWalk.wrap64_in _ (by clear e1 e2 e3 e4 hp hs1 f1 f2 f1'; omega)
          have hD0 : (0 : Int) ≤ (D : Int) := by clear e1 e2 e3 e4 hp hs1 f1 f2 f1' f2'; omega
          have hDm : (D : Int) < ((m + 1 : Nat) : Int) := by clear e1 e2 e3 e4 hp hs1 f1 f2 f1' f2'; omega
          have hDm2 : (D : Int) < (m : Int) + 1 := by clear e1 e2 e3 e4 hp hs1 f1 f2 f1' f2'; omega
          have g1 : IntKind.i64.wrap ((q1 : Int) + 1) = ((q + 1 : Nat) : Int) + 1 := by rw [show (q1 : Int) + 1 = ((q + 1 : Nat) : Int) + 1 by clear e1 e2 e3 e4 hp hs1 f1 f2 f1' f2'; omega]; exact IntWalk.i64_in _ (by clear e1 e2 e3 e4 hp hs1 f1 f2 f1' f2'; omega)
          have g2 : wrap64 ((q1 : Int) + 1) = ((q + 1 : Nat) : Int) + 1 := by rw [show (q1 : Int) + 1 = ((q + 1 : Nat) : Int) + 1 by clear e1 e2 e3 e4 hp hs1 f1 f2 f1' f2' g1; omega]; exact IntWalk.wrap64_in _ (by clear e1 e2 e3 e4 hp hs1 f1 f2 f1' f2' g1; omega)
          have HQ1 := Lib.hid hq1i
          clear hst hp hs1 hq1 hq1i hDi hD
          go_wp2
          go_quiet (fail)
          go_wp2
          clear g1 g2 e1 e2 e3 e4 f1 f2 f1' f2'
          go_roundw
          case rel => exact ⟨q + 1, by omega, rfl, by rw [HST.out], hqt.drewN _⟩
          case measure => have h9 := HQ1.out; simp [intOf]; omega
        · obtain rfl : q = Qn := by omega
          have hzn : zw R (zsL R m) (m + 1) q = zN R m := by unfold zN; rw [← HQN.out]
          rw [hzn]
          have hzsl := zsL_s R m
          have hzI : I64 (zN R m) := zw_I64 _ _ _ _
          obtain ⟨z, hz⟩ : ∃ z, z = zN R m := ⟨_, rfl⟩
          rw [← hz] at hzsl ⊢
          have HZ := Lib.hid (⟨hz, hzsl⟩ : _ ∧ _)
          have hstop : ¬ ((q : Int) + 1 ≤ (m : Int) + 1 ∧ (q : Int) + 1 < (RN : Int)) := by
            rcases hzqe with e | e <;> omega
          have hown := ownsRow_chg HOW.out.1 (hqt.below.chg 0 0) (fun _ _ => .inr (Nat.zero_le _))
          have hB := HOW.out.2.1.qt hqt
          have hzb := HOW.out.2.2.1
          by_cases hbig : z ≤ 1000000000000000
          · have hb1 : decide ((1000000000000000 : Int) < z) = false := decide_eq_false (by omega)
            have hzb2 : zB R (m + 1) = true := by
              show (zB R m && decide (zN R m ≤ 1000000000000000)) = true
              rw [hzb, ← hz, decide_eq_true hbig]; rfl
            have hownV := hown.alloc (.cells #[.int .i64 z] 2)
            have hnews := news_one wr 2 (.int .i64 z)
            have hgl := hown.lt g rfl
            have hs5 : w1.heap.size ≤ wr.heap.size := by omega
            have hU2 := hB.alloc hB.size (.cells #[.int .i64 z] 2)
            have hU2s := hU2.size
            have HU2 := Lib.hid (⟨hU2, hzb2, hgl⟩ : _ ∧ _ ∧ _)
            clear hz hzsl hzn hown hB hzb hzb2 hbig hU2
            by_cases hq2 : (q : Int) + 1 ≤ (m : Int) + 1
            · have d1 : decide ((q : Int) + 1 ≤ ((m + 1 : Nat) : Int)) = true := decide_eq_true (by omega)
              have d1' : (q : Int) + 1 ≤ (m : Int) + 1 := hq2
              have d2 : decide ((q : Int) + 1 < (RN : Int)) = false := decide_eq_false (fun h => hstop ⟨hq2, h⟩)
              have d2' : ¬ (q : Int) + 1 < (RN : Int) := fun h => hstop ⟨hq2, h⟩
              clear hstop hq2
              go_wp2_with (at_builtin; refine wpList_append_lies _ rfl _ _ 26 rfl w1.heap.size 2 i0 (.int .i64 0) 1 8 Try.underlying26 hi0 z0 z1 z2 rfl (by decide) _ _ _ rfl hownV ⟨wr.heap.size, 0, none⟩ 1 1 [.int .i64 z] rfl rfl ?pa1 ?pa2 (by decide) ?pa3 ?pa4 ?pa5 _ rfl ?_)
              try (case pa1 => exact hnews)
              case pa2 => first | (intro u hu; simp at hu; subst hu; rfl) | rfl | simp
              case pa3 => unfold maxLen; omega
              case pa4 => omega
              case pa5 => first | omega | (simp; omega)
              intro g4 c4 w4 hown3 hgr hlie hlt3
              have F : Hid (w4.ownsRow w1.heap.size 2 1 (.slice (some ⟨g4, 0, none⟩) (m + 1 + 1) c4) (m + 1 + 1) ((zsL R (m + 1)).map (Value.int .i64)) ∧ Below w1.heap.size w1 w4 ∧ zB R (m + 1) = true) := Lib.hid ⟨by rw [HZ.out.2]; simpa using hown3, HU2.out.1.grown hgr (by simp; omega) (fun k hk => by
                have : g = k := by simpa [Value.ownBlock] using hk
                have := HU2.out.2.2
                omega), HU2.out.2.1⟩
              clear hown3 hgr hlie hownV hnews
              go_wp2
              go_roundw
              case rel => exact ⟨m + 1, g4, c4, by omega, rfl, F.out.1, F.out.2.1, F.out.2.2⟩
              case measure => simp [intOf]; omega
            · have d1 : decide ((q : Int) + 1 ≤ ((m + 1 : Nat) : Int)) = false := decide_eq_false (by omega)
              have d1' : ¬ (q : Int) + 1 ≤ (m : Int) + 1 := hq2
              clear hstop hq2
              go_wp2_with (at_builtin; refine wpList_append_lies _ rfl _ _ 26 rfl w1.heap.size 2 i0 (.int .i64 0) 1 8 Try.underlying26 hi0 z0 z1 z2 rfl (by decide) _ _ _ rfl hownV ⟨wr.heap.size, 0, none⟩ 1 1 [.int .i64 z] rfl rfl ?pb1 ?pb2 (by decide) ?pb3 ?pb4 ?pb5 _ rfl ?_)
              try (case pb1 => exact hnews)
              case pb2 => first | (intro u hu; simp at hu; subst hu; rfl) | rfl | simp
              case pb3 => unfold maxLen; omega
              case pb4 => omega
              case pb5 => first | omega | (simp; omega)
              intro g4 c4 w4 hown3 hgr hlie hlt3
              have F : Hid (w4.ownsRow w1.heap.size 2 1 (.slice (some ⟨g4, 0, none⟩) (m + 1 + 1) c4) (m + 1 + 1) ((zsL R (m + 1)).map (Value.int .i64)) ∧ Below w1.heap.size w1 w4 ∧ zB R (m + 1) = true) := Lib.hid ⟨by rw [HZ.out.2]; simpa using hown3, HU2.out.1.grown hgr (by simp; omega) (fun k hk => by
                have : g = k := by simpa [Value.ownBlock] using hk
                have := HU2.out.2.2
                omega), HU2.out.2.1⟩
              clear hown3 hgr hlie hownV hnews
              go_wp2
              go_roundw
              case rel => exact ⟨m + 1, g4, c4, by omega, rfl, F.out.1, F.out.2.1, F.out.2.2⟩
              case measure => simp [intOf]; omega
          · have hb1 : decide ((1000000000000000 : Int) < z) = true := decide_eq_true (by omega)
            have hzb2 : zB R (m + 1) = false := by
              show (zB R m && decide (zN R m ≤ 1000000000000000)) = false
              rw [hzb, ← hz, decide_eq_false hbig]; rfl
            have hzbK : zB R K = false := by
              have := zB_no hzb2 (K - (m + 1))
              rw [show m + 1 + (K - (m + 1)) = K by omega] at this
              exact this
            have hP := HP.out
            rw [hzbK] at hP
            have hP2 : P = ([], 3) := by rw [hP]; rfl
            have HF := Lib.hid (⟨hP2, HB1.out.next hB⟩ : P = ([], 3) ∧ _)
            clear hz hzsl hzn hown hB hzb hzb2 hzbK hbig hP hP2
            by_cases hq2 : (q : Int) + 1 ≤ (m : Int) + 1
            · have d1 : decide ((q : Int) + 1 ≤ ((m + 1 : Nat) : Int)) = true := decide_eq_true (by omega)
              have d1' : (q : Int) + 1 ≤ (m : Int) + 1 := hq2
              have d2 : decide ((q : Int) + 1 < (RN : Int)) = false := decide_eq_false (fun h => hstop ⟨hq2, h⟩)
              have d2' : ¬ (q : Int) + 1 < (RN : Int) := fun h => hstop ⟨hq2, h⟩
              clear hstop hq2
              go_wp2
              go_ret2
              exact ⟨none, 0, by rw [HF.out.1]; rfl, by rw [HF.out.1]; exact OwI.nil' _ _ _, HF.out.2⟩
            · have d1 : decide ((q : Int) + 1 ≤ ((m + 1 : Nat) : Int)) = false := decide_eq_false (by omega)
              have d1' : ¬ (q : Int) + 1 ≤ (m : Int) + 1 := hq2
              clear hstop hq2
              go_wp2
              go_ret2
              exact ⟨none, 0, by rw [HF.out.1]; rfl, by rw [HF.out.1]; exact OwI.nil' _ _ _, HF.out.2⟩
    · obtain rfl : m = K := by omega
      have ht : decide (((m + 1 : Nat) : Int) ≤ (m : Int)) = false := decide_eq_false (by omega)
      have ht2 : ¬ ((m + 1 : Nat) : Int) ≤ (m : Int) := by omega
      have hO := OwI.mk hown (by omega) (zsL_I64 R m)
      have hP := HP.out
      rw [hzb] at hP
      have hP2 : P = (zsL R m, 0) := by rw [hP]; rfl
      have HF := Lib.hid (⟨hP2, OwI.mono hO HB1.out.size (Nat.le_refl _), HB1.out.next hB, zsL_len R m⟩ : P = (zsL R m, 0) ∧ OwI w.heap.size _ U (.slice (some ⟨g, 0, none⟩) (m + 1) cg) (zsL R m) ∧ _ ∧ _)
      clear hown hB hzb hO hP hP2
      go_wp2
      go_ret2
      refine ⟨some ⟨g, 0, none⟩, cg, ?_, ?_, HF.out.2.2.1⟩
      · rw [HF.out.1]; simp only [HF.out.2.2.2]; rfl
      · rw [HF.out.1]; simp only [HF.out.2.2.2]; exact HF.out.2.1

set_option maxHeartbeats 6400000 in
theorem specZet {lo hi : Nat} (s : Int) (a : Option Addr) (n c : Nat) (xss : List (List Int)) (k : Int) (w : World) (h : RdR lo hi w (.slice a n c) xss) (hn : xss.length = n) :
    Calls Try.prog 28 #[.agg #[.int .i64 s, .slice a n c], .int .i64 k] w fun e w' => ∃ a' c', e = .returned (.tuple #[.slice a' (zetOf s xss k).1.length c', .int .i64 (zetOf s xss k).2]) ∧ OwI w.heap.size w'.heap.size w' (.slice a' (zetOf s xss k).1.length c') (zetOf s xss k).1 ∧ Below w.heap.size w w' := by
  obtain ⟨i0, hi0, z0, z1, z2⟩ := info_parts Try.info2
  have hb0 : ∀ o, Below w.heap.size w (w.alloc o) := fun o => (Below.refl _ _).alloc (Nat.le_refl _) o
  have HI := Lib.hid (fun W (hB : Below w.heap.size w W) => l02Code s a n c xss k 0 W (h.below hB) hn)
  have HR0 := Lib.hid (fun (hg : grB s xss = true) W (hB : Below w.heap.size w W) => l02Recip s a n c xss W (h.below hB) hn hg)
  obtain ⟨P, hP⟩ : ∃ P, P = zetOf s xss k := ⟨_, rfl⟩
  rw [← hP]
  unfold zetOf at hP
  by_cases hc : ccode s xss k 0 10 = 0
  case neg =>
    rw [if_neg hc] at hP
    have HP := Lib.hid hP
    have hcb : (ccode s xss k 0 10 != 0) = true := by simpa using hc
    generalize ccode s xss k 0 10 = cd at HI HP hcb
    clear h hn hc hP HR0
    go_enter Try.func28, Try.ntmps28
    go_wp2_with fail
    refine calls_gen (fun W => Below w.heap.size w W) (hb0 _) ?_
    rintro W hB
    refine (HI.out W hB).mono ?_
    rintro e w1 ⟨rfl, b1⟩
    replace hB := hB.next b1
    clear b1 HI
    go_wp2
    go_ret2
    exact ⟨none, 0, by rw [HP.out]; rfl, by rw [HP.out]; exact OwI.nil' _ _ _, hB⟩
  obtain ⟨hg, hk0, hk1⟩ := ccode_ok hc
  rw [if_pos hc] at hP
  rw [hc] at HI
  have HR := Lib.hid (HR0.out hg)
  obtain ⟨K, hK⟩ : ∃ K : Nat, k = (K : Int) := ⟨k.toNat, by omega⟩
  subst hK
  rw [Int.toNat_natCast] at hP
  have hRl := recL_len xss
  have hg4 := grB_iff hg
  generalize recL xss = R at HR hP hRl
  obtain ⟨RN, hRN⟩ : ∃ RN, RN = R.length := ⟨_, rfl⟩
  have HRL : Hid (R.length = RN ∧ RN ≤ 30) := Lib.hid ⟨hRN.symm, by omega⟩
  have HP := Lib.hid hP
  rw [← hRN] at HR
  have hK10 : K ≤ 10 := by omega
  clear h hn hg hc hP hRl hg4 hRN hk0 hk1 HR0
  go_enter Try.func28, Try.ntmps28
  go_wp2_with fail
  refine calls_gen (fun W => Below w.heap.size w W ∧ W.cell? ⟨w.heap.size, 0, none⟩ = some (.int .i64 s) ∧ W.cell? ⟨w.heap.size, 1, none⟩ = some (.slice a n c)) ⟨hb0 _, by go_simp, by go_simp⟩ ?_
  rintro W ⟨hB, k0, k1⟩
  refine (HI.out W hB).mono ?_
  rintro e w0 ⟨rfl, b0⟩
  replace hB := hB.next b0
  replace k0 := b0.keep k0
  replace k1 := b0.keep k1
  clear b0 HI
  go_wp2_with fail
  refine (HR.out w0 hB).mono ?_
  rintro e w1 ⟨a1, c1, rfl, o1, b1⟩
  have hB1 := hB.next b1
  clear k0 k1
  have hl0 := World.ownsRow_lit (base := w1.heap.size) (e := 2) (size := 1) w1 #[.int .i64 1] 1 (Nat.le_refl _) (by unfold maxLen; omega) rfl
  have hA0 := hB1.alloc hB1.size (.cells #[.int .i64 1] 2)
  have HRC := Lib.hid (fun W (hB2 : Below w1.heap.size w1 W) => (o1.rd.below hB2).at HRL.out.1)
  have HS := Lib.hid (⟨hl0, (Below.refl _ _).alloc (Nat.le_refl _) _⟩ : (w1.alloc (.cells #[.int .i64 1] 2)).ownsRow w1.heap.size 2 1 (.slice (some ⟨w1.heap.size, 0, none⟩) (0 + 1) 1) (0 + 1) ((zsL R 0).map (Value.int .i64)) ∧ Below w1.heap.size w1 (w1.alloc (.cells #[.int .i64 1] 2)))
  have HB1 := Lib.hid hB1
  clear o1 b1 HR hB hl0 hA0 hB1
  go_wp2
  generalize w1.alloc (.cells #[.int .i64 1] 2) = V0 at HS ⊢
  go_loopw [8, 9] (fun d v wr => ∃ (m g cg : Nat), m ≤ K ∧ d = .slice (some ⟨g, 0, none⟩) (m + 1) cg ∧ v = .int .i64 ((m : Int) + 1) ∧ wr.ownsRow w1.heap.size 2 1 (.slice (some ⟨g, 0, none⟩) (m + 1) cg) (m + 1) ((zsL R m).map (Value.int .i64)) ∧ Below w1.heap.size w1 wr ∧ zB R m = true) (fun d _ _ => K + 1 - (match d with | .slice _ n _ => n | _ => 0))
  case atStart => exact ⟨0, w1.heap.size, 1, Nat.zero_le _, rfl, rfl, HS.out.1, HS.out.2, rfl⟩
  case round =>
    clear HS
    obtain ⟨m, g, cg, hm, rfl, rfl, hown, hB, hzb⟩ := hrel
    obtain ⟨U, rfl⟩ : ∃ U, U = wr := ⟨_, rfl⟩
    by_cases hlt : m < K
    · have HOW := Lib.hid (⟨hown, hB, hzb, hown.lt g rfl⟩ : _ ∧ _ ∧ _ ∧ _)
      have HSR := Lib.hid (RdL.own hown)
      have hzqb : zq R (m + 1) ≤ m + 1 ∧ zq R (m + 1) ≤ R.length - 1 := by unfold zq; omega
      have hzqe : zq R (m + 1) = m + 1 ∨ zq R (m + 1) = R.length - 1 := by unfold zq; omega
      obtain ⟨Qn, hQn⟩ : ∃ q, q = zq R (m + 1) := ⟨_, rfl⟩
      rw [← hQn] at hzqb hzqe
      have HQN := Lib.hid hQn
      have ht : decide ((m : Int) + 1 ≤ (K : Int)) = true := decide_eq_true (by omega)
      have ht2 : (m : Int) + 1 ≤ (K : Int) := by omega
      clear hown hB hzb hQn
      go_wp2
      go_loopw [10, 11] (fun sm v wr => ∃ q : Nat, q ≤ Qn ∧ v = .int .i64 ((q : Int) + 1) ∧ sm = .int .i64 (zw R (zsL R m) (m + 1) q) ∧ Qt U wr) (fun _ v _ => Qn + 1 - (intOf v).toNat)
      case atStart => exact ⟨0, Nat.zero_le _, rfl, rfl, Qt.refl _⟩
      case round =>
        rename_i hrel
        obtain ⟨q, hq, rfl, rfl, hqt⟩ := hrel
        have hRL := HRL.out
        by_cases hlq : q < Qn
        · have c1 := HRC.out wr (HOW.out.2.1.qt hqt) (q + 1) (by omega)
          obtain ⟨rb, ro, rfl, c1⟩ := c1
          obtain ⟨D, hD⟩ : ∃ D, D = m + 1 - (q + 1) := ⟨_, rfl⟩
          have c2 := hqt.cell (HSR.out.cell (t := D) (by rw [zsL_len]; omega))
          have hst : zw R (zsL R m) (m + 1) (q + 1) = wrap64 (zw R (zsL R m) (m + 1) q - wrap64 (R.getD (q + 1) 0 * (zsL R m).getD D 0)) := by rw [hD]; rfl
          generalize zw R (zsL R m) (m + 1) q = s0 at hst ⊢
          generalize R.getD (q + 1) 0 = x at c1 hst
          generalize (zsL R m).getD D 0 = y at c2 hst
          obtain ⟨p, hp⟩ : ∃ p, p = wrap64 (x * y) := ⟨_, rfl⟩
          obtain ⟨s1, hs1⟩ : ∃ s1, s1 = wrap64 (s0 - p) := ⟨_, rfl⟩
          rw [← hp, ← hs1] at hst
          have HST := Lib.hid hst
          have e1 : IntKind.i64.wrap (x * y) = p := by rw [IntWalk.i64_left, hp]
          have e2 : wrap64 (x * y) = p := hp.symm
          have e3 : IntKind.i64.wrap (s0 - p) = s1 := by rw [IntWalk.i64_left, hs1]
          have e4 : wrap64 (s0 - p) = s1 := hs1.symm
          obtain ⟨q1, hq1⟩ : ∃ q1, q1 = q + 1 := ⟨_, rfl⟩
          have hq1i : (q : Int) + 1 = (q1 : Int) := by clear e1 e2 e3 e4 hp hs1; omega
          rw [← hq1] at c1
          rw [hq1i]
          have d1 : decide ((q1 : Int) ≤ ((m : Int) + 1)) = true := decide_eq_true (by clear e1 e2 e3 e4 hp hs1; omega)
          have d1' : (q1 : Int) ≤ (m : Int) + 1 := by clear e1 e2 e3 e4 hp hs1; omega
          have d2 : decide ((q1 : Int) < (RN : Int)) = true := decide_eq_true (by clear e1 e2 e3 e4 hp hs1; omega)
          have d2' : (q1 : Int) < (RN : Int) := by clear e1 e2 e3 e4 hp hs1; omega
          have d0 : (0 : Int) ≤ (q1 : Int) := by clear e1 e2 e3 e4 hp hs1; omega
          have hDi : ((m : Int) + 1) - (q1 : Int) = (D : Int) := by clear e1 e2 e3 e4 hp hs1; omega
          have f1 : IntKind.i64.wrap (((m : Int) + 1) - (q1 : Int)) = (D : Int) := by rw [hDi]; exact IntWalk.i64_in _ (by clear e1 e2 e3 e4 hp hs1; omega)
          have f2 : wrap64 (((m : Int) + 1) - (q1 : Int)) = (D : Int) := by rw [hDi]; exact IntWalk.wrap64_in _ (by clear e1 e2 e3 e4 hp hs1 f1; omega)
          have f1' : IntKind.i64.wrap ((m : Int) + 1 - (q1 : Int)) = (D : Int) := by rw [show (m : Int) + 1 - (q1 : Int) = (D : Int) by clear e1 e2 e3 e4 hp hs1 f1 f2; omega]; exact IntWalk.i64_in _ (by clear e1 e2 e3 e4 hp hs1 f1 f2; omega)
          have f2' : wrap64 ((m : Int) + 1 - (q1 : Int)) = (D : Int) := by rw [show (m : Int) + 1 - (q1 : Int) = (D : Int) by clear e1 e2 e3 e4 hp hs1 f1 f2 f1'; omega]; exact IntWalk.wrap64_in _ (by clear e1 e2 e3 e4 hp hs1 f1 f2 f1'; omega)
          have hD0 : (0 : Int) ≤ (D : Int) := by clear e1 e2 e3 e4 hp hs1 f1 f2 f1' f2'; omega
          have hDm : (D : Int) < ((m + 1 : Nat) : Int) := by clear e1 e2 e3 e4 hp hs1 f1 f2 f1' f2'; omega
          have hDm2 : (D : Int) < (m : Int) + 1 := by clear e1 e2 e3 e4 hp hs1 f1 f2 f1' f2'; omega
          have g1 : IntKind.i64.wrap ((q1 : Int) + 1) = ((q + 1 : Nat) : Int) + 1 := by rw [show (q1 : Int) + 1 = ((q + 1 : Nat) : Int) + 1 by clear e1 e2 e3 e4 hp hs1 f1 f2 f1' f2'; omega]; exact IntWalk.i64_in _ (by clear e1 e2 e3 e4 hp hs1 f1 f2 f1' f2'; omega)
          have g2 : wrap64 ((q1 : Int) + 1) = ((q + 1 : Nat) : Int) + 1 := by rw [show (q1 : Int) + 1 = ((q + 1 : Nat) : Int) + 1 by clear e1 e2 e3 e4 hp hs1 f1 f2 f1' f2' g1; omega]; exact IntWalk.wrap64_in _ (by clear e1 e2 e3 e4 hp hs1 f1 f2 f1' f2' g1; omega)
          have HQ1 := Lib.hid hq1i
          clear hst hp hs1 hq1 hq1i hDi hD
          go_wp2
          go_quiet (fail)
          go_wp2
          clear g1 g2 e1 e2 e3 e4 f1 f2 f1' f2'
          go_roundw
          case rel => exact ⟨q + 1, by omega, rfl, by rw [HST.out], hqt.drewN _⟩
          case measure => have h9 := HQ1.out; simp [intOf]; omega
        · obtain rfl : q = Qn := by omega
          have hzn : zw R (zsL R m) (m + 1) q = zN R m := by unfold zN; rw [← HQN.out]
          rw [hzn]
          have hzsl := zsL_s R m
          have hzI : I64 (zN R m) := zw_I64 _ _ _ _
          obtain ⟨z, hz⟩ : ∃ z, z = zN R m := ⟨_, rfl⟩
          rw [← hz] at hzsl ⊢
          have HZ := Lib.hid (⟨hz, hzsl⟩ : _ ∧ _)
          have hstop : ¬ ((q : Int) + 1 ≤ (m : Int) + 1 ∧ (q : Int) + 1 < (RN : Int)) := by
            rcases hzqe with e | e <;> omega
          have hown := ownsRow_chg HOW.out.1 (hqt.below.chg 0 0) (fun _ _ => .inr (Nat.zero_le _))
          have hB := HOW.out.2.1.qt hqt
          have hzb := HOW.out.2.2.1
          by_cases hbig : z ≤ 1000000000000000
          · have hb1 : decide ((1000000000000000 : Int) < z) = false := decide_eq_false (by omega)
            have hzb2 : zB R (m + 1) = true := by
              show (zB R m && decide (zN R m ≤ 1000000000000000)) = true
              rw [hzb, ← hz, decide_eq_true hbig]; rfl
            have hownV := hown.alloc (.cells #[.int .i64 z] 2)
            have hnews := news_one wr 2 (.int .i64 z)
            have hgl := hown.lt g rfl
            have hs5 : w1.heap.size ≤ wr.heap.size := by omega
            have hU2 := hB.alloc hB.size (.cells #[.int .i64 z] 2)
            have hU2s := hU2.size
            have HU2 := Lib.hid (⟨hU2, hzb2, hgl⟩ : _ ∧ _ ∧ _)
            clear hz hzsl hzn hown hB hzb hzb2 hbig hU2
            by_cases hq2 : (q : Int) + 1 ≤ (m : Int) + 1
            · have d1 : decide ((q : Int) + 1 ≤ ((m : Int) + 1)) = true := decide_eq_true (by omega)
              have d1' : (q : Int) + 1 ≤ (m : Int) + 1 := hq2
              have d2 : decide ((q : Int) + 1 < (RN : Int)) = false := decide_eq_false (fun h => hstop ⟨hq2, h⟩)
              have d2' : ¬ (q : Int) + 1 < (RN : Int) := fun h => hstop ⟨hq2, h⟩
              clear hstop hq2
              go_wp2_with (at_builtin; refine wpList_append_lies _ rfl _ _ 26 rfl w1.heap.size 2 i0 (.int .i64 0) 1 8 Try.underlying26 hi0 z0 z1 z2 rfl (by decide) _ _ _ rfl hownV ⟨wr.heap.size, 0, none⟩ 1 1 [.int .i64 z] rfl rfl ?pc1 ?pc2 (by decide) ?pc3 ?pc4 ?pc5 _ rfl ?_)
              try (case pc1 => exact hnews)
              case pc2 => first | (intro u hu; simp at hu; subst hu; rfl) | rfl | simp
              case pc3 => unfold maxLen; omega
              case pc4 => omega
              case pc5 => first | omega | (simp; omega)
              intro g4 c4 w4 hown3 hgr hlie hlt3
              have F : Hid (w4.ownsRow w1.heap.size 2 1 (.slice (some ⟨g4, 0, none⟩) (m + 1 + 1) c4) (m + 1 + 1) ((zsL R (m + 1)).map (Value.int .i64)) ∧ Below w1.heap.size w1 w4 ∧ zB R (m + 1) = true) := Lib.hid ⟨by rw [HZ.out.2]; simpa using hown3, HU2.out.1.grown hgr (by simp; omega) (fun k hk => by
                have : g = k := by simpa [Value.ownBlock] using hk
                have := HU2.out.2.2
                omega), HU2.out.2.1⟩
              clear hown3 hgr hlie hownV hnews
              go_wp2
              go_roundw
              case rel => exact ⟨m + 1, g4, c4, by omega, rfl, by go_num, F.out.1, F.out.2.1, F.out.2.2⟩
              case measure => simp [intOf]; omega
            · have d1 : decide ((q : Int) + 1 ≤ ((m : Int) + 1)) = false := decide_eq_false (by omega)
              have d1' : ¬ (q : Int) + 1 ≤ (m : Int) + 1 := hq2
              clear hstop hq2
              go_wp2_with (at_builtin; refine wpList_append_lies _ rfl _ _ 26 rfl w1.heap.size 2 i0 (.int .i64 0) 1 8 Try.underlying26 hi0 z0 z1 z2 rfl (by decide) _ _ _ rfl hownV ⟨wr.heap.size, 0, none⟩ 1 1 [.int .i64 z] rfl rfl ?pd1 ?pd2 (by decide) ?pd3 ?pd4 ?pd5 _ rfl ?_)
              try (case pd1 => exact hnews)
              case pd2 => first | (intro u hu; simp at hu; subst hu; rfl) | rfl | simp
              case pd3 => unfold maxLen; omega
              case pd4 => omega
              case pd5 => first | omega | (simp; omega)
              intro g4 c4 w4 hown3 hgr hlie hlt3
              have F : Hid (w4.ownsRow w1.heap.size 2 1 (.slice (some ⟨g4, 0, none⟩) (m + 1 + 1) c4) (m + 1 + 1) ((zsL R (m + 1)).map (Value.int .i64)) ∧ Below w1.heap.size w1 w4 ∧ zB R (m + 1) = true) := Lib.hid ⟨by rw [HZ.out.2]; simpa using hown3, HU2.out.1.grown hgr (by simp; omega) (fun k hk => by
                have : g = k := by simpa [Value.ownBlock] using hk
                have := HU2.out.2.2
                omega), HU2.out.2.1⟩
              clear hown3 hgr hlie hownV hnews
              go_wp2
              go_roundw
              case rel => exact ⟨m + 1, g4, c4, by omega, rfl, by go_num, F.out.1, F.out.2.1, F.out.2.2⟩
              case measure => simp [intOf]; omega
          · have hb1 : decide ((1000000000000000 : Int) < z) = true := decide_eq_true (by omega)
            have hzb2 : zB R (m + 1) = false := by
              show (zB R m && decide (zN R m ≤ 1000000000000000)) = false
              rw [hzb, ← hz, decide_eq_false hbig]; rfl
            have hzbK : zB R K = false := by
              have := zB_no hzb2 (K - (m + 1))
              rw [show m + 1 + (K - (m + 1)) = K by omega] at this
              exact this
            have hP := HP.out
            rw [hzbK] at hP
            have hP2 : P = ([], 3) := by rw [hP]; rfl
            have HF := Lib.hid (⟨hP2, HB1.out.next hB⟩ : P = ([], 3) ∧ _)
            clear hz hzsl hzn hown hB hzb hzb2 hzbK hbig hP hP2
            by_cases hq2 : (q : Int) + 1 ≤ (m : Int) + 1
            · have d1 : decide ((q : Int) + 1 ≤ ((m : Int) + 1)) = true := decide_eq_true (by omega)
              have d1' : (q : Int) + 1 ≤ (m : Int) + 1 := hq2
              have d2 : decide ((q : Int) + 1 < (RN : Int)) = false := decide_eq_false (fun h => hstop ⟨hq2, h⟩)
              have d2' : ¬ (q : Int) + 1 < (RN : Int) := fun h => hstop ⟨hq2, h⟩
              clear hstop hq2
              go_wp2
              go_ret2
              exact ⟨none, 0, by rw [HF.out.1]; rfl, by rw [HF.out.1]; exact OwI.nil' _ _ _, HF.out.2⟩
            · have d1 : decide ((q : Int) + 1 ≤ ((m : Int) + 1)) = false := decide_eq_false (by omega)
              have d1' : ¬ (q : Int) + 1 ≤ (m : Int) + 1 := hq2
              clear hstop hq2
              go_wp2
              go_ret2
              exact ⟨none, 0, by rw [HF.out.1]; rfl, by rw [HF.out.1]; exact OwI.nil' _ _ _, HF.out.2⟩
    · obtain rfl : m = K := by omega
      have ht : decide ((m : Int) + 1 ≤ (m : Int)) = false := decide_eq_false (by omega)
      have ht2 : ¬ (m : Int) + 1 ≤ (m : Int) := by omega
      have hO := OwI.mk hown (by omega) (zsL_I64 R m)
      have hP := HP.out
      rw [hzb] at hP
      have hP2 : P = (zsL R m, 0) := by rw [hP]; rfl
      have HF := Lib.hid (⟨hP2, OwI.mono hO HB1.out.size (Nat.le_refl _), HB1.out.next hB, zsL_len R m⟩ : P = (zsL R m, 0) ∧ OwI w.heap.size _ U (.slice (some ⟨g, 0, none⟩) (m + 1) cg) (zsL R m) ∧ _ ∧ _)
      clear hown hB hzb hO hP hP2
      go_wp2
      go_ret2
      refine ⟨some ⟨g, 0, none⟩, cg, ?_, ?_, HF.out.2.2.1⟩
      · rw [HF.out.1]; simp only [HF.out.2.2.2]; rfl
      · rw [HF.out.1]; simp only [HF.out.2.2.2]; exact HF.out.2.1

end Go.Proofs.Ytbfgehgjecgfmaa
