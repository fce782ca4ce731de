/- EdgeValue and RootsModulo of the model. -/
import Derived.Test.YtnblhkhdilkbeaaGs
set_option linter.unusedSimpArgs false
set_option linter.unusedVariables false
set_option maxRecDepth 100000
namespace Go.Proofs.Ytnblhkhdilkbeaa
open Go.RowKit

theorem inR_l01 (u p : Int) : (decide (0 ≤ u) && decide (u ≤ p - 1)) = inR u p := by
  unfold inR
  congr 1
  rw [decide_eq_decide]; omega
set_option maxHeartbeats 1600000 in
theorem l09Code0 {lo hi : Nat} (s : Int) (a : Option Addr) (n c : Nat) (xss : List (List Int)) (p : Int) (w : World) (h : RdR lo hi w (.slice a n c) xss) (hn : xss.length = n) :
    Calls Try.prog 61 #[.agg #[.int .i64 s, .slice a n c], .int .i64 p, .slice none 0 0] w fun e w' => e = .returned (.int .i64 (plcCode p s xss 0)) ∧ Below w.heap.size w w' := by
  have hb0 : ∀ o, Below w.heap.size w (w.alloc o) := fun o => (Below.refl _ _).alloc (Nat.le_refl _) o
  have HI := Lib.hid (fun W (hB : Below w.heap.size w W) => l01Is s a n c xss W (h.below hB) hn)
  have HP := Lib.hid (fun W => l09Prime p W)
  have HE1 := Lib.hid (show grB s xss = false → plcCode p s xss 0 = 1 by intro e; unfold plcCode; rw [e]; rfl)
  have HE2 := Lib.hid (show grB s xss = true → pr101 p = false → plcCode p s xss 0 = 2 by intro e e2; unfold plcCode; rw [e, e2]; rfl)
  have HE3 := Lib.hid (show grB s xss = true → pr101 p = true → plcCode p s xss 0 = 0 by
    intro e e2
    have h2 := (isPr_of (pr101_is e2).1 (pr101_is e2).2).le
    have e3 : inR 0 p = true := by unfold inR; simp; omega
    unfold plcCode; rw [e, e2, e3]; rfl)
  generalize plcCode p s xss 0 = cd at HE1 HE2 HE3 ⊢
  clear h hn
  go_enter Try.func61, Try.ntmps61
  go_wp2_with fail
  refine calls_gen (fun W => Below w.heap.size w W) (hb0 _) ?_
  intro W hB
  refine (HI.out W hB).mono ?_
  rintro e w1 ⟨rfl, b1⟩
  replace hB := hB.next b1
  clear b1 HI
  cases hg : grB s xss with
  | false =>
    have HF := Lib.hid (HE1.out hg)
    clear HE1 HE2 HE3 hg HP
    go_wp2
    go_ret
    exact ⟨by rw [HF.out]; rfl, hB⟩
  | true =>
    go_wp2_with fail
    refine (HP.out w1).mono ?_
    rintro e w2 ⟨rfl, q2⟩
    replace hB := hB.qt q2
    clear q2 HP
    cases hp : pr101 p with
    | false =>
      have HF := Lib.hid (HE2.out hg hp)
      clear HE1 HE2 HE3 hg hp
      go_wp2
      go_ret
      exact ⟨by rw [HF.out]; rfl, hB⟩
    | true =>
      have HF := Lib.hid (HE3.out hg hp)
      clear HE1 HE2 HE3 hg hp
      go_wp2
      refine wp_loop_rounds 1 ?_
      rw [rounds_succ]
      have hlt0 : ¬ ((0 : Int) < 0) := by omega
      go_wp2
      go_ret
      exact ⟨by rw [HF.out]; rfl, hB⟩
set_option maxHeartbeats 1600000 in
theorem l09Code1 {lo hi : Nat} (s : Int) (a : Option Addr) (n c : Nat) (xss : List (List Int)) (p u : Int) (G : Nat) (w : World) (h : RdR lo hi w (.slice a n c) xss) (hn : xss.length = n) (hG : w.cell? ⟨G, 0, none⟩ = some (.int .i64 u)) :
    Calls Try.prog 61 #[.agg #[.int .i64 s, .slice a n c], .int .i64 p, .slice (some ⟨G, 0, none⟩) 1 1] w fun e w' => e = .returned (.int .i64 (plcCode p s xss u)) ∧ Below w.heap.size w w' := by
  have hb0 : ∀ o, Below w.heap.size w (w.alloc o) := fun o => (Below.refl _ _).alloc (Nat.le_refl _) o
  have HI := Lib.hid (fun W (hB : Below w.heap.size w W) => l01Is s a n c xss W (h.below hB) hn)
  have HP := Lib.hid (fun W => l09Prime p W)
  have HL := Lib.hid (fun W => l01In u 0 (p - 1) W)
  rw [inR_l01] at HL
  have HE1 := Lib.hid (show grB s xss = false → plcCode p s xss u = 1 by intro e; unfold plcCode; rw [e]; rfl)
  have HE2 := Lib.hid (show grB s xss = true → pr101 p = false → plcCode p s xss u = 2 by intro e e2; unfold plcCode; rw [e, e2]; rfl)
  have HE3 := Lib.hid (show grB s xss = true → pr101 p = true → inR u p = true → plcCode p s xss u = 0 by
    intro e e2 e3; unfold plcCode; rw [e, e2, e3]; rfl)
  have HE4 := Lib.hid (show grB s xss = true → pr101 p = true → inR u p = false → plcCode p s xss u = 2 by
    intro e e2 e3; unfold plcCode; rw [e, e2, e3]; rfl)
  have HE5 := Lib.hid (show pr101 p = true → 2 ≤ p ∧ p ≤ 101 from fun e => (isPr_of (pr101_is e).1 (pr101_is e).2).le)
  generalize plcCode p s xss u = cd at HE1 HE2 HE3 HE4 ⊢
  have HGG := Lib.hid (fun W (hB : Below w.heap.size w W) => (hB.keep hG : W.cell? ⟨G, 0, none⟩ = some (.int .i64 u)))
  clear h hn hG
  go_enter Try.func61, Try.ntmps61
  go_wp2_with fail
  refine calls_gen (fun W => Below w.heap.size w W) (hb0 _) ?_
  intro W hB
  refine (HI.out W hB).mono ?_
  rintro e w1 ⟨rfl, b1⟩
  replace hB := hB.next b1
  clear b1 HI
  cases hg : grB s xss with
  | false =>
    have HF := Lib.hid (HE1.out hg)
    clear HE1 HE2 HE3 HE4 HE5 hg HP
    go_wp2
    go_ret
    exact ⟨by rw [HF.out]; rfl, hB⟩
  | true =>
    go_wp2_with fail
    refine (HP.out w1).mono ?_
    rintro e w2 ⟨rfl, q2⟩
    replace hB := hB.qt q2
    clear q2 HP
    cases hp : pr101 p with
    | false =>
      have HF := Lib.hid (HE2.out hg hp)
      clear HE1 HE2 HE3 HE4 HE5 hg hp
      go_wp2
      go_ret
      exact ⟨by rw [HF.out]; rfl, hB⟩
    | true =>
      have hpb := HE5.out hp
      have m1 : IntKind.i64.wrap (p - 1) = p - 1 := IntWalk.i64_in _ (by omega)
      have m2 : wrap64 (p - 1) = p - 1 := IntWalk.wrap64_in _ (by clear m1; omega)
      have r1 := HGG.out w2 hB
      clear HGG
      go_wp2
      refine wp_loop_rounds 2 ?_
      rw [rounds_succ]
      have hlt0 : ((0 : Int) < 1) := by omega
      go_wp2_with fail
      refine (HL.out w2).mono ?_
      rintro e w3 ⟨rfl, q3⟩
      replace hB := hB.qt q3
      clear q3 HL r1
      cases hu : inR u p with
      | false =>
        have HF := Lib.hid (HE4.out hg hp hu)
        clear HE1 HE2 HE3 HE4 HE5 hg hp hu m1 m2
        go_wp2
        go_ret
        exact ⟨by rw [HF.out]; rfl, hB⟩
      | true =>
        have HF := Lib.hid (HE3.out hg hp hu)
        clear HE1 HE2 HE3 HE4 HE5 hg hp hu m1 m2
        have hlt1 : ¬ ((1 : Int) < 1) := by omega
        go_wp2
        rw [rounds_succ]
        go_wp2
        go_ret
        exact ⟨by rw [HF.out]; rfl, hB⟩

set_option maxHeartbeats 1600000 in
theorem specEv {lo hi : Nat} (s : Int) (a : Option Addr) (n c : Nat) (xss : List (List Int)) (p u : Int) (w : World) (h : RdR lo hi w (.slice a n c) xss) (hn : xss.length = n) :
    Calls Try.prog 28 #[.agg #[.int .i64 s, .slice a n c], .int .i64 p, .int .i64 u] w fun e w' => e = .returned (.tuple #[.int .i64 (evOf s xss p u).1, .int .i64 (evOf s xss p u).2]) ∧ Below w.heap.size w w' := by
  have hb0 : ∀ o, Below w.heap.size w (w.alloc o) := fun o => (Below.refl _ _).alloc (Nat.le_refl _) o
  have HI := Lib.hid (fun (G : Nat) W (hB : Below w.heap.size w W) (hG : W.cell? ⟨G, 0, none⟩ = some (.int .i64 u)) => l09Code1 s a n c xss p u G W (h.below hB) hn hG)
  by_cases hd : plcCode p s xss u = 0
  · have e2 : evOf s xss p u = (plV xss p u, 0) := by unfold evOf; rw [if_pos hd]
    rw [e2]
    rw [hd] at HI
    obtain ⟨hg, hp, hu⟩ := plc_ok hd
    have HR := Lib.hid (fun W (hB : Below w.heap.size w W) => l09Solve s a n c xss p u W (h.below hB) hn hg hp hu)
    generalize plV xss p u = v at HR ⊢
    clear h hn hd e2 hg hp hu
    go_enter Try.func28, Try.ntmps28
    go_wp2_with fail
    refine calls_gen (fun W => Below w.heap.size w W ∧ W.cell? ⟨w.heap.size, 0, none⟩ = some (.int .i64 s) ∧ W.cell? ⟨w.heap.size, 1, none⟩ = some (.slice a n c) ∧ W.cell? ⟨w.heap.size + 1, 0, none⟩ = some (.int .i64 u)) ⟨(hb0 _).alloc (by simp) _, by go_simp, by go_simp, by go_simp⟩ ?_
    rintro W ⟨hB, k0, k1, g0⟩
    refine (HI.out _ W hB g0).mono ?_
    clear g0
    rintro e w1 ⟨rfl, b1⟩
    replace hB := hB.next b1
    replace k0 := b1.keep k0
    replace k1 := b1.keep k1
    clear b1 HI
    go_wp2_with fail
    refine (HR.out w1 hB).mono ?_
    rintro e w2 ⟨vt, T, rfl, b2, _⟩
    have HF := Lib.hid (hB.next b2)
    clear b2 hB k0 k1 HR
    go_wp2
    go_ret2
    exact ⟨rfl, HF.out⟩
  · have e2 : evOf s xss p u = (0, plcCode p s xss u) := by unfold evOf; rw [if_neg hd]
    rw [e2]
    have hcb : (plcCode p s xss u == 0) = false := by simpa using hd
    have hcb2 : (plcCode p s xss u != 0) = true := by simpa using hd
    generalize plcCode p s xss u = cd at HI hcb hcb2 ⊢
    clear h hn hd e2
    go_enter Try.func28, Try.ntmps28
    go_wp2_with fail
    refine calls_gen (fun W => Below w.heap.size w W ∧ W.cell? ⟨w.heap.size + 1, 0, none⟩ = some (.int .i64 u)) ⟨(hb0 _).alloc (by simp) _, by go_simp⟩ ?_
    rintro W ⟨hB, g0⟩
    refine (HI.out _ W hB g0).mono ?_
    clear g0
    rintro e w1 ⟨rfl, b1⟩
    replace hB := hB.next b1
    clear b1 HI
    go_wp2
    go_ret2
    exact ⟨rfl, hB⟩

set_option maxHeartbeats 1600000 in
theorem specRm {lo hi : Nat} (s : Int) (a : Option Addr) (n c : Nat) (xss : List (List Int)) (p : Int) (w : World) (h : RdR lo hi w (.slice a n c) xss) (hn : xss.length = n) :
    Calls Try.prog 30 #[.agg #[.int .i64 s, .slice a n c], .int .i64 p] w fun e w' => ∃ a' c', e = .returned (.tuple #[.slice a' (rmOf s xss p).1.length c', .int .i64 (rmOf s xss p).2]) ∧ OwI w.heap.size w'.heap.size w' (.slice a' (rmOf s xss p).1.length c') (rmOf s xss p).1 ∧ Below w.heap.size w w' := by
  obtain ⟨i0, hi', z0, z1, z2⟩ := info_parts Try.info2
  have hb0 : ∀ o, Below w.heap.size w (w.alloc o) := fun o => (Below.refl _ _).alloc (Nat.le_refl _) o
  have HI := Lib.hid (fun W (hB : Below w.heap.size w W) => l09Code0 s a n c xss p W (h.below hB) hn)
  by_cases hd : plcCode p s xss 0 = 0
  · have e2 : rmOf s xss p = (rtN (plV xss p) p.toNat, 0) := by unfold rmOf; rw [if_pos hd]
    rw [e2]
    rw [hd] at HI
    obtain ⟨hg, hp, _⟩ := plc_ok hd
    have hple := hp.le
    obtain ⟨N, rfl⟩ : ∃ N : Nat, p = (N : Int) := ⟨p.toNat, by omega⟩
    rw [Int.toNat_natCast]
    have HR := Lib.hid (fun W (hB : Below w.heap.size w W) (k : Nat) (hk : (k : Int) < (N : Int)) => l09Solve s a n c xss (N : Int) (k : Int) W (h.below hB) hn hg hp ⟨by omega, hk⟩)
    generalize plV xss (N : Int) = V at HR ⊢
    have HN1 := Lib.hid (show N ≤ 101 by omega)
    clear h hn hd e2 hg hp hple
    go_enter Try.func30, Try.ntmps30
    go_wp2_with fail
    refine calls_gen (fun W => Below w.heap.size w W ∧ w.heap.size < W.heap.size ∧ W.cell? ⟨w.heap.size, 0, none⟩ = some (.int .i64 s) ∧ W.cell? ⟨w.heap.size, 1, none⟩ = some (.slice a n c)) ⟨hb0 _, by simp, by go_simp, by go_simp⟩ ?_
    rintro W ⟨hB, hz, k0, k1⟩
    refine (HI.out W hB).mono ?_
    rintro e w1 ⟨rfl, b1⟩
    have HK := Lib.hid (⟨hB.next b1, Nat.lt_of_lt_of_le hz b1.size, b1.keep k0, b1.keep k1⟩ : _ ∧ w.heap.size < w1.heap.size ∧ _ ∧ _)
    clear b1 HI hB hz k0 k1
    go_wp2
    go_loopw [8, 7] (fun i v wr => ∃ (k q : Nat), k ≤ N ∧ i = .int .i64 k ∧ q ≤ k ∧ wr.ownsRow (w.heap.size + 1) 2 1 v q (rtv V k) ∧ Below w.heap.size w wr ∧ w.heap.size < wr.heap.size ∧ wr.cell? ⟨w.heap.size, 0, none⟩ = some (.int .i64 s) ∧ wr.cell? ⟨w.heap.size, 1, none⟩ = some (.slice a n c)) (fun i _ _ => N - (intOf i).toNat)
    case atStart =>
      obtain ⟨hB, hz2, k0, k1⟩ := HK.out
      refine ⟨0, 0, Nat.zero_le _, rfl, Nat.le_refl _, ?_, hB.alloc hB.size _, by simp; omega, by go_simp, by go_simp⟩
      exact World.ownsRow_lit _ #[] 0 (by omega) (by unfold maxLen; omega) rfl
    case round =>
      clear HK
      obtain ⟨k, q, hk, rfl, hq, hC, hB, hz, k0, k1⟩ := hrel
      by_cases hlt : k < N
      · have hkN : (k : Int) < (N : Int) := by omega
        have hnx := HR.out wr hB k hkN
        have HX := Lib.hid hnx
        have HV := Lib.hid (⟨hC, hB, hz, k0, k1⟩ : _ ∧ _ ∧ _ ∧ _ ∧ _)
        clear hC hB hz hnx
        go_wp2_with fail
        refine HX.out.mono ?_
        clear HX k0 k1
        rintro e w5 ⟨vt, T, rfl, b5, _⟩
        obtain ⟨hC, hB, hz, k0, k1⟩ := HV.out
        replace hC := ownsRow_chg hC (b5.chg 0 0) (fun _ _ => .inr (Nat.zero_le _))
        replace hB := hB.next b5
        replace hz := Nat.lt_of_lt_of_le hz b5.size
        replace k0 := b5.keep k0
        replace k1 := b5.keep k1
        clear b5 HV
        have hst : V (k : Int) = 0 → rtv V (k + 1) = rtv V k ++ [.int .i64 (k : Int)] := rtv_yes
        have hsn : V (k : Int) ≠ 0 → rtv V (k + 1) = rtv V k := rtv_no
        have HSY := Lib.hid hst
        have HSN := Lib.hid hsn
        generalize V (k : Int) = v at HSY HSN ⊢
        clear hst hsn
        by_cases hv : v = 0
        · subst hv
          have HFL := Lib.hid (HSY.out rfl)
          have hqb := HN1.out
          have hvb : ((0 : Int) == 0) = true := rfl
          clear HSY HSN
          go_wp2_with (at_builtin; refine wpList_append_own _ rfl _ _ 25 rfl (w.heap.size + 1) 2 i0 (.int .i64 0) 1 8 Try.underlying25 hi' z0 z1 z2 rfl (by decide) _ _ _ rfl (hC.alloc _) ⟨w5.heap.size, 0, none⟩ 1 1 [.int .i64 (k : Int)] rfl rfl ?d1 ?d2 ?d3 ?d4 ?d5 ?_)
          case d1 => exact news_one _ _ _
          case d2 => first | (intro u hu; simp at hu; subst hu; rfl) | rfl | simp
          case d3 => unfold maxLen; omega
          case d4 => omega
          case d5 => simp; omega
          intro v3 w3 hown3 hgr _
          obtain ⟨hB3, hz3, hk3, _⟩ := grown_own hB hC (Nat.le_succ _) hgr
          replace k0 := hk3 _ _ (Nat.lt_succ_self _) k0
          replace k1 := hk3 _ _ (Nat.lt_succ_self _) k1
          rw [← HFL.out] at hown3
          have HF := Lib.hid (⟨hown3, hB3, by omega, k0, k1⟩ : _ ∧ _ ∧ w.heap.size < w3.heap.size ∧ _ ∧ _)
          clear hown3 hB3 hz3 hk3 hgr hC hB hz k0 k1
          go_wp2
          go_roundw
          case rel => exact ⟨k+1, q+1, by omega, by go_num, by omega, HF.out⟩
          case measure => simp [intOf]; omega
        · have hvb : (v == 0) = false := by simpa using hv
          have hqb := HN1.out
          rw [← HSN.out hv] at hC
          have HF := Lib.hid (⟨hC, hB, hz, k0, k1⟩ : _ ∧ _ ∧ _ ∧ _ ∧ _)
          clear hC hB hz k0 k1 hv HSY HSN
          go_wp2
          go_roundw
          case rel => exact ⟨k+1, q, by omega, by go_num, by omega, HF.out⟩
          case measure => simp [intOf]; omega
      · obtain rfl : k = N := by omega
        obtain ⟨a3, c3, rfl⟩ := own_shapeE hC
        have hqb := HN1.out
        have hql : (rtN V k).length = q := by have := hC.1; simpa [rtv] using this
        have hO := (OwI.mk hC (by omega) (rtN_I64 V k (by omega))).mono (Nat.le_succ _) (Nat.le_refl _)
        have HF := Lib.hid (⟨hO, hB⟩ : _ ∧ _)
        have HQ := Lib.hid hql
        clear hC hO hB hql hz k0 k1
        go_wp2
        go_ret2
        refine ⟨a3, c3, ?_, ?_, HF.out.2⟩
        · show _ = Ending.returned (.tuple #[.slice a3 (rtN V k).length c3, .int .i64 0])
          rw [HQ.out]; rfl
        · show OwI _ _ _ (.slice a3 (rtN V k).length c3) (rtN V k)
          rw [HQ.out]; exact HF.out.1
  · have e2 : rmOf s xss p = ([], plcCode p s xss 0) := by unfold rmOf; rw [if_neg hd]
    rw [e2]
    have hcb : (plcCode p s xss 0 == 0) = false := by simpa using hd
    have hcb2 : (plcCode p s xss 0 != 0) = true := by simpa using hd
    generalize plcCode p s xss 0 = cd at HI hcb hcb2 ⊢
    clear h hn hd e2
    go_enter Try.func30, Try.ntmps30
    go_wp2_with fail
    refine calls_gen (fun W => Below w.heap.size w W) (hb0 _) ?_
    rintro W hB
    refine (HI.out W hB).mono ?_
    rintro e w1 ⟨rfl, b1⟩
    replace hB := hB.next b1
    clear b1 HI
    go_wp2
    go_ret2
    exact ⟨none, 0, rfl, OwI.nil' _ _ _, hB⟩
end Go.Proofs.Ytnblhkhdilkbeaa
