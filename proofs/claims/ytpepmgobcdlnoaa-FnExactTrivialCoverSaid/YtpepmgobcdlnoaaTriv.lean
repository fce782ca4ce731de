/- TrivialCover of the model and of the program. -/
import Derived.Test.YtpepmgobcdlnoaaCycLaw
import Derived.StillTailTactics
set_option linter.unusedSimpArgs false
set_option linter.unusedVariables false
set_option maxRecDepth 100000
namespace Go.Proofs.Ytpepmgobcdlnoaa
open Go.RowKit

def zl (n : Nat) : List Int := List.replicate n 0
theorem zl_len (n : Nat) : (zl n).length = n := by simp [zl]
theorem zl_own {lo n : Nat} {w : World} {v : Value} (h : w.ownsRow lo 2 1 v n (madeCells #[Value.int .i64 0] n).toList) (hn : n ≤ 17592186044416) : OwI lo w.heap.size w v (zl n) := by
  rw [toList_madeCells_one] at h
  refine OwI.mk (n := n) ?_ hn (fun x hx => ?_)
  · simpa [zl] using h
  · have := List.eq_of_mem_replicate hx
    subst this
    unfold I64; omega

theorem makeI (n : Nat) (hn : n ≤ 17592186044416) : ∃ Ob : Obj, ∀ w : World, (Instr.makeSlice 45 (.int .i64 (n : Int)) (.int .i64 (n : Int))).run Try.prog w = .ok (.slice (some ⟨w.heap.size, 0, none⟩) n n) (w.alloc Ob) ∧
    OwI w.heap.size (w.alloc Ob).heap.size (w.alloc Ob) (.slice (some ⟨w.heap.size, 0, none⟩) n n) (zl n) := by
  obtain ⟨i0, hi', z0, z1, z2⟩ := info_parts Try.info2
  refine ⟨.cells (madeCells (Value.int .i64 0).cells (n * i0.size)) 2, fun w => ?_⟩
  have h1 := run_make (P := Try.prog) w 45 2 i0 (.int .i64 0) Try.underlying45 hi' z0 .i64 .i64 (n : Int) (n : Int) (by omega) (Int.le_refl _) (by rw [z2]; omega) (by omega)
  rw [Int.toNat_natCast] at h1
  refine ⟨h1, ?_⟩
  obtain ⟨w', h2, h3, _⟩ := run_make_full (P := Try.prog) w w.heap.size 45 2 i0 (.int .i64 0) 1 Try.underlying45 hi' z0 z1 .i64 .i64 n (by rw [z2]; omega) (by unfold maxLen; omega) (Nat.le_refl _)
  rw [h1] at h2
  simp only [Result.ok.injEq, true_and] at h2
  rw [h2]
  exact zl_own (by rw [Nat.mul_one] at h3; exact h3) hn

set_option maxHeartbeats 1600000 in
theorem implTriv {lo hi : Nat} (s : Int) (a : Option Addr) (n c : Nat) (xss : List (List Int)) (sh : Int) (w : World) (h : RdR lo hi w (.slice a n c) xss) (hn : xss.length = n) :
    Calls Try.prog 31 #[.agg #[.int .i64 s, .slice a n c], .int .i64 sh] w fun e w' => CovA w (cycOf s xss sh (zl xss.length)) e w' := by
  have hb0 : ∀ o o', Below w.heap.size w ((w.alloc o).alloc o') := fun o o' => ((Below.refl _ _).alloc (Nat.le_refl _) o).alloc (by simp) o'
  have HN := Lib.hid hn
  have HR := Lib.hid h
  have hlen := h.1
  rw [hn] at hlen ⊢
  obtain ⟨p, hp⟩ : ∃ p, p = cycOf s xss sh (zl n) := ⟨_, rfl⟩
  rw [← hp]
  have HP := Lib.hid hp
  clear hp
  obtain ⟨⟨p0, p1, p2, p3⟩, p4⟩ := p
  obtain ⟨Ob, hOb⟩ := makeI n (by omega)
  have hmk := fun W => (hOb W).1
  have HO := Lib.hid hOb
  clear hn h hOb
  have hA := hb0 (.cells #[.int .i64 s, .slice a n c] 29) (.cells #[.int .i64 0, .slice none 0 0, .int .i64 0, .slice none 0 0] 31)
  have k0 : ((w.alloc (.cells #[.int .i64 s, .slice a n c] 29)).alloc (.cells #[.int .i64 0, .slice none 0 0, .int .i64 0, .slice none 0 0] 31)).cell? ⟨w.heap.size, 0, none⟩ = some (.int .i64 s) := by go_simp
  have k1 : ((w.alloc (.cells #[.int .i64 s, .slice a n c] 29)).alloc (.cells #[.int .i64 0, .slice none 0 0, .int .i64 0, .slice none 0 0] 31)).cell? ⟨w.heap.size, 1, none⟩ = some (.slice a n c) := by go_simp
  obtain ⟨R, hR⟩ : ∃ R, R = w.heap.size + 1 := ⟨_, rfl⟩
  have bx : Box4 ((w.alloc (.cells #[.int .i64 s, .slice a n c] 29)).alloc (.cells #[.int .i64 0, .slice none 0 0, .int .i64 0, .slice none 0 0] 31)) R (.int .i64 0) (.slice none 0 0) (.int .i64 0) (.slice none 0 0) := by
    rw [hR]
    exact ⟨by simp, by go_simp, by go_simp, by go_simp, by go_simp, by go_simp, by go_simp, by go_simp, by go_simp⟩
  go_enter Try.func31, Try.ntmps31
  go_wp2
  rw [← hR]
  have hRw : w.heap.size < R := by omega
  clear hR
  generalize (w.alloc (.cells #[.int .i64 s, .slice a n c] 29)).alloc (.cells #[.int .i64 0, .slice none 0 0, .int .i64 0, .slice none 0 0] 31) = V at hA k0 k1 bx ⊢
  have HBX := Lib.hid (⟨hA, bx⟩ : _ ∧ _)
  have kd0 := (Qt.refl V).drew.cell k0
  have kd1 := (Qt.refl V).drew.cell k1
  have hbA := (Below.refl V.heap.size V).alloc (Nat.le_refl _) Ob
  have ka0 := hbA.keep k0
  have ka1 := hbA.keep k1
  have ke0 := (Qt.refl (V.alloc Ob)).drew.cell ka0
  have ke1 := (Qt.refl (V.alloc Ob)).drew.cell ka1
  have HBA := Lib.hid hbA
  clear hA bx hbA
  have hsV : w.heap.size ≤ V.heap.size := HBX.out.1.size
  have hG := implCyc s a n c xss sh (some ⟨V.heap.size, 0, none⟩) n n (zl n) (V.alloc Ob).drew (((HR.out.below HBX.out.1).below HBA.out).qt (Qt.refl _).drew) HN.out ((HO.out V).2.rd.qt (Qt.refl _).drew) (zl_len n)
  rw [← HP.out] at hG
  unfold CovA at hG
  dsimp only at hG
  have HG := Lib.hid hG
  clear hG
  go_region_held3 (fun W' => W'.cell? ⟨w.heap.size, 0, none⟩ = some (.int .i64 s) ∧ W'.cell? ⟨w.heap.size, 1, none⟩ = some (.slice a n c))
    (first | (with_reducible exact ⟨k0, k1⟩) | (with_reducible exact ⟨kd0, kd1⟩) | (with_reducible exact ⟨ka0, ka1⟩) | (with_reducible exact ⟨ke0, ke1⟩) | (with_reducible exact ⟨s50, s51⟩) | (with_reducible exact ⟨v50, v51⟩) | (trace_state; fail))
    (first | (go_at_call 35; with_reducible refine HG.out.mono ?_; rintro e w3 ⟨a5, c5, ta5, tc5, m5, rfl, hm1, hm2, o5, o6, b3⟩; have s50 := b3.keep ke0; have s51 := b3.keep ke1; have hb3 := ((HBA.out.qt (Qt.refl _).drew)).next b3; have bx3 := HBX.out.2.below hb3; obtain ⟨hRlt, r0, r1, r2, r3, g0, g1, g2, g3⟩ := bx3; have v5 := chg4 w3 R (.int .i64 p0) (.slice a5 p1.length c5) (.int .i64 p2) (.slice ta5 p3.length tc5); have v50 := v5.cell s50 (.inl hRw); have v51 := v5.cell s51 (.inl hRw)))
  all_goals
    have hRV := HBX.out.2.lt
    have hAs := HBA.out.size
    have hB3 := (HBX.out.1.next hb3).chgn v5 (by omega) (by have := hb3.size; omega)
    go_wp2
    refine bodyPost_ret (v := .tuple #[.agg #[.int .i64 p0, .slice a5 p1.length c5, .int .i64 p2, .slice ta5 p3.length tc5], .int .i64 p4]) (by simp [results, Try.results31, go_sem, r0, r1, r2, r3]) rfl ?_
    have hd : (V.alloc Ob).drew.heap.size = V.heap.size + 1 := by simp [World.drew]
    rw [hd] at hm1 o5
    exact ⟨a5, c5, ta5, tc5, m5, rfl, by omega, by simp [World.setCell]; omega, (o5.chg v5 (.inr (by omega))).mono (by omega) (Nat.le_refl _), (o6.chg v5 (.inr (by omega))).mono (Nat.le_refl _) (by simp [World.setCell]), hB3⟩

theorem zl_all (n : Nat) : (zl n).all (wM 1000) = true := by
  rw [List.all_eq_true]
  intro x hx
  have := List.eq_of_mem_replicate hx
  subst this
  rfl
theorem zl_list (n : Nat) : listB n 1000 (zl n) = true := by unfold listB; rw [zl_all, zl_len]; simp

set_option maxHeartbeats 1600000 in
theorem specTriv {lo hi : Nat} (s : Int) (a : Option Addr) (n c : Nat) (xss : List (List Int)) (sh : Int) (w : World) (h : RdR lo hi w (.slice a n c) xss) (hn : xss.length = n) :
    Calls Try.prog 29 #[.agg #[.int .i64 s, .slice a n c], .int .i64 sh] w fun e w' => CovA w (cycOf s xss sh (zl xss.length)) e w' := by
  rw [hn]
  have hb0 : ∀ o o', Below w.heap.size w ((w.alloc o).alloc o') := fun o o' => ((Below.refl _ _).alloc (Nat.le_refl _) o).alloc (by simp) o'
  have HN := Lib.hid hn
  have HR := Lib.hid h
  have fin : ∀ (e : Ending) (W W' : World) (R : Nat) (cd : Int), Below w.heap.size w W → w.heap.size ≤ R → Chg R (R+1) W W' → cd ≠ 0 → cycCode s xss sh (zl n) = cd → e = .returned (.tuple #[.agg #[.int .i64 0, .slice none 0 0, .int .i64 0, .slice none 0 0], .int .i64 cd]) → CovA w (cycOf s xss sh (zl n)) e W' := by
    intro e W W' R cd hB hR hch hcd0 hcd he
    rw [cycOf_no (by rw [hcd]; exact hcd0), hcd]
    exact covA_zero he (hB.chgn hch hR hB.size)
  have HF := Lib.hid fin
  clear hn h fin
  go_enter Try.func29, Try.ntmps29
  go_wp2_with fail
  obtain ⟨R, hR⟩ : ∃ R, R = w.heap.size + 1 := ⟨_, rfl⟩
  refine calls_gen (fun W => Below w.heap.size w W ∧ w.heap.size < W.heap.size ∧ W.cell? ⟨w.heap.size, 0, none⟩ = some (.int .i64 s) ∧ W.cell? ⟨w.heap.size, 1, none⟩ = some (.slice a n c) ∧ Box4 W R (.int .i64 0) (.slice none 0 0) (.int .i64 0) (.slice none 0 0)) ⟨hb0 _ _, by simp; omega, by go_simp, by go_simp, ⟨?_, ?_, ?_, ?_, ?_, ?_, ?_, ?_, ?_⟩⟩ ?_
  · rw [hR]; simp
  iterate 8 (rw [hR]; go_simp)
  rw [← hR]
  have hRw : w.heap.size < R := by omega
  clear hR
  rintro W ⟨hB, hz, k0, k1, bx⟩
  refine (l01Is s a n c xss W (HR.out.below hB) HN.out).mono ?_
  rintro e w1 ⟨rfl, b1⟩
  replace k0 := b1.keep k0
  replace k1 := b1.keep k1
  replace bx := bx.below b1
  replace hB := hB.next b1
  clear b1
  cases hg : grB s xss with
  | false =>
    have HB := Lib.hid (show cycCode s xss sh (zl n) = 1 by unfold cycCode; rw [hg]; rfl)
    obtain ⟨_, r0, r1, r2, r3, g0, g1, g2, g3⟩ := bx
    clear hg
    go_wp2
    refine bodyPost_ret (v := .tuple #[.agg #[.int .i64 0, .slice none 0 0, .int .i64 0, .slice none 0 0], .int .i64 1]) (by simp [results, Try.results29, go_sem, r0, r1, r2, r3]) rfl (HF.out _ _ _ R 1 hB (by omega) (chg4 _ _ _ _ _ _) (by decide) HB.out rfl)
  | true =>
  have HC := Lib.hid (cyc_list (sh := sh) (ys := zl n) hg)
  have hn10 : n ≤ 10 := by have := grB_iff hg; have := HN.out; omega
  clear hg
  cases hs : shB sh with
  | false =>
    have HB := Lib.hid (show cycCode s xss sh (zl n) = 2 by rw [HC.out, hs]; rfl)
    have HS := Lib.hid hs
    clear hs
    have HX := Lib.hid bx
    clear bx
    go_wp2_with (go_at_call 71; refine (l01In _ _ _ _).mono ?_; rintro e w2 ⟨rfl, q1⟩; rw [show (decide (1 ≤ sh) && decide (sh ≤ 4)) = false from HS.out]; replace hB := hB.qt q1; obtain ⟨_, r0, r1, r2, r3, g0, g1, g2, g3⟩ := HX.out.qt q1)
    refine bodyPost_ret (v := .tuple #[.agg #[.int .i64 0, .slice none 0 0, .int .i64 0, .slice none 0 0], .int .i64 2]) (by simp [results, Try.results29, go_sem, r0, r1, r2, r3]) rfl (HF.out _ _ _ R 2 hB (by omega) (chg4 _ _ _ _ _ _) (by decide) HB.out rfl)
  | true =>
  have HS := Lib.hid hs
  clear hs
  have HX := Lib.hid bx
  clear bx
  have hok : cycCode s xss sh (zl n) = 0 := by rw [HC.out, HS.out, HN.out, zl_list]; rfl
  obtain ⟨_, _, ⟨h1, h4⟩, _, hall⟩ := cyc_ok hok
  obtain ⟨S, rfl⟩ : ∃ S : Nat, sh = S := ⟨sh.toNat, by omega⟩
  have HOK := Lib.hid (cycOf_ok hok)
  have HY := Lib.hid (w1k_bd hall)
  have h1' : 1 ≤ S := by omega
  have h4' : S ≤ 4 := by omega
  obtain ⟨Ob, hOb⟩ := makeI n (by omega)
  have hmk := fun W => (hOb W).1
  have HO := Lib.hid hOb
  clear hok hall hOb
  go_wp2_with (go_at_call 71; refine (l01In _ _ _ _).mono ?_; rintro e V ⟨rfl, q1⟩; rw [show (decide (1 ≤ (S : Int)) && decide ((S : Int) ≤ 4)) = true from HS.out]; replace hB := hB.qt q1; replace k0 := q1.cell k0; replace k1 := q1.cell k1; have bx2 := HX.out.qt q1; clear q1)
  have kd0 := (Qt.refl V).drew.cell k0
  have kd1 := (Qt.refl V).drew.cell k1
  have hbA := (Below.refl V.heap.size V).alloc (Nat.le_refl _) Ob
  have ka0 := hbA.keep k0
  have ka1 := hbA.keep k1
  have ke0 := (Qt.refl (V.alloc Ob)).drew.cell ka0
  have ke1 := (Qt.refl (V.alloc Ob)).drew.cell ka1
  have HBA := Lib.hid hbA
  have HBX := Lib.hid (⟨hB, bx2⟩ : _ ∧ _)
  have HG := Lib.hid (l04Cyclic s a n c xss S (some ⟨V.heap.size, 0, none⟩) n n (zl n) (V.alloc Ob).drew (((HR.out.below hB).below hbA).qt (Qt.refl _).drew) HN.out (by omega) ((HO.out V).2.rd.qt (Qt.refl _).drew) (zl_len n) (by omega) h1' h4' HY.out)
  clear hbA hB bx2
  go_region_held3 (fun W' => W'.cell? ⟨w.heap.size, 0, none⟩ = some (.int .i64 s) ∧ W'.cell? ⟨w.heap.size, 1, none⟩ = some (.slice a n c))
    (first | (with_reducible exact ⟨k0, k1⟩) | (with_reducible exact ⟨kd0, kd1⟩) | (with_reducible exact ⟨ka0, ka1⟩) | (with_reducible exact ⟨ke0, ke1⟩) | (with_reducible exact ⟨s50, s51⟩) | (with_reducible exact ⟨v50, v51⟩) | (trace_state; fail))
    (first | (go_at_call 72; with_reducible refine HG.out.mono ?_; rintro e w3 ⟨a5, c5, ta5, tc5, m5, rfl, hm1, hm2, o5, o6, b3⟩; have s50 := b3.keep ke0; have s51 := b3.keep ke1; have hb3 := ((HBA.out.qt (Qt.refl _).drew)).next b3; have bx3 := HBX.out.2.below hb3; obtain ⟨hRlt, r0, r1, r2, r3, g0, g1, g2, g3⟩ := bx3; have v5 := chg4 w3 R (.int .i64 s) (.slice a5 xss.length c5) (.int .i64 S) (.slice ta5 (cycRows S (zl n)).length tc5); have v50 := v5.cell s50 (.inl hRw); have v51 := v5.cell s51 (.inl hRw)))
  all_goals
    have hRV := HBX.out.2.lt
    have hAs := HBA.out.size
    have hsV := HBX.out.1.size
    have hB3 := (HBX.out.1.next hb3).chgn v5 (by omega) (by have := hb3.size; omega)
    go_wp2
    refine bodyPost_ret (v := .tuple #[.agg #[.int .i64 s, .slice a5 xss.length c5, .int .i64 S, .slice ta5 (cycRows S (zl n)).length tc5], .int .i64 0]) (by simp [results, Try.results29, go_sem, r0, r1, r2, r3]) rfl ?_
    have hd : (V.alloc Ob).drew.heap.size = V.heap.size + 1 := by simp [World.drew]
    rw [hd] at hm1 o5
    rw [HOK.out]
    exact ⟨a5, c5, ta5, tc5, m5, rfl, by omega, by simp [World.setCell]; omega, (o5.chg v5 (.inr (by omega))).mono (by omega) (Nat.le_refl _), (o6.chg v5 (.inr (by omega))).mono (Nat.le_refl _) (by simp [World.setCell]), hB3⟩

theorem specTrivL {lo hi : Nat} (s : Int) (a : Option Addr) (n c : Nat) (xss : List (List Int)) (sh : Int) (w : World) (h : RdR lo hi w (.slice a n c) xss) (hn : xss.length = n) :
    Calls Try.prog 29 #[.agg #[.int .i64 s, .slice a n c], .int .i64 sh] w fun e w' => ∃ a' c' ta' tc' m, e = .returned (.tuple #[.agg #[.int .i64 (cycOf s xss sh (zl xss.length)).1.1, .slice a' (cycOf s xss sh (zl xss.length)).1.2.1.length c', .int .i64 (cycOf s xss sh (zl xss.length)).1.2.2.1, .slice ta' (cycOf s xss sh (zl xss.length)).1.2.2.2.length tc'], .int .i64 (cycOf s xss sh (zl xss.length)).2]) ∧
      w.heap.size ≤ m ∧ m ≤ w'.heap.size ∧ OwR w.heap.size m w' (.slice a' (cycOf s xss sh (zl xss.length)).1.2.1.length c') (cycOf s xss sh (zl xss.length)).1.2.1 ∧ OwR m w'.heap.size w' (.slice ta' (cycOf s xss sh (zl xss.length)).1.2.2.2.length tc') (cycOf s xss sh (zl xss.length)).1.2.2.2 ∧ Below w.heap.size w w' :=
  specTriv s a n c xss sh w h hn
theorem implTrivL {lo hi : Nat} (s : Int) (a : Option Addr) (n c : Nat) (xss : List (List Int)) (sh : Int) (w : World) (h : RdR lo hi w (.slice a n c) xss) (hn : xss.length = n) :
    Calls Try.prog 31 #[.agg #[.int .i64 s, .slice a n c], .int .i64 sh] w fun e w' => ∃ a' c' ta' tc' m, e = .returned (.tuple #[.agg #[.int .i64 (cycOf s xss sh (zl xss.length)).1.1, .slice a' (cycOf s xss sh (zl xss.length)).1.2.1.length c', .int .i64 (cycOf s xss sh (zl xss.length)).1.2.2.1, .slice ta' (cycOf s xss sh (zl xss.length)).1.2.2.2.length tc'], .int .i64 (cycOf s xss sh (zl xss.length)).2]) ∧
      w.heap.size ≤ m ∧ m ≤ w'.heap.size ∧ OwR w.heap.size m w' (.slice a' (cycOf s xss sh (zl xss.length)).1.2.1.length c') (cycOf s xss sh (zl xss.length)).1.2.1 ∧ OwR m w'.heap.size w' (.slice ta' (cycOf s xss sh (zl xss.length)).1.2.2.2.length tc') (cycOf s xss sh (zl xss.length)).1.2.2.2 ∧ Below w.heap.size w w' :=
  implTriv s a n c xss sh w h hn

end Go.Proofs.Ytpepmgobcdlnoaa
