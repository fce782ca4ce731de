/- RenumberGraph, by the program. -/
import Derived.Test.YtebgbplhcaocoaaRnS
import Derived.Test.YtebgbplhcaocoaaCoreB
import Derived.StillTailTactics
set_option linter.unusedSimpArgs false
set_option linter.unusedVariables false
set_option maxRecDepth 100000
namespace Go.Proofs.Ytebgbplhcaocoaa
open Go.RowKit

/-- what isMap has to say (its proof wants slices.Sorted at slices.Values: a range over a function) -/
def IsMapSaid : Prop := ∀ {lo hi : Nat} (a : Option Addr) (n c : Nat) (t : List Int) (s : Int) (w : World), RdI lo hi w (.slice a n c) t → t.length = n → 1 ≤ s → s ≤ 8 →
    Calls Try.prog 141 #[.slice a n c, .int .i64 s] w fun e w' => e = .returned (.bool (permB s t)) ∧ Below w.heap.size w w'

/-- the edges while they are renumbered -/
def rnS (xs : List Int) (xss : List (List Int)) (k : Nat) : List (Int × Int) := (rnE xs xss).take k ++ (pairs xss).drop k
theorem rnS_zero (xs : List Int) (xss : List (List Int)) : rnS xs xss 0 = pairs xss := by simp [rnS]
theorem rnS_all (xs : List Int) (xss : List (List Int)) : rnS xs xss xss.length = rnE xs xss := by
  unfold rnS
  rw [List.take_of_length_le (by rw [rnE_len]; exact Nat.le_refl _), List.drop_eq_nil_of_le (by rw [pairs_len]; exact Nat.le_refl _), List.append_nil]
theorem rnS_len {xs : List Int} {xss : List (List Int)} {k : Nat} (hk : k ≤ xss.length) : (rnS xs xss k).length = xss.length := by
  unfold rnS
  rw [List.length_append, List.length_take, List.length_drop, rnE_len, pairs_len]
  omega
theorem rnS_get {xs : List Int} {xss : List (List Int)} {k : Nat} (hk : k < xss.length) : (rnS xs xss k).getD k (0, 0) = ((xss.getD k []).getD 0 0, (xss.getD k []).getD 1 0) := by
  rw [← pairs_getD]
  unfold rnS
  have hl : ((rnE xs xss).take k).length = k := by rw [List.length_take, rnE_len]; omega
  simp only [List.getD]
  rw [List.getElem?_append_right (by omega), hl, Nat.sub_self, List.getElem?_drop, Nat.add_zero]
theorem rnE_get {xs : List Int} {xss : List (List Int)} {k : Nat} (hk : k < xss.length) : (rnE xs xss).getD k (0, 0) = (xs.getD ((xss.getD k []).getD 0 0).toNat 0, xs.getD ((xss.getD k []).getD 1 0).toNat 0) := by
  unfold rnE pairs
  simp [List.getD, hk]
theorem rnS_set {xs : List Int} {xss : List (List Int)} {k : Nat} (hk : k < xss.length) : (rnS xs xss k).set k ((rnE xs xss).getD k (0, 0)) = rnS xs xss (k + 1) := by
  have hl : ((rnE xs xss).take k).length = k := by rw [List.length_take, rnE_len]; omega
  unfold rnS
  rw [List.set_append_right _ _ (by omega), hl, Nat.sub_self, List.drop_eq_getElem_cons (show k < (pairs xss).length by rw [pairs_len]; exact hk), List.set_cons_zero, List.take_add_one, List.getElem?_eq_getElem (show k < (rnE xs xss).length by rw [rnE_len]; exact hk), List.append_assoc]
  simp [List.getD, List.getElem?_eq_getElem (show k < (rnE xs xss).length by rw [rnE_len]; exact hk)]

set_option maxHeartbeats 6400000 in
theorem implRn_yes (isMap : IsMapSaid) {lo hi lo1 hi1 : Nat} (S : Nat) (a : Option Addr) (n c : Nat) (xss : List (List Int)) (a1 : Option Addr) (n1 c1 : Nat) (xs : List Int) (w : World) (h : RdR lo hi w (.slice a n c) xss) (hn : xss.length = n) (h1 : RdI lo1 hi1 w (.slice a1 n1 c1) xs) (hl : xs.length = n1) (hg : grB (S : Int) xss = true) (hp : permB (S : Int) xs = true) :
    Calls Try.prog 93 #[.agg #[.int .i64 (S : Int), .slice a n c], .slice a1 n1 c1] w fun e w' => ∃ a' c', e = .returned (.tuple #[.agg #[.int .i64 (S : Int), .slice a' (rnR xs xss).length c'], .int .i64 0]) ∧ OwR w.heap.size w'.heap.size w' (.slice a' (rnR xs xss).length c') (rnR xs xss) ∧ Below w.heap.size w w' := by
  have hb0 : ∀ o o', Below w.heap.size w ((w.alloc o).alloc o') := fun o o' => ((Below.refl _ _).alloc (Nat.le_refl _) o).alloc (by simp) o'
  have hg4 := grB_iff hg
  have hn10 : n ≤ 10 := by omega
  have hpl := permB_len hp
  have hnS : n1 = S := by omega
  have HI := Lib.hid (fun W (hB : Below w.heap.size w W) => implIsGraph (S : Int) a n c xss W (h.below hB) hn)
  rw [hg] at HI
  have HM := Lib.hid (fun W (hB : Below w.heap.size w W) => isMap a1 n1 c1 xs (S : Int) W (h1.below hB) hl hg4.1 hg4.2.1)
  rw [hp] at HM
  have HED := Lib.hid (fun W (hB : Below w.heap.size w W) => edgesOf (S : Int) a n c xss W (h.below hB) hg hn)
  have HE := Lib.hid (fun k (hk : k < n) => show ∃ p q : Nat, (xss.getD k []).getD 0 0 = (p : Int) ∧ (xss.getD k []).getD 1 0 = (q : Int) ∧ p < n1 ∧ q < n1 by
    obtain ⟨q1, q2, q3, q4, q5⟩ := hg4.2.2.2 k (by omega)
    exact ⟨_, _, (Int.toNat_of_nonneg q2).symm, (Int.toNat_of_nonneg q4).symm, by omega, by omega⟩)
  have HXI := Lib.hid (fun k (hk : k < n1) => show I64 (xs.getD k 0) by
    have := permB_in hp k (by omega)
    unfold inR at this
    simp only [Bool.and_eq_true, decide_eq_true_eq] at this
    unfold I64
    omega)
  have HGE := Lib.hid (fun k (hk : k < n) => rnS_get (xs := xs) (xss := xss) (show k < xss.length by omega))
  have HRE := Lib.hid (fun k (hk : k < n) => rnE_get (xs := xs) (xss := xss) (show k < xss.length by omega))
  have HSE := Lib.hid (fun k (hk : k < n) => rnS_set (xs := xs) (xss := xss) (show k < xss.length by omega))
  have HLE := Lib.hid (fun k (hk : k ≤ n) => show (rnS xs xss k).length = n by rw [rnS_len (by omega)]; exact hn)
  have HAL := Lib.hid (show rnS xs xss n = rnE xs xss by rw [← hn]; exact rnS_all xs xss)
  have HL := Lib.hid (fun W (hB : Below w.heap.size w W) => (h1.below hB).at hl)
  have HRR := Lib.hid (show unp (rnE xs xss) = rnR xs xss from rfl)
  rw [← rnS_zero xs xss] at HED
  generalize rnR xs xss = R at HRR ⊢
  clear h hn h1 hl hg hp hg4 hpl hnS isMap
  go_enter Try.func93, Try.ntmps93
  go_wp2_with fail
  refine calls_gen (fun W => RbI w.heap.size (w.heap.size + 1) w W ∧ W.cell? ⟨w.heap.size, 0, none⟩ = some (.int .i64 (S : Int)) ∧ W.cell? ⟨w.heap.size, 1, none⟩ = some (.slice a n c)) ⟨⟨hb0 _ _, by go_simp, by go_simp, by go_simp, by go_simp, by simp, by omega⟩, by go_simp, by go_simp⟩ ?_
  rintro W ⟨hI, k0, k1⟩
  refine (HI.out W hI.below).mono ?_
  rintro e w1 ⟨rfl, b1⟩
  have hI1 := Lib.hid (hI.next b1)
  replace k0 := b1.keep k0
  replace k1 := b1.keep k1
  clear b1 HI hI
  go_wp2_with fail
  refine (HM.out w1 hI1.out.below).mono ?_
  rintro e w2 ⟨rfl, b2⟩
  have hI2 := Lib.hid (hI1.out.next b2)
  replace k0 := b2.keep k0
  replace k1 := b2.keep k1
  clear b2 HM hI1
  go_wp2_with fail
  refine (HED.out w2 hI2.out.below).mono ?_
  rintro e w3 ⟨a3, c3, rfl, o3, b3⟩
  obtain ⟨B, hBB⟩ : ∃ B, B = w.heap.size := ⟨_, rfl⟩
  obtain ⟨y, hy⟩ : ∃ y, y = w.heap.size + 1 := ⟨_, rfl⟩
  obtain ⟨L, hL⟩ : ∃ L, L = w2.heap.size := ⟨_, rfl⟩
  have HI3 := Lib.hid (⟨o3, hI2.out.next b3, b3.keep k0, hI2.out.ylt⟩ : _ ∧ _ ∧ _ ∧ _)
  rw [← hL, ← hy, ← hBB] at HI3
  have HEQ := Lib.hid (⟨hBB, hy⟩ : _ ∧ _)
  rw [← hy, ← hBB]
  clear o3 b3 k0 k1 hI2 HED hBB hy hL
  go_wp2
  go_loopw [23] (fun v wr => ∃ k : Nat, k ≤ n ∧ v = .int .i64 k ∧ wr.ownsRow L 83 2 (.slice a3 n c3) n (flat (rnS xs xss k)) ∧ RbI B y w wr ∧ wr.cell? ⟨B, 0, none⟩ = some (.int .i64 (S : Int))) (fun v _ => n - (intOf v).toNat)
  case atStart => exact ⟨0, Nat.zero_le _, rfl, HI3.out.1, HI3.out.2.1, HI3.out.2.2.1⟩
  case round =>
    have HYL := Lib.hid HI3.out.2.2.2
    clear HI3
    obtain ⟨k, hk, rfl, hO, hI, k0⟩ := hrel
    obtain ⟨U, rfl⟩ : ∃ U, U = wr := ⟨_, rfl⟩
    by_cases hlt : k < n
    · obtain ⟨g, cap, e1, hg1, hg2⟩ := hO.form (by omega)
      simp only [Value.slice.injEq] at e1
      obtain ⟨rfl, -, rfl⟩ := e1
      obtain ⟨p, q, ep, eq, hp1, hq1⟩ := HE.out k hlt
      have hlU := HL.out U (by rw [← HEQ.out.1]; exact hI.below)
      obtain ⟨lb, loff, rfl, l1⟩ := hlU p hp1
      obtain ⟨lb', loff', hle, l2⟩ := hlU q hq1
      simp only [Option.some.injEq, Addr.mk.injEq, and_true] at hle
      obtain ⟨rfl, rfl⟩ := hle
      have hge := HGE.out k hlt
      have hre := HRE.out k hlt
      have hse := HSE.out k hlt
      rw [ep, eq] at hge
      rw [ep, eq, Int.toNat_natCast, Int.toNat_natCast] at hre
      rw [hre] at hse
      generalize xs.getD p 0 = x0 at l1 hse
      generalize xs.getD q 0 = x1 at l2 hse
      have hfg := flat_getE (rnS xs xss k) k (by rw [HLE.out k hk]; exact hlt)
      rw [hge] at hfg
      have hfs := flat_set (rnS xs xss k) k (x0, x1) (by rw [HLE.out k hk]; exact hlt)
      rw [hse] at hfs
      dsimp only at hfg hfs
      have u0 := (hO.cellAt (k * 2) (by omega)).trans hfg.1
      have u1 := (hO.cellAt (k * 2 + 1) (by omega)).trans hfg.2
      have f0 := hO.frozenAt (k * 2)
      have f1 := hO.frozenAt (k * 2 + 1)
      obtain ⟨V, hV⟩ : ∃ V, V = U.alloc (.cells #[.int .i64 (p : Int), .int .i64 (q : Int)] 83) := ⟨_, rfl⟩
      have hbV : Below U.heap.size U V := by rw [hV]; exact (Below.refl _ _).alloc (Nat.le_refl _) _
      have v0 : V.cell? ⟨U.heap.size, 0, none⟩ = some (.int .i64 (p : Int)) := by rw [hV]; go_simp
      have v1 : V.cell? ⟨U.heap.size, 1, none⟩ = some (.int .i64 (q : Int)) := by rw [hV]; go_simp
      have hbd := hbV.drew
      have hOd := ownsRow_chg hO (hbd.chg 0 0) (fun _ _ => .inr (Nat.zero_le _))
      have hst := ((hOd.stored (k * 2) (.int .i64 x0)).1.stored (k * 2 + 1) (.int .i64 x1)).1
      rw [hfs] at hst
      have hch : Chg g (g + 1) U ((V.drew.setCell ⟨g, k * 2, none⟩ (.int .i64 x0)).setCell ⟨g, k * 2 + 1, none⟩ (.int .i64 x1)) := ((hbd.chg g (g + 1)).setCell (p := ⟨g, k * 2, none⟩) ⟨Nat.le_refl _, Nat.lt_succ_self _⟩ _).setCell (p := ⟨g, k * 2 + 1, none⟩) ⟨Nat.le_refl _, Nat.lt_succ_self _⟩ _
      have hyL := HYL.out
      have hBy := hI.by0
      have HF := Lib.hid (⟨hst, hI.chg hch (by omega), hch.cell k0 (.inl (show B < g by omega))⟩ : _ ∧ _ ∧ _)
      have d0 : V.drew.cell? ⟨g, k * 2, none⟩ = _ := hbd.keep u0
      have d1 : V.drew.cell? ⟨g, k * 2 + 1, none⟩ = _ := hbd.keep u1
      have d2 : V.drew.frozen? ⟨g, k * 2, none⟩ = false := hbd.keepf hg2 f0
      have d3 : V.drew.frozen? ⟨g, k * 2 + 1, none⟩ = false := hbd.keepf hg2 f1
      have m1 := hbV.keep l1
      have m2 := hbV.keep l2
      have e0 := hbV.keep u0
      have e1 := hbV.keep u1
      have e2 : V.frozen? ⟨g, k * 2, none⟩ = false := d2
      have e3 : V.frozen? ⟨g, k * 2 + 1, none⟩ = false := d3
      have hp0 : (0 : Int) ≤ (p : Int) ∧ (p : Int) < (n1 : Int) := by omega
      have hq0 : (0 : Int) ≤ (q : Int) ∧ (q : Int) < (n1 : Int) := by omega
      obtain ⟨hp0, hp2⟩ := hp0
      obtain ⟨hq0, hq2⟩ := hq0
      have hkn : (k : Int) < (n : Int) := by omega
      clear hO hI k0 hst hch hbd hbV hOd hyL hBy hfg hfs hge hre hse ep eq hlU l1 l2 f0 f1 hp1 hq1
      go_wp2
      rw [← hV]
      clear hV u0 u1
      go_still_tail 14, (by kernel_rfl)
      change wpList _ _ _ _ _ V.drew
      clear m1 m2 e0 e1 e2 e3 v0 v1
      generalize V.drew = V2 at HF d0 d1 d2 d3 ⊢
      go_wp2
      go_roundw
      case rel => exact ⟨k+1, by omega, by go_num, HF.out⟩
      case measure => simp [intOf]; omega
    · obtain rfl : k = n := by omega
      rw [HAL.out] at hO
      have hE := RdE.mk hO (by rw [← HAL.out]; exact HLE.out k (Nat.le_refl _))
      have HGW := Lib.hid (graphWith (S : Int) a3 k c3 (rnE xs xss) U hE (by rw [← HAL.out]; exact HLE.out k (Nat.le_refl _)) (by omega) (fun j hj => by
        obtain ⟨p, q, ep, eq, hp1, hq1⟩ := HE.out j hj
        rw [HRE.out j hj, ep, eq, Int.toNat_natCast, Int.toNat_natCast]
        exact ⟨HXI.out p hp1, HXI.out q hq1⟩))
      rw [HRR.out] at HGW
      have HI5 := Lib.hid hI
      clear hO hE hI
      go_wp2_with fail
      refine HGW.out.mono ?_
      rintro e w5 ⟨a5, c5, rfl, o5, b5⟩
      have hR5 := HI5.out.next b5
      obtain ⟨y0, y1, f0, f1, ylt, hB5⟩ := (⟨hR5.y0, hR5.y1, hR5.f0, hR5.f1, hR5.ylt, hR5.below⟩ : _ ∧ _ ∧ _ ∧ _ ∧ _ ∧ _)
      have hyU : y < U.heap.size := HI5.out.ylt
      have HQ := Lib.hid (⟨o5, hB5, HI5.out.below.size, b5.size, hR5.by0⟩ : _ ∧ Below B w w5 ∧ _ ∧ _ ∧ B ≤ y)
      clear o5 b5 hB5 hR5 HGW HI5 k0
      go_wp2
      rw [← HEQ.out.1]
      refine bodyPost_ret (v := .tuple #[.agg #[.int .i64 (S : Int), .slice a5 R.length c5], .int .i64 0]) (by simp [results, Try.results93, go_sem, y0, y1, f0, f1]) rfl ⟨a5, c5, rfl, ?_, ?_⟩
      · have hs := HQ.out.2.2.1
        have hBy := HQ.out.2.2.2.2
        refine (OwR.chg (lo' := y) (hi' := y + 1) HQ.out.1 ?_ (.inr hyU)).mono (by omega) (by simp [World.setCell])
        repeat (refine Chg.setCell ?_ (by constructor <;> simp <;> omega) _)
        exact Chg.refl _ _ _
      · have hBy := HQ.out.2.2.2.2
        repeat (refine Below.setCell ?_ (by simp <;> omega) _)
        exact HQ.out.2.1

set_option maxHeartbeats 3200000 in
theorem implRn (isMap : IsMapSaid) {lo hi lo1 hi1 : Nat} (s : Int) (a : Option Addr) (n c : Nat) (xss : List (List Int)) (a1 : Option Addr) (n1 c1 : Nat) (xs : List Int) (w : World) (h : RdR lo hi w (.slice a n c) xss) (hn : xss.length = n) (h1 : RdI lo1 hi1 w (.slice a1 n1 c1) xs) (hl : xs.length = n1) :
    Calls Try.prog 93 #[.agg #[.int .i64 s, .slice a n c], .slice a1 n1 c1] w fun e w' => ∃ a' c', e = .returned (.tuple #[.agg #[.int .i64 (rnOf s xss xs).1.1, .slice a' (rnOf s xss xs).1.2.length c'], .int .i64 (rnOf s xss xs).2]) ∧ OwR w.heap.size w'.heap.size w' (.slice a' (rnOf s xss xs).1.2.length c') (rnOf s xss xs).1.2 ∧ Below w.heap.size w w' := by
  have hb0 : ∀ o o', Below w.heap.size w ((w.alloc o).alloc o') := fun o o' => ((Below.refl _ _).alloc (Nat.le_refl _) o).alloc (by simp) o'
  have HI := Lib.hid (fun W (hB : Below w.heap.size w W) => implIsGraph s a n c xss W (h.below hB) hn)
  cases hg : grB s xss with
  | false =>
    rw [hg] at HI
    have hno : rnOf s xss xs = ((0, []), 1) := by unfold rnOf; rw [if_neg (by rw [hg]; simp)]
    rw [hno]
    clear h hn h1 hl hg hno isMap
    go_enter Try.func93, Try.ntmps93
    go_wp2_with fail
    refine calls_gen (fun W => RbI w.heap.size (w.heap.size + 1) w W) ⟨hb0 _ _, by go_simp, by go_simp, by go_simp, by go_simp, by simp, by omega⟩ ?_
    rintro W hI
    refine (HI.out W hI.below).mono ?_
    rintro e w1 ⟨rfl, b1⟩
    have hI1 := hI.next b1
    obtain ⟨y0, y1, f0, f1, ylt, hB5⟩ := (⟨hI1.y0, hI1.y1, hI1.f0, hI1.f1, hI1.ylt, hI1.below⟩ : _ ∧ _ ∧ _ ∧ _ ∧ _ ∧ _)
    clear b1 HI hI hI1
    go_wp2
    refine bodyPost_ret (v := .tuple #[.agg #[.int .i64 0, .slice none 0 0], .int .i64 1]) (by simp [results, Try.results93, go_sem, y0, y1, f0, f1]) rfl ⟨none, 0, rfl, OwR.nil (World.ownsRow_nil _ _ _ _) (Nat.le_refl _), ?_⟩
    repeat (refine Below.setCell ?_ (by simp <;> omega) _)
    exact hB5
  | true =>
  rw [hg] at HI
  have hg4 := grB_iff hg
  obtain ⟨S, hS⟩ : ∃ S : Nat, s = (S : Int) := ⟨s.toNat, by omega⟩
  subst hS
  have HM := Lib.hid (fun W (hB : Below w.heap.size w W) => isMap a1 n1 c1 xs (S : Int) W (h1.below hB) hl hg4.1 hg4.2.1)
  cases hp : permB (S : Int) xs with
  | false =>
    rw [hp] at HM
    have hno : rnOf (S : Int) xss xs = ((0, []), 2) := by unfold rnOf; rw [if_pos hg, if_neg (by rw [hp]; simp)]
    rw [hno]
    clear h hn h1 hl hg hg4 hno hp isMap
    go_enter Try.func93, Try.ntmps93
    go_wp2_with fail
    refine calls_gen (fun W => RbI w.heap.size (w.heap.size + 1) w W ∧ W.cell? ⟨w.heap.size, 0, none⟩ = some (.int .i64 (S : Int))) ⟨⟨hb0 _ _, by go_simp, by go_simp, by go_simp, by go_simp, by simp, by omega⟩, by go_simp⟩ ?_
    rintro W ⟨hI, k0⟩
    refine (HI.out W hI.below).mono ?_
    rintro e w1 ⟨rfl, b1⟩
    have hI1 := Lib.hid (hI.next b1)
    replace k0 := b1.keep k0
    clear b1 HI hI
    go_wp2_with fail
    refine (HM.out w1 hI1.out.below).mono ?_
    rintro e w2 ⟨rfl, b2⟩
    have hI2 := hI1.out.next b2
    obtain ⟨y0, y1, f0, f1, ylt, hB5⟩ := (⟨hI2.y0, hI2.y1, hI2.f0, hI2.f1, hI2.ylt, hI2.below⟩ : _ ∧ _ ∧ _ ∧ _ ∧ _ ∧ _)
    clear b2 HM hI1 hI2 k0
    go_wp2
    refine bodyPost_ret (v := .tuple #[.agg #[.int .i64 0, .slice none 0 0], .int .i64 2]) (by simp [results, Try.results93, go_sem, y0, y1, f0, f1]) rfl ⟨none, 0, rfl, OwR.nil (World.ownsRow_nil _ _ _ _) (Nat.le_refl _), ?_⟩
    repeat (refine Below.setCell ?_ (by simp <;> omega) _)
    exact hB5
  | true =>
    have hyes : rnOf (S : Int) xss xs = (((S : Int), rnR xs xss), 0) := by unfold rnOf; rw [if_pos hg, if_pos hp]
    rw [hyes]
    exact implRn_yes isMap S a n c xss a1 n1 c1 xs w h hn h1 hl hg hp

end Go.Proofs.Ytebgbplhcaocoaa
