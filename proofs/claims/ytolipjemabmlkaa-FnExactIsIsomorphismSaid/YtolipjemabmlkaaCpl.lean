/- ComplementOf, both sides. -/
import Derived.Test.YtolipjemabmlkaaSpOf
import Derived.Test.YtolipjemabmlkaaSimI
import Derived.Test.YtolipjemabmlkaaCoreG
set_option linter.unusedSimpArgs false
set_option linter.unusedVariables false
set_option maxRecDepth 100000
namespace Go.Proofs.Ytolipjemabmlkaa
open Go.RowKit

/-- of the rows those before k, and of the row k the numbers before m, are turned -/
def cpS (f : Nat → Nat → Int) (k m : Nat) : Nat → Nat → Int := fun i j => if i < k ∨ (i = k ∧ j < m) then 1 - f i j else f i j
def cpF (f : Nat → Nat → Int) : Nat → Nat → Int := fun i j => 1 - f i j
theorem cpS_start (f : Nat → Nat → Int) : cpS f 0 0 = f := by
  funext i j; unfold cpS; rw [if_neg (by omega)]
theorem cpS_at (f : Nat → Nat → Int) (k m : Nat) : cpS f k m k m = f k m := by unfold cpS; rw [if_neg (by omega)]
theorem cpS_put (f : Nat → Nat → Int) (k m : Nat) : put (cpS f k m) k m (1 - f k m) = cpS f k (m + 1) := by
  funext i j
  unfold put cpS
  by_cases h : i = k ∧ j = m
  · obtain ⟨rfl, rfl⟩ := h
    rw [if_pos ⟨rfl, rfl⟩, if_pos (by omega)]
  · rw [if_neg h]
    by_cases h2 : i < k ∨ (i = k ∧ j < m)
    · rw [if_pos h2, if_pos (by omega)]
    · rw [if_neg h2, if_neg (by omega)]
theorem cpS_row (f : Nat → Nat → Int) (N k : Nat) : tab N (cpS f k N) = tab N (cpS f (k + 1) 0) := tab_congr fun i j hi hj => by
  unfold cpS
  by_cases h : i < k ∨ (i = k ∧ j < N)
  · rw [if_pos h, if_pos (by omega)]
  · rw [if_neg h, if_neg (by omega)]
theorem cpS_all (f : Nat → Nat → Int) (N : Nat) : tab N (cpS f N 0) = tab N (cpF f) := tab_congr fun i j hi hj => by
  unfold cpS cpF
  rw [if_pos (by omega)]

def cplOf (s : Int) (xss : List (List Int)) : (Int × List (List Int)) × Int := if grB s xss = true then (if simB (adF xss) s.toNat = true then smgOf (cpF (adF xss)) s.toNat else ((0, []), 5)) else ((0, []), 1)
theorem cplOf_no {s : Int} {xss : List (List Int)} (h : grB s xss = false) : cplOf s xss = ((0, []), 1) := by unfold cplOf; rw [h]; rfl
theorem cplOf_st {S : Nat} {xss : List (List Int)} (h : grB (S : Int) xss = true) (h2 : simB (adF xss) S = false) : cplOf (S : Int) xss = ((0, []), 5) := by unfold cplOf; rw [if_pos h, Int.toNat_natCast, h2]; rfl
theorem cplOf_yes {S : Nat} {xss : List (List Int)} (h : grB (S : Int) xss = true) (h2 : simB (adF xss) S = true) : cplOf (S : Int) xss = smgOf (cpF (adF xss)) S := by unfold cplOf; rw [if_pos h, Int.toNat_natCast, h2]; rfl
theorem cplOf_lens (s : Int) (xss : List (List Int)) : lens (cplOf s xss).1.2 ≤ 1000 := by
  unfold cplOf
  split
  · split
    · exact smgOf_lens _ _
    · simp [lens]
  · simp [lens]

/-- the result's box, and what lies below -/
structure RbI (B y : Nat) (w W : World) : Prop where
  below : Below B w W
  y0 : W.cell? ⟨y, 0, none⟩ = some (.int .i64 0)
  y1 : W.cell? ⟨y, 1, none⟩ = some (.slice none 0 0)
  f0 : W.frozen? ⟨y, 0, none⟩ = false
  f1 : W.frozen? ⟨y, 1, none⟩ = false
  ylt : y < W.heap.size
  by0 : B ≤ y
theorem RbI.next {B y : Nat} {w W W' : World} (h : RbI B y w W) (b : Below W.heap.size W W') : RbI B y w W' := by
  have h1 := h.ylt
  have h2 := h.by0
  exact ⟨h.below.trans (b.mono (by omega)), b.keep h.y0, b.keep h.y1, b.keepf h1 h.f0, b.keepf h1 h.f1, Nat.lt_of_lt_of_le h1 b.size, h2⟩
theorem RbI.chg {B y lo hi : Nat} {w W W' : World} (h : RbI B y w W) (b : Chg lo hi W W') (hl : y < lo) : RbI B y w W' := by
  have h1 := h.ylt
  have h2 := h.by0
  exact ⟨h.below.chgn b (by omega) (by omega), b.cell h.y0 (.inl hl), b.cell h.y1 (.inl hl), b.frozen h1 (.inl hl) h.f0, b.frozen h1 (.inl hl) h.f1, Nat.lt_of_lt_of_le h1 b.size, h2⟩

set_option maxHeartbeats 6400000 in
theorem implCpl {lo hi : Nat} (s : Int) (a : Option Addr) (n c : Nat) (xss : List (List Int)) (w : World) (h : RdR lo hi w (.slice a n c) xss) (hn : xss.length = n) :
    Calls Try.prog 43 #[.agg #[.int .i64 s, .slice a n c]] w fun e w' => ∃ a' c', e = .returned (.tuple #[.agg #[.int .i64 (cplOf s xss).1.1, .slice a' (cplOf s xss).1.2.length c'], .int .i64 (cplOf s xss).2]) ∧ OwR w.heap.size w'.heap.size w' (.slice a' (cplOf s xss).1.2.length c') (cplOf s xss).1.2 ∧ Below w.heap.size w w' := by
  have hb0 : ∀ o o', Below w.heap.size w ((w.alloc o).alloc o') := fun o o' => ((Below.refl _ _).alloc (Nat.le_refl _) o).alloc (by simp) o'
  cases hg : grB s xss with
  | false =>
    have HR := Lib.hid (fun W (hB : Below w.heap.size w W) => implAdj s a n c xss W (h.below hB) hn)
    have hno : adjOf s xss = ([], 1) := by unfold adjOf; rw [hg]; rfl
    rw [hno] at HR
    rw [cplOf_no hg]
    clear h hn hg hno
    go_enter Try.func43, Try.ntmps43
    go_wp2_with fail
    refine calls_gen (fun W => RbI w.heap.size (w.heap.size + 1) w W) ⟨hb0 _ _, by go_simp, by go_simp, by go_simp, by go_simp, by simp, by omega⟩ ?_
    rintro W hI
    refine (HR.out W hI.below).mono ?_
    rintro e w1 ⟨a1, c1, rfl, o1, b1⟩
    have hI1 := hI.next b1
    obtain ⟨y0, y1, f0, f1, ylt, hB5⟩ := (⟨hI1.y0, hI1.y1, hI1.f0, hI1.f1, hI1.ylt, hI1.below⟩ : _ ∧ _ ∧ _ ∧ _ ∧ _ ∧ _)
    clear o1 b1 HR hI hI1
    go_wp2
    refine bodyPost_ret (v := .tuple #[.agg #[.int .i64 0, .slice none 0 0], .int .i64 1]) (by simp [results, Try.results43, go_sem, y0, y1, f0, f1]) rfl ⟨none, 0, rfl, OwR.nil (World.ownsRow_nil _ _ _ _) (Nat.le_refl _), ?_⟩
    repeat (refine Below.setCell ?_ (by simp <;> omega) _)
    exact hB5
  | true =>
  have hg4 := grB_iff hg
  obtain ⟨S, hS⟩ : ∃ S : Nat, s = (S : Int) := ⟨s.toNat, by omega⟩
  subst hS
  have HA := Lib.hid (fun W (hB : Below w.heap.size w W) => implAdj_yes S a n c xss W (h.below hB) hn hg)
  have HN := Lib.hid hn
  have HAT := Lib.hid (show tab S (fun i j => adS (pairs xss) xss.length i j) = tab S (adF xss) from rfl)
  have HIS := Lib.hid (fun (a1 : Option Addr) (c1 lo1 hi1 : Nat) (W : World) (hW : RdR lo1 hi1 W (.slice a1 S c1) (tab S (adF xss))) => isSimpleP S (adF xss) a1 c1 W hW (by omega) (fun v _ => diag_ok (s := (S : Int)) v))
  have hS8 : S ≤ 8 := by omega
  have HSM := Lib.hid (fun (a1 : Option Addr) (c1 lo1 hi1 : Nat) (W : World) (hW : RdR lo1 hi1 W (.slice a1 S c1) (tab S (cpF (adF xss)))) => simpleGraph S (cpF (adF xss)) a1 c1 W hW hS8)
  have H01 := Lib.hid (fun (hs : simB (adF xss) S = true) i j (hi : i < S) (hj : j < S) => simB_bit hg hs hi hj)
  obtain ⟨R, hRR⟩ : ∃ R, R = cplOf (S : Int) xss := ⟨_, rfl⟩
  have HST := Lib.hid (fun (hs : simB (adF xss) S = false) => hRR.trans (cplOf_st hg hs))
  have HYS := Lib.hid (fun (hs : simB (adF xss) S = true) => hRR.trans (cplOf_yes hg hs))
  rw [← hRR]
  clear hRR
  generalize adF xss = f at HAT HIS HSM H01 HST HYS
  clear h hn hg hg4
  go_enter Try.func43, Try.ntmps43
  go_wp2_with fail
  refine calls_gen (fun W => RbI w.heap.size (w.heap.size + 1) w W) ⟨hb0 _ _, by go_simp, by go_simp, by go_simp, by go_simp, by simp, by omega⟩ ?_
  rintro W hI
  refine (HA.out W hI.below).mono ?_
  rintro e w1 ⟨a9, c9, rfl, o1, b1⟩
  have ho : OwR W.heap.size w1.heap.size w1 (.slice a9 S c9) (tab S f) := by
    rw [← HN.out, HAT.out] at o1
    exact o1
  have HI1 := Lib.hid (⟨hI.next b1, ho, hI.ylt⟩ : _ ∧ _ ∧ _)
  have HIS1 := Lib.hid (HIS.out a9 c9 _ _ w1 ho.rd)
  clear hI o1 b1 ho HA HIS HAT HN
  go_wp2_with fail
  refine HIS1.out.mono ?_
  rintro e w2 ⟨rfl, q2⟩
  obtain ⟨hI1, ho, hyW⟩ := HI1.out
  have hI2 := hI1.next q2.below
  have ho2 := ho.qt q2
  have hws := Lib.hid q2.below.size
  clear q2 hI1 ho HIS1 HI1
  cases hsb : simB f S with
  | false =>
    have hR := HST.out hsb
    subst hR
    obtain ⟨y0, y1, f0, f1, ylt, hB5⟩ := (⟨hI2.y0, hI2.y1, hI2.f0, hI2.f1, hI2.ylt, hI2.below⟩ : _ ∧ _ ∧ _ ∧ _ ∧ _ ∧ _)
    clear hI2 ho2 HSM
    go_wp2
    refine bodyPost_ret (v := .tuple #[.agg #[.int .i64 0, .slice none 0 0], .int .i64 5]) (by simp [results, Try.results43, go_sem, y0, y1, f0, f1]) rfl ⟨none, 0, rfl, OwR.nil (World.ownsRow_nil _ _ _ _) (Nat.le_refl _), ?_⟩
    repeat (refine Below.setCell ?_ (by simp <;> omega) _)
    exact hB5
  | true =>
  replace H01 := Lib.hid (H01.out hsb)
  have hR := HYS.out hsb
  rw [← hR] at HSM
  clear hsb hR HST HYS
  obtain ⟨L, hL⟩ : ∃ L, L = W.heap.size := ⟨_, rfl⟩
  obtain ⟨H1, hH⟩ : ∃ H, H = w1.heap.size := ⟨_, rfl⟩
  obtain ⟨B, hBB⟩ : ∃ B, B = w.heap.size := ⟨_, rfl⟩
  obtain ⟨y, hy⟩ : ∃ y, y = w.heap.size + 1 := ⟨_, rfl⟩
  have hHs : H1 ≤ w2.heap.size := by rw [hH]; exact hws.out
  rw [← hL, ← hH] at ho2
  rw [← hL, ← hy] at hyW
  rw [← hy, ← hBB] at hI2
  have HYL := Lib.hid hyW
  have HO := Lib.hid (⟨by rw [cpS_start]; exact ho2, hI2, hHs⟩ : OwR L H1 w2 (.slice a9 S c9) (tab S (cpS f 0 0)) ∧ _ ∧ _)
  have HEQ := Lib.hid (⟨hBB, hy⟩ : _ ∧ _)
  rw [← hy]
  clear ho2 hI2 hHs hyW hL hH hBB hy
  go_wp2
  go_loopw [24] (fun v wr => ∃ k : Nat, k ≤ S ∧ v = .int .i64 k ∧ OwR L H1 wr (.slice a9 S c9) (tab S (cpS f k 0)) ∧ RbI B y w wr ∧ H1 ≤ wr.heap.size) (fun v _ => S - (intOf v).toNat)
  case atStart => exact ⟨0, Nat.zero_le _, rfl, HO.out.1, HO.out.2.1, HO.out.2.2⟩
  case round =>
    clear HO
    obtain ⟨k, hk, rfl, hO, hR, hH⟩ := hrel
    obtain ⟨U, rfl⟩ : ∃ U, U = wr := ⟨_, rfl⟩
    by_cases hlt : k < S
    · obtain ⟨g, c', b, cb, e1, e2, _, _, _, _, _, _, _, _, hgb, _⟩ := hO.store (k := k) (j := 0) (by rw [tab_len]; exact hlt) (by rw [tab_rlen _ hlt]; omega)
      rw [tab_rlen _ hlt] at e2
      have e1a : a9 = some ⟨g, 0, none⟩ := by injection e1
      clear e1
      subst e1a
      have HO := Lib.hid (⟨hO, e2, hR, hH⟩ : _ ∧ _ ∧ _ ∧ _)
      have hkn : (k : Int) < (S : Int) := by omega
      clear hO hR hH
      go_wp2
      clear e2
      go_loopw [30] (fun v wr2 => ∃ m : Nat, m ≤ S ∧ v = .int .i64 m ∧ OwR L H1 wr2 (.slice (some ⟨g, 0, none⟩) S c9) (tab S (cpS f k m)) ∧ wr2.cell? ⟨g, k, none⟩ = some (.slice (some ⟨b, 0, none⟩) S cb) ∧ RbI B y w wr2 ∧ H1 ≤ wr2.heap.size) (fun v _ => S - (intOf v).toNat)
      case atStart => exact ⟨0, Nat.zero_le _, rfl, HO.out⟩
      case round =>
        rename_i hrel
        clear HO
        obtain ⟨m, hm, rfl, hO, e2, hR, hH⟩ := hrel
        by_cases hlm : m < S
        · obtain ⟨g3, c3, b3, cb3, x1, x2, x3, x4, x5, x6, x7, _, _, _, _, _, x8⟩ := hO.store (k := k) (j := m) (by rw [tab_len]; exact hlt) (by rw [tab_rlen _ hlt]; exact hlm)
          rw [tab_rlen _ hlt] at x2
          rw [tab_get _ hlt hlm, cpS_at] at x3
          have x1a : some (⟨g, 0, none⟩ : Addr) = some ⟨g3, 0, none⟩ := by injection x1
          clear x1
          simp only [Option.some.injEq, Addr.mk.injEq, and_true] at x1a
          subst x1a
          rw [e2] at x2
          simp only [Option.some.injEq, Value.slice.injEq, Addr.mk.injEq, and_true, true_and] at x2
          obtain ⟨rfl, rfl⟩ := x2
          have h01 := H01.out k m hlt hlm
          have hst := x8 (1 - f k m) (by unfold I64; omega)
          rw [tab_set _ _ hlt hlm, cpS_put] at hst
          have e2s : (wr.setCell ⟨b, m, none⟩ (.int .i64 (1 - f k m))).cell? ⟨g, k, none⟩ = some (.slice (some ⟨b, 0, none⟩) S cb) := by
            rw [World.cell?_setCell_other _ _ _ _ (by intro e9; have e8 := congrArg Addr.block e9; dsimp only at e8; omega)]; exact e2
          have hR2 : RbI B y w (wr.setCell ⟨b, m, none⟩ (.int .i64 (1 - f k m))) := hR.chg ((Chg.refl b (b+1) wr).setCell (p := ⟨b, m, none⟩) ⟨Nat.le_refl _, Nat.lt_succ_self _⟩ _) (Nat.lt_of_lt_of_le HYL.out x5)
          have HF := Lib.hid (⟨hst, e2s, hR2, by rw [World.size_setCell]; exact hH⟩ : _ ∧ _ ∧ _ ∧ H1 ≤ (wr.setCell ⟨b, m, none⟩ (.int .i64 (1 - f k m))).heap.size)
          have hmn : (m : Int) < (S : Int) := by omega
          generalize f k m = z at *
          have w1' : IntKind.i64.wrap (1 - z) = 1 - z := IntWalk.i64_in _ (by omega)
          have w2' : wrap64 (1 - z) = 1 - z := IntWalk.wrap64_in _ (by clear w1'; omega)
          clear hst e2s hR2 h01 x5 x6 x7 x8 hO hR hH e2
          go_wp2
          clear w1' w2'
          go_roundw
          case rel => exact ⟨m+1, by omega, by go_num, HF.out⟩
          case measure => simp [intOf]; omega
        · obtain rfl : m = S := by omega
          rw [cpS_row] at hO
          have HF := Lib.hid (⟨hO, hR, hH⟩ : _ ∧ _ ∧ _)
          clear hO hR hH e2
          go_wp2
          go_roundw
          case rel => exact ⟨k+1, by omega, by go_num, HF.out⟩
          case measure => simp [intOf]; omega
    · obtain rfl : k = S := by omega
      rw [cpS_all] at hO
      have HC1 := Lib.hid (HSM.out a9 c9 _ _ U hO.rd)
      have HR := Lib.hid (⟨hR, hH⟩ : _ ∧ _)
      clear hO hR hH HSM
      go_wp2_with fail
      refine HC1.out.mono ?_
      rintro e w5 ⟨a5, c5, rfl, o5, b5⟩
      have hR5 := HR.out.1.next b5
      obtain ⟨y0, y1, f0, f1, ylt, hB5⟩ := (⟨hR5.y0, hR5.y1, hR5.f0, hR5.f1, hR5.ylt, hR5.below⟩ : _ ∧ _ ∧ _ ∧ _ ∧ _ ∧ _)
      have hyU : y < U.heap.size := HR.out.1.ylt
      have HQ := Lib.hid (⟨o5, hB5, b5.size, hR5.by0, HR.out.1.below.size⟩ : _ ∧ Below B w w5 ∧ _ ∧ B ≤ y ∧ _)
      clear o5 b5 hB5 hR5 HC1 HR
      go_wp2
      rw [← HEQ.out.1]
      refine bodyPost_ret (v := .tuple #[.agg #[.int .i64 R.1.1, .slice a5 R.1.2.length c5], .int .i64 R.2]) (by simp [results, Try.results43, go_sem, y0, y1, f0, f1]) rfl ⟨a5, c5, rfl, ?_, ?_⟩
      · have hBy := HQ.out.2.2.2.1
        refine (OwR.chg (lo' := y) (hi' := y + 1) HQ.out.1 ?_ (.inr hyU)).mono (by omega) (by simp [World.setCell])
        repeat (refine Chg.setCell ?_ (by constructor <;> simp <;> omega) _)
        exact Chg.refl _ _ _
      · have hBy := HQ.out.2.2.2.1
        repeat (refine Below.setCell ?_ (by simp <;> omega) _)
        exact HQ.out.2.1

set_option maxHeartbeats 6400000 in
theorem specCpl {lo hi : Nat} (s : Int) (a : Option Addr) (n c : Nat) (xss : List (List Int)) (w : World) (h : RdR lo hi w (.slice a n c) xss) (hn : xss.length = n) :
    Calls Try.prog 42 #[.agg #[.int .i64 s, .slice a n c]] w fun e w' => ∃ a' c', e = .returned (.tuple #[.agg #[.int .i64 (cplOf s xss).1.1, .slice a' (cplOf s xss).1.2.length c'], .int .i64 (cplOf s xss).2]) ∧ OwR w.heap.size w'.heap.size w' (.slice a' (cplOf s xss).1.2.length c') (cplOf s xss).1.2 ∧ Below w.heap.size w w' := by
  have hb0 : ∀ o o', Below w.heap.size w ((w.alloc o).alloc o') := fun o o' => ((Below.refl _ _).alloc (Nat.le_refl _) o).alloc (by simp) o'
  have HI := Lib.hid (fun W (hB : Below w.heap.size w W) => l01Is s a n c xss W (h.below hB) hn)
  cases hg : grB s xss with
  | false =>
    rw [hg] at HI
    rw [cplOf_no hg]
    clear h hn hg
    go_enter Try.func42, Try.ntmps42
    go_wp2_with fail
    refine calls_gen (fun W => RbI w.heap.size (w.heap.size + 1) w W) ⟨hb0 _ _, by go_simp, by go_simp, by go_simp, by go_simp, by simp, by omega⟩ ?_
    rintro W hI
    refine (HI.out W hI.below).mono ?_
    rintro e w1 ⟨rfl, b1⟩
    have hI1 := hI.next b1
    obtain ⟨y0, y1, f0, f1, ylt, hB5⟩ := (⟨hI1.y0, hI1.y1, hI1.f0, hI1.f1, hI1.ylt, hI1.below⟩ : _ ∧ _ ∧ _ ∧ _ ∧ _ ∧ _)
    clear b1 HI hI hI1
    go_wp2
    refine bodyPost_ret (v := .tuple #[.agg #[.int .i64 0, .slice none 0 0], .int .i64 1]) (by simp [results, Try.results42, go_sem, y0, y1, f0, f1]) rfl ⟨none, 0, rfl, OwR.nil (World.ownsRow_nil _ _ _ _) (Nat.le_refl _), ?_⟩
    repeat (refine Below.setCell ?_ (by simp <;> omega) _)
    exact hB5
  | true =>
  rw [hg] at HI
  have hg4 := grB_iff hg
  obtain ⟨S, hS⟩ : ∃ S : Nat, s = (S : Int) := ⟨s.toNat, by omega⟩
  subst hS
  have HA := Lib.hid (fun W (hB : Below w.heap.size w W) => l01Adjacency S a n c xss W (h.below hB) hn hg)
  have HSI := Lib.hid (fun W (hB : Below w.heap.size w W) => l08Simple S a n c xss W (h.below hB) hn hg)
  have HN := Lib.hid hn
  have HT := Lib.hid (adZ_tab hg S)
  have HAT := Lib.hid (show tab S (fun i j => adS (pairs xss) xss.length i j) = tab S (adF xss) from rfl)
  have hS8 : S ≤ 8 := by omega
  have HSM0 := Lib.hid (fun (hs : simB (adF xss) S = true) (a1 : Option Addr) (c1 lo1 hi1 : Nat) (W : World) (hW : RdR lo1 hi1 W (.slice a1 S c1) (tab S (cpF (adF xss)))) => l08Of S (cpF (adF xss)) a1 c1 W hW hS8 (fun i j hi hj => by
    have := simB_bit hg hs hi hj
    unfold cpF
    omega))
  have H01 := Lib.hid (fun (hs : simB (adF xss) S = true) i j (hi : i < S) (hj : j < S) => simB_bit hg hs hi hj)
  obtain ⟨R, hRR⟩ : ∃ R, R = cplOf (S : Int) xss := ⟨_, rfl⟩
  have HST := Lib.hid (fun (hs : simB (adF xss) S = false) => hRR.trans (cplOf_st hg hs))
  have HYS := Lib.hid (fun (hs : simB (adF xss) S = true) => hRR.trans (cplOf_yes hg hs))
  rw [← hRR]
  clear hRR
  generalize adF xss = f at HAT HSI HSM0 H01 HST HYS
  clear h hn hg hg4
  go_enter Try.func42, Try.ntmps42
  go_wp2_with fail
  refine calls_gen (fun W => RbI w.heap.size (w.heap.size + 1) w W ∧ W.cell? ⟨w.heap.size, 0, none⟩ = some (.int .i64 (S : Int)) ∧ W.cell? ⟨w.heap.size, 1, none⟩ = some (.slice a n c)) ⟨⟨hb0 _ _, by go_simp, by go_simp, by go_simp, by go_simp, by simp, by omega⟩, by go_simp, by go_simp⟩ ?_
  rintro W ⟨hI, k0, k1⟩
  refine (HI.out W hI.below).mono ?_
  rintro e wa ⟨rfl, ba⟩
  replace hI := hI.next ba
  replace k0 := ba.keep k0
  replace k1 := ba.keep k1
  have HIa := Lib.hid hI
  clear ba hI HI
  go_wp2_with fail
  refine (HSI.out wa HIa.out.below).mono ?_
  rintro e wb ⟨rfl, bb⟩
  have hI2 := HIa.out.next bb
  replace k0 := bb.keep k0
  replace k1 := bb.keep k1
  clear bb HIa HSI
  cases hsb : simB f S with
  | false =>
    have hR := HST.out hsb
    subst hR
    obtain ⟨y0, y1, f0, f1, ylt, hB5⟩ := (⟨hI2.y0, hI2.y1, hI2.f0, hI2.f1, hI2.ylt, hI2.below⟩ : _ ∧ _ ∧ _ ∧ _ ∧ _ ∧ _)
    clear hI2 HSM0 k0 k1
    go_wp2
    refine bodyPost_ret (v := .tuple #[.agg #[.int .i64 0, .slice none 0 0], .int .i64 5]) (by simp [results, Try.results42, go_sem, y0, y1, f0, f1]) rfl ⟨none, 0, rfl, OwR.nil (World.ownsRow_nil _ _ _ _) (Nat.le_refl _), ?_⟩
    repeat (refine Below.setCell ?_ (by simp <;> omega) _)
    exact hB5
  | true =>
  replace H01 := Lib.hid (H01.out hsb)
  have HSM := Lib.hid (HSM0.out hsb)
  have hR := HYS.out hsb
  rw [← hR] at HSM
  have HI2 := Lib.hid hI2
  clear hsb hR HST HYS HSM0 hI2
  go_wp2_with fail
  refine (HA.out wb HI2.out.below).mono ?_
  rintro e w1 ⟨a9, c9, rfl, o1, b1⟩
  have ho2 : OwR wb.heap.size w1.heap.size w1 (.slice a9 S c9) (tab S f) := by
    rw [← HN.out, HT.out, HAT.out] at o1
    exact o1
  have hI2 := HI2.out.next b1
  have hyW := HI2.out.ylt
  clear b1 o1 HI2 HA HAT HT HN k0 k1
  obtain ⟨L, hL⟩ : ∃ L, L = wb.heap.size := ⟨_, rfl⟩
  obtain ⟨H1, hH⟩ : ∃ H, H = w1.heap.size := ⟨_, rfl⟩
  obtain ⟨B, hBB⟩ : ∃ B, B = w.heap.size := ⟨_, rfl⟩
  obtain ⟨y, hy⟩ : ∃ y, y = w.heap.size + 1 := ⟨_, rfl⟩
  have hHs : H1 ≤ w1.heap.size := by rw [hH]; exact Nat.le_refl _
  rw [← hL, ← hH] at ho2
  rw [← hL, ← hy] at hyW
  rw [← hy, ← hBB] at hI2
  have HYL := Lib.hid hyW
  have HO := Lib.hid (⟨by rw [cpS_start]; exact ho2, hI2, hHs⟩ : OwR L H1 w1 (.slice a9 S c9) (tab S (cpS f 0 0)) ∧ _ ∧ _)
  have HEQ := Lib.hid (⟨hBB, hy⟩ : _ ∧ _)
  rw [← hy]
  clear ho2 hI2 hHs hyW hL hH hBB hy
  go_wp2
  go_loopw [5] (fun v wr => ∃ k : Nat, k ≤ S ∧ v = .int .i64 k ∧ OwR L H1 wr (.slice a9 S c9) (tab S (cpS f k 0)) ∧ RbI B y w wr ∧ H1 ≤ wr.heap.size) (fun v _ => S - (intOf v).toNat)
  case atStart => exact ⟨0, Nat.zero_le _, rfl, HO.out.1, HO.out.2.1, HO.out.2.2⟩
  case round =>
    clear HO
    obtain ⟨k, hk, rfl, hO, hR, hH⟩ := hrel
    obtain ⟨U, rfl⟩ : ∃ U, U = wr := ⟨_, rfl⟩
    by_cases hlt : k < S
    · obtain ⟨g, c', b, cb, e1, e2, _, _, _, _, _, _, _, _, hgb, _⟩ := hO.store (k := k) (j := 0) (by rw [tab_len]; exact hlt) (by rw [tab_rlen _ hlt]; omega)
      rw [tab_rlen _ hlt] at e2
      have e1a : a9 = some ⟨g, 0, none⟩ := by injection e1
      clear e1
      subst e1a
      have HO := Lib.hid (⟨hO, e2, hR, hH⟩ : _ ∧ _ ∧ _ ∧ _)
      have hkn : (k : Int) < (S : Int) := by omega
      clear hO hR hH
      go_wp2
      clear e2
      go_loopw [7] (fun v wr2 => ∃ m : Nat, m ≤ S ∧ v = .int .i64 m ∧ OwR L H1 wr2 (.slice (some ⟨g, 0, none⟩) S c9) (tab S (cpS f k m)) ∧ wr2.cell? ⟨g, k, none⟩ = some (.slice (some ⟨b, 0, none⟩) S cb) ∧ RbI B y w wr2 ∧ H1 ≤ wr2.heap.size) (fun v _ => S - (intOf v).toNat)
      case atStart => exact ⟨0, Nat.zero_le _, rfl, HO.out⟩
      case round =>
        rename_i hrel
        clear HO
        obtain ⟨m, hm, rfl, hO, e2, hR, hH⟩ := hrel
        by_cases hlm : m < S
        · obtain ⟨g3, c3, b3, cb3, x1, x2, x3, x4, x5, x6, x7, _, _, _, _, _, x8⟩ := hO.store (k := k) (j := m) (by rw [tab_len]; exact hlt) (by rw [tab_rlen _ hlt]; exact hlm)
          rw [tab_rlen _ hlt] at x2
          rw [tab_get _ hlt hlm, cpS_at] at x3
          have x1a : some (⟨g, 0, none⟩ : Addr) = some ⟨g3, 0, none⟩ := by injection x1
          clear x1
          simp only [Option.some.injEq, Addr.mk.injEq, and_true] at x1a
          subst x1a
          rw [e2] at x2
          simp only [Option.some.injEq, Value.slice.injEq, Addr.mk.injEq, and_true, true_and] at x2
          obtain ⟨rfl, rfl⟩ := x2
          have h01 := H01.out k m hlt hlm
          have hst := x8 (1 - f k m) (by unfold I64; omega)
          rw [tab_set _ _ hlt hlm, cpS_put] at hst
          have e2s : (wr.setCell ⟨b, m, none⟩ (.int .i64 (1 - f k m))).cell? ⟨g, k, none⟩ = some (.slice (some ⟨b, 0, none⟩) S cb) := by
            rw [World.cell?_setCell_other _ _ _ _ (by intro e9; have e8 := congrArg Addr.block e9; dsimp only at e8; omega)]; exact e2
          have hR2 : RbI B y w (wr.setCell ⟨b, m, none⟩ (.int .i64 (1 - f k m))) := hR.chg ((Chg.refl b (b+1) wr).setCell (p := ⟨b, m, none⟩) ⟨Nat.le_refl _, Nat.lt_succ_self _⟩ _) (Nat.lt_of_lt_of_le HYL.out x5)
          have HF := Lib.hid (⟨hst, e2s, hR2, by rw [World.size_setCell]; exact hH⟩ : _ ∧ _ ∧ _ ∧ H1 ≤ (wr.setCell ⟨b, m, none⟩ (.int .i64 (1 - f k m))).heap.size)
          have hmn : (m : Int) < (S : Int) := by omega
          generalize f k m = z at *
          have w1' : IntKind.i64.wrap (1 - z) = 1 - z := IntWalk.i64_in _ (by omega)
          have w2' : wrap64 (1 - z) = 1 - z := IntWalk.wrap64_in _ (by clear w1'; omega)
          clear hst e2s hR2 h01 x5 x6 x7 x8 hO hR hH e2
          go_wp2
          clear w1' w2'
          go_roundw
          case rel => exact ⟨m+1, by omega, by go_num, HF.out⟩
          case measure => simp [intOf]; omega
        · obtain rfl : m = S := by omega
          rw [cpS_row] at hO
          have HF := Lib.hid (⟨hO, hR, hH⟩ : _ ∧ _ ∧ _)
          clear hO hR hH e2
          go_wp2
          go_roundw
          case rel => exact ⟨k+1, by omega, by go_num, HF.out⟩
          case measure => simp [intOf]; omega
    · obtain rfl : k = S := by omega
      rw [cpS_all] at hO
      have HC1 := Lib.hid (HSM.out a9 c9 _ _ U hO.rd)
      have HR := Lib.hid (⟨hR, hH⟩ : _ ∧ _)
      clear hO hR hH HSM
      go_wp2_with fail
      refine HC1.out.mono ?_
      rintro e w5 ⟨a5, c5, rfl, o5, b5⟩
      have hR5 := HR.out.1.next b5
      obtain ⟨y0, y1, f0, f1, ylt, hB5⟩ := (⟨hR5.y0, hR5.y1, hR5.f0, hR5.f1, hR5.ylt, hR5.below⟩ : _ ∧ _ ∧ _ ∧ _ ∧ _ ∧ _)
      have hyU : y < U.heap.size := HR.out.1.ylt
      have HQ := Lib.hid (⟨o5, hB5, b5.size, hR5.by0, HR.out.1.below.size⟩ : _ ∧ Below B w w5 ∧ _ ∧ B ≤ y ∧ _)
      clear o5 b5 hB5 hR5 HC1 HR
      have hBy := HQ.out.2.2.2.1
      have hch : Chg y (y + 1) w5 ((w5.setCell ⟨y, 0, none⟩ (.int .i64 R.1.1)).setCell ⟨y, 1, none⟩ (.slice a5 R.1.2.length c5)) := by
        repeat (refine Chg.setCell ?_ (by constructor <;> simp <;> omega) _)
        exact Chg.refl _ _ _
      have c0 : ((w5.setCell ⟨y, 0, none⟩ (.int .i64 R.1.1)).setCell ⟨y, 1, none⟩ (.slice a5 R.1.2.length c5)).cell? ⟨y, 0, none⟩ = some (.int .i64 R.1.1) := by
        rw [World.cell?_setCell_other _ _ _ _ (by simp)]; exact World.cell?_setCell_same _ _ _ y0
      have c1 : ((w5.setCell ⟨y, 0, none⟩ (.int .i64 R.1.1)).setCell ⟨y, 1, none⟩ (.slice a5 R.1.2.length c5)).cell? ⟨y, 1, none⟩ = some (.slice a5 R.1.2.length c5) := by
        refine World.cell?_setCell_same (u := .slice none 0 0) _ _ _ ?_
        rw [World.cell?_setCell_other _ _ _ _ (by simp)]; exact y1
      obtain ⟨w6, hw6⟩ : ∃ w6, w6 = (w5.setCell ⟨y, 0, none⟩ (.int .i64 R.1.1)).setCell ⟨y, 1, none⟩ (.slice a5 R.1.2.length c5) := ⟨_, rfl⟩
      rw [← hw6] at hch c0 c1
      have HW6 := Lib.hid hw6
      have hzz := hch.size
      have ba5 := (Below.refl w6.heap.size w6).alloc (Nat.le_refl _) (.cells #[.int .i64 R.1.1, .slice a5 R.1.2.length c5] 29)
      have HQ5 := Lib.hid (⟨((HQ.out.1.chg hch (.inr hyU)).below ba5).mono (show B ≤ U.heap.size by omega) (show w5.heap.size ≤ (w6.alloc (.cells #[.int .i64 R.1.1, .slice a5 R.1.2.length c5] 29)).heap.size by simp; omega), (HQ.out.2.1.chgn hch hBy (by omega)).trans (ba5.mono (by omega)), ba5.keep c0, ba5.keep c1⟩ : _ ∧ Below B w (w6.alloc (.cells #[.int .i64 R.1.1, .slice a5 R.1.2.length c5] 29)) ∧ _ ∧ _)
      clear ba5 hch c0 c1 hw6
      go_wp2
      rw [← HEQ.out.1, ← HW6.out]
      obtain ⟨q1, q2, q3, q4⟩ := HQ5.out
      exact bodyPost_ret (v := .tuple #[.agg #[.int .i64 R.1.1, .slice a5 R.1.2.length c5], .int .i64 R.2]) (by simp [results, Try.results42, go_sem, q3, q4]) rfl ⟨a5, c5, rfl, q1, q2⟩

end Go.Proofs.Ytolipjemabmlkaa
