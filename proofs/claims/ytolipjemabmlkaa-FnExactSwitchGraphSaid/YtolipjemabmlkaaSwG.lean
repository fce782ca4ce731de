/- SwitchGraph, by the program. -/
import Derived.Test.YtolipjemabmlkaaSwS
import Derived.Test.YtolipjemabmlkaaCpl
import Derived.Deep.RegionHeld3
set_option linter.unusedSimpArgs false
set_option linter.unusedVariables false
set_option maxRecDepth 100000
namespace Go.Proofs.Ytolipjemabmlkaa
open Go.RowKit

def swgOf (s : Int) (xss : List (List Int)) (xs : List Int) : (Int × List (List Int)) × Int := if swCode s xss xs = 0 then (if swB (adF xss) s.toNat xs = true then smgOf (swG (adF xss) xs s.toNat) s.toNat else ((0, []), 5)) else ((0, []), swCode s xss xs)
theorem swgOf_no {s : Int} {xss : List (List Int)} {xs : List Int} (h : swCode s xss xs ≠ 0) : swgOf s xss xs = ((0, []), swCode s xss xs) := by unfold swgOf; rw [if_neg h]
theorem swgOf_st {S : Nat} {xss : List (List Int)} {xs : List Int} (h : swCode (S : Int) xss xs = 0) (h2 : swB (adF xss) S xs = false) : swgOf (S : Int) xss xs = ((0, []), 5) := by unfold swgOf; rw [if_pos h, Int.toNat_natCast, h2]; rfl
theorem swgOf_yes {S : Nat} {xss : List (List Int)} {xs : List Int} (h : swCode (S : Int) xss xs = 0) (h2 : swB (adF xss) S xs = true) : swgOf (S : Int) xss xs = smgOf (swG (adF xss) xs S) S := by unfold swgOf; rw [if_pos h, Int.toNat_natCast, h2]; rfl
theorem swgOf_lens (s : Int) (xss : List (List Int)) (xs : List Int) : lens (swgOf s xss xs).1.2 ≤ 1000 := by
  unfold swgOf
  split
  · split
    · exact smgOf_lens _ _
    · simp [lens]
  · simp [lens]
theorem swG_skip {f : Nat → Nat → Int} {xs : List Int} {v : Nat} (h : swSkip (swG f xs v) xs v = true) : swG f xs (v + 1) = swG f xs v := by
  show (if swSkip (swG f xs v) xs v = true then _ else _) = _
  rw [if_pos h]
theorem swG_take {f : Nat → Nat → Int} {xs : List Int} {v : Nat} (h : swSkip (swG f xs v) xs v = false) : swG f xs (v + 1) = swE (swG f xs v) xs v xs.length := by
  show (if swSkip (swG f xs v) xs v = true then _ else _) = _
  rw [if_neg (by rw [h]; simp)]
theorem swSkip_mem {g : Nat → Nat → Int} {xs : List Int} {v : Nat} (h : memB xs v = true) : swSkip g xs v = true := by unfold swSkip; rw [h]; rfl
theorem swSkip_half {g : Nat → Nat → Int} {xs : List Int} {v : Nat} (h : ¬ 2 * nbR (g v) xs xs.length = xs.length) : swSkip g xs v = true := by unfold swSkip; rw [decide_eq_false h]; simp
theorem swSkip_no {g : Nat → Nat → Int} {xs : List Int} {v : Nat} (h : memB xs v = false) (h2 : 2 * nbR (g v) xs xs.length = xs.length) : swSkip g xs v = false := by unfold swSkip; rw [h, decide_eq_true h2]; rfl
theorem swE_step (f : Nat → Nat → Int) (xs : List Int) (v k m : Nat) (hm : xs.getD k 0 = (m : Int)) : swE f xs v (k + 1) = put (put (swE f xs v k) v m (1 - swE f xs v k v m)) m v (1 - swE f xs v k v m) := by
  show put (put (swE f xs v k) v (xs.getD k 0).toNat _) (xs.getD k 0).toNat v _ = _
  rw [hm, Int.toNat_natCast]

set_option maxHeartbeats 12800000 in
theorem implSwg_yes {lo hi lo1 hi1 : Nat} (S : Nat) (a : Option Addr) (n c : Nat) (xss : List (List Int)) (a1 : Option Addr) (n1 c1 : Nat) (xs : List Int) (w : World) (h : RdR lo hi w (.slice a n c) xss) (hn : xss.length = n) (h1 : RdI lo1 hi1 w (.slice a1 n1 c1) xs) (hl : xs.length = n1) (hS8 : S ≤ 8) (hg : grB (S : Int) xss = true) (h2 : setB (S : Int) xs = true) (h3 : simB (adF xss) S = true) :
    Calls Try.prog 47 #[.agg #[.int .i64 (S : Int), .slice a n c], .slice a1 n1 c1] w fun e w' => ∃ a' c', e = .returned (.tuple #[.agg #[.int .i64 (swgOf (S : Int) xss xs).1.1, .slice a' (swgOf (S : Int) xss xs).1.2.length c'], .int .i64 (swgOf (S : Int) xss xs).2]) ∧ OwR w.heap.size w'.heap.size w' (.slice a' (swgOf (S : Int) xss xs).1.2.length c') (swgOf (S : Int) xss xs).1.2 ∧ Below w.heap.size w w' := by
  have hb0 : ∀ o o', Below w.heap.size w ((w.alloc o).alloc o') := fun o o' => ((Below.refl _ _).alloc (Nat.le_refl _) o).alloc (by simp) o'
  have hc := swCode_ok hg h2 h3
  have HR := Lib.hid (fun W (hB : Below w.heap.size w W) => switchRows_ok S a n c xss a1 n1 c1 xs W (h.below hB) hn (h1.below hB) hl hg h2 h3)
  have hsl := setB_len h2
  rw [hl] at hsl
  have hsn0 := setB_nat h2
  rw [hl] at hsn0
  have hsn : ∀ k, k < n1 → ∃ m : Nat, xs.getD k 0 = (m : Int) ∧ m < S := fun k hk => by
    obtain ⟨m, e1, e2, _⟩ := hsn0 k hk
    exact ⟨m, e1, e2⟩
  have HXN := Lib.hid hsn
  have hbit0 : bitF S (adF xss) := fun i hi j hj => simB_bit hg h3 hi hj
  have HBIT := Lib.hid (fun v (hv : v ≤ S) => swG_bit (xs := xs) hbit0 (fun k hk => by
    obtain ⟨m, e1, e2⟩ := hsn k (by rw [← hl]; exact hk)
    rw [e1, Int.toNat_natCast]; exact e2) v hv)
  have HBIE := Lib.hid (fun v (hv : v < S) k (hk : k ≤ n1) => swE_bit (HBIT.out v (Nat.le_of_lt hv)) hv (fun k hk => by
    obtain ⟨m, e1, e2⟩ := hsn k (by rw [← hl]; exact hk)
    rw [e1, Int.toNat_natCast]; exact e2) k (by rw [hl]; exact hk))
  have HDS := Lib.hid (fun (a2 : Option Addr) (c2 lo2 hi2 : Nat) (W : World) (hB : Below w.heap.size w W) (hW : RdR lo2 hi2 W (.slice a2 S c2) (tab S (adF xss))) => doesSwitchP S (adF xss) a2 c2 a1 n1 c1 xs W hW (h1.below hB) hl hS8 (by omega) hsn)
  have HNB := Lib.hid (fun (r : Nat → Int) (b : Option Addr) (cb lo2 hi2 : Nat) W (hB : Below w.heap.size w W) (hW : RdI lo2 hi2 W (.slice b S cb) ((List.range S).map r)) => neighboursIn S r b cb a1 n1 c1 xs W hW (h1.below hB) hl hS8 (by omega) hsn)
  have HCN := Lib.hid (fun (v : Nat) W (hB : Below w.heap.size w W) => slContains a1 n1 c1 xs v W (h1.below hB) hl)
  have HC := Lib.hid (fun W (hB : Below w.heap.size w W) => (h1.below hB).at hl)
  have HSM := Lib.hid (fun (g : Nat → Nat → Int) (a1 : Option Addr) (c1 lo1 hi1 : Nat) (W : World) (hW : RdR lo1 hi1 W (.slice a1 S c1) (tab S g)) => simpleGraph S g a1 c1 W hW hS8)
  obtain ⟨R, hRR⟩ : ∃ R, R = swgOf (S : Int) xss xs := ⟨_, rfl⟩
  have HST := Lib.hid (fun (hs : swB (adF xss) S xs = false) => hRR.trans (swgOf_st hc hs))
  have HYS := Lib.hid (fun (hs : swB (adF xss) S xs = true) => hRR.trans (swgOf_yes hc hs))
  rw [← hRR]
  clear hRR
  have hn8 : n1 ≤ 8 := by omega
  have HLL := Lib.hid hl
  generalize adF xss = f at HR HBIT HBIE HDS HST HYS
  clear h hn h1 hl hg h2 h3 hc hsl hsn0 hsn hbit0
  go_enter Try.func47, Try.ntmps47
  go_wp2_with fail
  refine calls_gen (fun W => RbI w.heap.size (w.heap.size + 1) w W) ⟨hb0 _ _, by go_simp, by go_simp, by go_simp, by go_simp, by simp, by omega⟩ ?_
  rintro W hI
  refine (HR.out W hI.below).mono ?_
  rintro e w1 ⟨a9, c9, L, rfl, o1, hWL, b1⟩
  have HI1 := Lib.hid (⟨hI.next b1, o1, Nat.lt_trans hI.ylt hWL⟩ : _ ∧ _ ∧ _)
  have HD1 := Lib.hid (HDS.out a9 c9 _ _ w1 HI1.out.1.below o1.rd)
  clear hI o1 b1 HR HDS
  go_wp2_with fail
  refine HD1.out.mono ?_
  rintro e w2 ⟨rfl, q2⟩
  obtain ⟨hI1, ho, hyW⟩ := HI1.out
  have hI2 := hI1.next q2.below
  have ho2 := ho.qt q2
  have hws := Lib.hid q2.below.size
  clear q2 hI1 ho HD1 HI1
  cases hsb : swB f S xs with
  | false =>
    have hR := HST.out hsb
    subst hR
    obtain ⟨y0, y1, f0, f1, ylt, hB5⟩ := (⟨hI2.y0, hI2.y1, hI2.f0, hI2.f1, hI2.ylt, hI2.below⟩ : _ ∧ _ ∧ _ ∧ _ ∧ _ ∧ _)
    clear hI2 ho2 HSM
    go_wp2
    refine bodyPost_ret (v := .tuple #[.agg #[.int .i64 0, .slice none 0 0], .int .i64 5]) (by simp [results, Try.results47, go_sem, y0, y1, f0, f1]) rfl ⟨none, 0, rfl, OwR.nil (World.ownsRow_nil _ _ _ _) (Nat.le_refl _), ?_⟩
    repeat (refine Below.setCell ?_ (by simp <;> omega) _)
    exact hB5
  | true =>
  have hR := HYS.out hsb
  have HRS := Lib.hid hR
  clear hsb hR HST HYS
  obtain ⟨H1, hH⟩ : ∃ H, H = w1.heap.size := ⟨_, rfl⟩
  obtain ⟨B, hBB⟩ : ∃ B, B = w.heap.size := ⟨_, rfl⟩
  obtain ⟨y, hy⟩ : ∃ y, y = w.heap.size + 1 := ⟨_, rfl⟩
  have hHs : H1 ≤ w2.heap.size := by rw [hH]; exact hws.out
  rw [← hH] at ho2
  rw [← hy] at hyW
  rw [← hy, ← hBB] at hI2
  have HYL := Lib.hid hyW
  have HG0 := Lib.hid (show swG f xs 0 = f from rfl)
  have HO := Lib.hid (⟨by rw [HG0.out]; exact ho2, hI2, hHs⟩ : OwR L H1 w2 (.slice a9 S c9) (tab S (swG f xs 0)) ∧ _ ∧ _)
  have HEQ := Lib.hid (⟨hBB, hy⟩ : _ ∧ _)
  rw [← hy]
  clear ho2 hI2 hHs hyW hWL hH hBB hy
  go_wp2
  go_loopw [29] (fun v wr => ∃ k : Nat, k ≤ S ∧ v = .int .i64 k ∧ OwR L H1 wr (.slice a9 S c9) (tab S (swG f xs k)) ∧ RbI B y w wr ∧ H1 ≤ wr.heap.size) (fun v _ => S - (intOf v).toNat)
  case atStart => exact ⟨0, Nat.zero_le _, rfl, HO.out.1, HO.out.2.1, HO.out.2.2⟩
  case round =>
    clear HO
    obtain ⟨k, hk, rfl, hO, hR, hH⟩ := hrel
    obtain ⟨U, rfl⟩ : ∃ U, U = wr := ⟨_, rfl⟩
    by_cases hlt : k < S
    · have hG1 := Lib.hid (fun h => swG_skip (f := f) (xs := xs) (v := k) h)
      have hG2 := Lib.hid (fun h => swG_take (f := f) (xs := xs) (v := k) h)
      have HBK := Lib.hid (HBIE.out k hlt)
      generalize swG f xs k = g0 at hO hG1 hG2 HBK
      obtain ⟨b, off, b', off', c', rfl, e2, e3⟩ := rowRd hO.rd hlt
      have hBw : Below w.heap.size w U := by rw [← HEQ.out.1]; exact hR.below
      have HC1 := Lib.hid (HCN.out k U hBw)
      have HN1 := Lib.hid (fun W (hq : Qt U W) => HNB.out (g0 k) _ c' _ _ W (hBw.qt hq) (e3.qt hq))
      have HO := Lib.hid (⟨hO, e2, hR, hH⟩ : _ ∧ _ ∧ _ ∧ _)
      have hkS : (k : Int) < (S : Int) := by omega
      have hcl := nbR_le (g0 k) xs n1
      obtain ⟨cn, hcn⟩ : ∃ cn, cn = nbR (g0 k) xs n1 := ⟨_, rfl⟩
      rw [← hcn] at HN1 hcl
      have HCC := Lib.hid hcn
      clear hO hR hH hBw e3 hcn
      cases hmm : memB xs k with
      | true =>
        have HG := Lib.hid (hG1.out (swSkip_mem hmm))
        rw [hmm] at HC1
        clear hmm HN1
        go_wp2_with fail
        refine HC1.out.mono ?_
        rintro e w3 ⟨rfl, q3⟩
        have HF := Lib.hid (⟨by rw [HG.out]; exact HO.out.1.qt q3, HO.out.2.2.1.next q3.below, Nat.le_trans HO.out.2.2.2 q3.below.size⟩ : OwR L H1 w3 (.slice (some ⟨b, off, none⟩) S c9) (tab S (swG f xs (k + 1))) ∧ _ ∧ _)
        clear q3 HC1 e2
        go_wp2
        go_roundw
        case rel => exact ⟨k+1, by omega, by go_num, HF.out⟩
        case measure => simp [intOf]; omega
      | false =>
        rw [hmm] at HC1
        have w1' : IntKind.i64.wrap (2 * (cn : Int)) = 2 * (cn : Int) := IntWalk.i64_in _ (by omega)
        have w2' : wrap64 (2 * (cn : Int)) = 2 * (cn : Int) := IntWalk.wrap64_in _ (by clear w1'; omega)
        go_wp2_with fail
        refine HC1.out.mono ?_
        rintro e w3 ⟨rfl, q3⟩
        have HN3 := Lib.hid (HN1.out w3 q3)
        have HQ3 := Lib.hid q3
        clear q3 HC1 HN1
        go_wp2_with fail
        refine HN3.out.mono ?_
        rintro e w4 ⟨rfl, q4⟩
        have HQ4 := Lib.hid (HQ3.out.trans q4)
        clear q4 HN3
        by_cases hhf : 2 * cn = n1
        · have hb3 : (2 * (cn : Int) != (n1 : Int)) = false := by simp; clear w1' w2'; omega
          have HG := Lib.hid (show swG f xs (k + 1) = swE g0 xs k n1 by
            have := hG2.out (swSkip_no hmm (by rw [HLL.out, ← HCC.out]; exact hhf))
            rw [HLL.out] at this; exact this)
          have HMM := Lib.hid (fun j (hj : j < n1) => memB_ne hmm (by rw [HLL.out]; exact hj))
          clear hmm hhf
          obtain ⟨g1, b1, cb1, q1, q2, _⟩ := HO.out.1.ent2 (i := k) (j := k) hlt hlt
          simp only [Option.some.injEq, Addr.mk.injEq, and_true] at q1
          obtain ⟨rfl, rfl⟩ := q1
          rw [Nat.zero_add, q2] at e2
          simp only [Option.some.injEq, Value.slice.injEq, Addr.mk.injEq, and_true, true_and] at e2
          obtain ⟨⟨rfl, rfl⟩, rfl⟩ := e2
          have HO4 := Lib.hid (⟨HO.out.1.qt HQ4.out, HQ4.out.below.keep q2, HO.out.2.2.1.next HQ4.out.below, Nat.le_trans HO.out.2.2.2 HQ4.out.below.size⟩ : OwR L H1 w4 (.slice (some ⟨b, 0, none⟩) S c9) (tab S (swE g0 xs k 0)) ∧ w4.cell? ⟨b, k, none⟩ = some (.slice (some ⟨b1, 0, none⟩) S cb1) ∧ _ ∧ _)
          clear q2 HO
          go_wp2
          clear w1' w2' hb3
          go_loopw [48] (fun v wr => ∃ j : Nat, j ≤ n1 ∧ v = .int .i64 j ∧ OwR L H1 wr (.slice (some ⟨b, 0, none⟩) S c9) (tab S (swE g0 xs k j)) ∧ wr.cell? ⟨b, k, none⟩ = some (.slice (some ⟨b1, 0, none⟩) S cb1) ∧ RbI B y w wr ∧ H1 ≤ wr.heap.size) (fun v _ => n1 - (intOf v).toNat)
          case atStart => exact ⟨0, Nat.zero_le _, rfl, HO4.out⟩
          case round =>
            rename_i hrel
            clear HO4
            obtain ⟨j, hj, rfl, hO, e2, hR, hH⟩ := hrel
            obtain ⟨Y, rfl⟩ : ∃ Y, Y = wr := ⟨_, rfl⟩
            by_cases hltj : j < n1
            · obtain ⟨m, hxm, hmS⟩ := HXN.out j hltj
              obtain ⟨sb, so, rfl, gs⟩ := HC.out Y (by rw [← HEQ.out.1]; exact hR.below) j hltj
              rw [hxm] at gs
              obtain ⟨x3, x4, x5, x6, x7, hgb, x8⟩ := hO.row2 (i := k) (j := m) hlt hmS e2
              have hstp := swE_step g0 xs k j m hxm
              have hxb := HBK.out j hj k hlt m hmS
              obtain ⟨x, hx⟩ : ∃ x, x = swE g0 xs k j k m := ⟨_, rfl⟩
              rw [← hx] at x3 hstp hxb
              obtain ⟨z, hz⟩ : ∃ z, z = 1 - x := ⟨_, rfl⟩
              rw [← hz] at hstp
              have hzI : I64 z := by unfold I64; omega
              have hst := x8 z hzI
              obtain ⟨Z, hZ⟩ : ∃ Z, Z = Y.setCell ⟨b1, m, none⟩ (.int .i64 z) := ⟨_, rfl⟩
              rw [← hZ] at hst
              obtain ⟨gg, bm, cm, hgg, y2, y3, y4, y5, y6, y7, ygb, y8⟩ := (hst.qt (Qt.refl Z).drew).ent2 (i := m) (j := k) hmS hlt
              simp only [Option.some.injEq, Addr.mk.injEq, and_true] at hgg
              subst hgg
              have hst2 := y8 z hzI
              rw [← hstp] at hst2
              have e2Z : Z.drew.cell? ⟨b, k, none⟩ = some (.slice (some ⟨b1, 0, none⟩) S cb1) := by
                show Z.cell? _ = _
                rw [hZ, World.cell?_setCell_other _ _ _ _ (by intro e9; have e8 := congrArg Addr.block e9; dsimp only at e8; omega)]; exact e2
              have e2F : (Z.drew.setCell ⟨bm, k, none⟩ (.int .i64 z)).cell? ⟨b, k, none⟩ = some (.slice (some ⟨b1, 0, none⟩) S cb1) := by
                rw [World.cell?_setCell_other _ _ _ _ (by intro e9; have e8 := congrArg Addr.block e9; dsimp only at e8; omega)]; exact e2Z
              have hyL := HYL.out
              have hR1 : RbI B y w Z := by rw [hZ]; exact hR.chg ((Chg.refl b1 (b1+1) Y).setCell (p := ⟨b1, m, none⟩) ⟨Nat.le_refl _, Nat.lt_succ_self _⟩ _) (by omega)
              have hR2 : RbI B y w (Z.drew.setCell ⟨bm, k, none⟩ (.int .i64 z)) := (hR1.next (Qt.refl Z).drew.below).chg ((Chg.refl bm (bm+1) Z.drew).setCell (p := ⟨bm, k, none⟩) ⟨Nat.le_refl _, Nat.lt_succ_self _⟩ _) (by omega)
              have hH2 : H1 ≤ (Z.drew.setCell ⟨bm, k, none⟩ (.int .i64 z)).heap.size := by rw [World.size_setCell, hZ]; simpa using hH
              have HF := Lib.hid (⟨hst2, e2F, hR2, hH2⟩ : _ ∧ _ ∧ _ ∧ _)
              have z3d : Z.drew.cell? ⟨b1, m, none⟩ = some (.int .i64 z) := by
                have := (hst.row2 (i := k) (j := m) hlt hmS e2Z).1
                rw [show put (swE g0 xs k j) k m z k m = z by unfold put; simp] at this
                exact this
              have z2 : Z.cell? ⟨b, m, none⟩ = some (.slice (some ⟨bm, 0, none⟩) S cm) := y2
              have z3 : Z.cell? ⟨b1, m, none⟩ = some (.int .i64 z) := z3d
              generalize put (swE g0 xs k j) k m z m k = u at y3
              have z4 : Z.cell? ⟨bm, k, none⟩ = some (.int .i64 u) := y3
              have z5 : Z.frozen? ⟨bm, k, none⟩ = false := y4
              have hmSi : (m : Int) < (S : Int) := by omega
              have hm0 : (0 : Int) ≤ (m : Int) := by omega
              have hjn : (j : Int) < (n1 : Int) := by omega
              have t1 : IntKind.i64.wrap (1 - x) = z := by rw [hz]; exact IntWalk.i64_in _ (by omega)
              have t2 : wrap64 (1 - x) = z := by rw [hz]; exact IntWalk.wrap64_in _ (by clear t1; omega)
              clear hst hst2 e2Z e2F hR1 hR2 hH2 hyL hzI hz hx hxb hstp x8 y8 x5 x6 x7 y5 y6 y7 hO hR hH hxm
              go_wp2
              rw [← hZ]
              clear hZ gs x3 x4 t1 t2 e2
              go_still_tail 10, (by kernel_rfl)
              change wpList _ _ _ _ _ Z.drew
              clear z2 z3 z4 z5
              generalize Z.drew = Z2 at HF y2 y3 y4 z3d ⊢
              go_wp2
              go_roundw
              case rel => exact ⟨j+1, by omega, by go_num, HF.out⟩
              case measure => simp [intOf]; omega
            · obtain rfl : j = n1 := by omega
              rw [← HG.out] at hO
              have HF := Lib.hid (⟨hO, hR, hH⟩ : _ ∧ _ ∧ _)
              clear hO hR hH e2
              go_wp2
              go_roundw
              case rel => exact ⟨k+1, by omega, by go_num, HF.out⟩
              case measure => simp [intOf]; omega
        · have hb3 : (2 * (cn : Int) != (n1 : Int)) = true := by simp; clear w1' w2'; omega
          have HG := Lib.hid (hG1.out (swSkip_half (by rw [HLL.out, ← HCC.out]; exact hhf)))
          have HF := Lib.hid (⟨by rw [HG.out]; exact HO.out.1.qt HQ4.out, HO.out.2.2.1.next HQ4.out.below, Nat.le_trans HO.out.2.2.2 HQ4.out.below.size⟩ : OwR L H1 w4 (.slice (some ⟨b, off, none⟩) S c9) (tab S (swG f xs (k + 1))) ∧ _ ∧ _)
          clear hmm hhf e2
          go_wp2
          clear w1' w2'
          go_roundw
          case rel => exact ⟨k+1, by omega, by go_num, HF.out⟩
          case measure => simp [intOf]; omega
    · obtain rfl : k = S := by omega
      have HC1 := Lib.hid (HSM.out (swG f xs k) a9 c9 _ _ U hO.rd)
      rw [← HRS.out] at HC1
      have HR := Lib.hid (⟨hR, hH⟩ : _ ∧ _)
      clear hO hR hH HSM
      go_wp2_with fail
      refine HC1.out.mono ?_
      rintro e w5 ⟨a5, c5, rfl, o5, b5⟩
      have hR5 := HR.out.1.next b5
      obtain ⟨y0, y1, f0, f1, ylt, hB5⟩ := (⟨hR5.y0, hR5.y1, hR5.f0, hR5.f1, hR5.ylt, hR5.below⟩ : _ ∧ _ ∧ _ ∧ _ ∧ _ ∧ _)
      have hyU : y < U.heap.size := HR.out.1.ylt
      have HQ := Lib.hid (⟨o5, hB5, b5.size, hR5.by0, HR.out.1.below.size⟩ : _ ∧ Below B w w5 ∧ _ ∧ B ≤ y ∧ _)
      clear o5 b5 hB5 hR5 HC1 HR
      go_wp2
      rw [← HEQ.out.1]
      refine bodyPost_ret (v := .tuple #[.agg #[.int .i64 R.1.1, .slice a5 R.1.2.length c5], .int .i64 R.2]) (by simp [results, Try.results47, go_sem, y0, y1, f0, f1]) rfl ⟨a5, c5, rfl, ?_, ?_⟩
      · have hBy := HQ.out.2.2.2.1
        refine (OwR.chg (lo' := y) (hi' := y + 1) HQ.out.1 ?_ (.inr hyU)).mono (by omega) (by simp [World.setCell])
        repeat (refine Chg.setCell ?_ (by constructor <;> simp <;> omega) _)
        exact Chg.refl _ _ _
      · have hBy := HQ.out.2.2.2.1
        repeat (refine Below.setCell ?_ (by simp <;> omega) _)
        exact HQ.out.2.1

set_option maxHeartbeats 1600000 in
theorem implSwg {lo hi lo1 hi1 : Nat} (s : Int) (a : Option Addr) (n c : Nat) (xss : List (List Int)) (a1 : Option Addr) (n1 c1 : Nat) (xs : List Int) (w : World) (h : RdR lo hi w (.slice a n c) xss) (hn : xss.length = n) (h1 : RdI lo1 hi1 w (.slice a1 n1 c1) xs) (hl : xs.length = n1) :
    Calls Try.prog 47 #[.agg #[.int .i64 s, .slice a n c], .slice a1 n1 c1] w fun e w' => ∃ a' c', e = .returned (.tuple #[.agg #[.int .i64 (swgOf s xss xs).1.1, .slice a' (swgOf s xss xs).1.2.length c'], .int .i64 (swgOf s xss xs).2]) ∧ OwR w.heap.size w'.heap.size w' (.slice a' (swgOf s xss xs).1.2.length c') (swgOf s xss xs).1.2 ∧ Below w.heap.size w w' := by
  rcases swCode_cases s xss xs with hc | ⟨S, rfl, hS8, hg, h2, h3, hc⟩
  · have hb0 : ∀ o o', Below w.heap.size w ((w.alloc o).alloc o') := fun o o' => ((Below.refl _ _).alloc (Nat.le_refl _) o).alloc (by simp) o'
    have HR := Lib.hid (fun W (hB : Below w.heap.size w W) => switchRows_bad s a n c xss a1 n1 c1 xs W (h.below hB) hn (h1.below hB) hl hc)
    rw [swgOf_no hc]
    have hcb : (swCode s xss xs != 0) = true := by simpa using hc
    generalize swCode s xss xs = cd at HR hcb ⊢
    clear h hn h1 hl hc
    go_enter Try.func47, Try.ntmps47
    go_wp2_with fail
    refine calls_gen (fun W => RbI w.heap.size (w.heap.size + 1) w W) ⟨hb0 _ _, by go_simp, by go_simp, by go_simp, by go_simp, by simp, by omega⟩ ?_
    rintro W hI
    refine (HR.out W hI.below).mono ?_
    rintro e w1 ⟨rfl, b1⟩
    have hI1 := hI.next b1
    obtain ⟨y0, y1, f0, f1, ylt, hB5⟩ := (⟨hI1.y0, hI1.y1, hI1.f0, hI1.f1, hI1.ylt, hI1.below⟩ : _ ∧ _ ∧ _ ∧ _ ∧ _ ∧ _)
    clear b1 HR hI hI1
    go_wp2
    refine bodyPost_ret (v := .tuple #[.agg #[.int .i64 0, .slice none 0 0], .int .i64 cd]) (by simp [results, Try.results47, go_sem, y0, y1, f0, f1]) rfl ⟨none, 0, rfl, OwR.nil (World.ownsRow_nil _ _ _ _) (Nat.le_refl _), ?_⟩
    repeat (refine Below.setCell ?_ (by simp <;> omega) _)
    exact hB5
  · exact implSwg_yes S a n c xss a1 n1 c1 xs w h hn h1 hl hS8 hg h2 h3

set_option maxHeartbeats 12800000 in
theorem specSwg {lo hi lo1 hi1 : Nat} (s : Int) (a : Option Addr) (n c : Nat) (xss : List (List Int)) (a1 : Option Addr) (n1 c1 : Nat) (xs : List Int) (w : World) (h : RdR lo hi w (.slice a n c) xss) (hn : xss.length = n) (h1 : RdI lo1 hi1 w (.slice a1 n1 c1) xs) (hl : xs.length = n1) :
    Calls Try.prog 46 #[.agg #[.int .i64 s, .slice a n c], .slice a1 n1 c1] w fun e w' => ∃ a' c', e = .returned (.tuple #[.agg #[.int .i64 (swgOf s xss xs).1.1, .slice a' (swgOf s xss xs).1.2.length c'], .int .i64 (swgOf s xss xs).2]) ∧ OwR w.heap.size w'.heap.size w' (.slice a' (swgOf s xss xs).1.2.length c') (swgOf s xss xs).1.2 ∧ Below w.heap.size w w' := by
  rcases swCode_cases s xss xs with hc | ⟨S, rfl, hS8, hg, h2, h3, hc⟩
  · have hb0 : ∀ o o', Below w.heap.size w ((w.alloc o).alloc o') := fun o o' => ((Below.refl _ _).alloc (Nat.le_refl _) o).alloc (by simp) o'
    have HR := Lib.hid (fun W (hB : Below w.heap.size w W) => l08Set s a n c xss a1 n1 c1 xs W (h.below hB) hn (h1.below hB) hl)
    rw [swgOf_no hc]
    have hcb : (swCode s xss xs != 0) = true := by simpa using hc
    generalize swCode s xss xs = cd at HR hcb ⊢
    clear h hn h1 hl hc
    go_enter Try.func46, Try.ntmps46
    go_wp2_with fail
    refine calls_gen (fun W => RbI w.heap.size (w.heap.size + 1) w W) ⟨hb0 _ _, by go_simp, by go_simp, by go_simp, by go_simp, by simp, by omega⟩ ?_
    rintro W hI
    refine (HR.out W hI.below).mono ?_
    rintro e w1 ⟨rfl, b1⟩
    have hI1 := hI.next b1
    obtain ⟨y0, y1, f0, f1, ylt, hB5⟩ := (⟨hI1.y0, hI1.y1, hI1.f0, hI1.f1, hI1.ylt, hI1.below⟩ : _ ∧ _ ∧ _ ∧ _ ∧ _ ∧ _)
    clear b1 HR hI hI1
    go_wp2
    refine bodyPost_ret (v := .tuple #[.agg #[.int .i64 0, .slice none 0 0], .int .i64 cd]) (by simp [results, Try.results46, go_sem, y0, y1, f0, f1]) rfl ⟨none, 0, rfl, OwR.nil (World.ownsRow_nil _ _ _ _) (Nat.le_refl _), ?_⟩
    repeat (refine Below.setCell ?_ (by simp <;> omega) _)
    exact hB5
  have hb0 : ∀ o o', Below w.heap.size w ((w.alloc o).alloc o') := fun o o' => ((Below.refl _ _).alloc (Nat.le_refl _) o).alloc (by simp) o'
  have HR := Lib.hid (fun W (hB : Below w.heap.size w W) => l08Set (S : Int) a n c xss a1 n1 c1 xs W (h.below hB) hn (h1.below hB) hl)
  rw [hc] at HR
  have hsl := setB_len h2
  rw [hl] at hsl
  have hsn0 := setB_nat h2
  rw [hl] at hsn0
  have hsn : ∀ k, k < n1 → ∃ m : Nat, xs.getD k 0 = (m : Int) ∧ m < S := fun k hk => by
    obtain ⟨m, e1, e2, _⟩ := hsn0 k hk
    exact ⟨m, e1, e2⟩
  have HXN := Lib.hid hsn
  have hbit0 : bitF S (adF xss) := fun i hi j hj => simB_bit hg h3 hi hj
  have HBIT := Lib.hid (fun v (hv : v ≤ S) => swG_bit (xs := xs) hbit0 (fun k hk => by
    obtain ⟨m, e1, e2⟩ := hsn k (by rw [← hl]; exact hk)
    rw [e1, Int.toNat_natCast]; exact e2) v hv)
  have HBIE := Lib.hid (fun v (hv : v < S) k (hk : k ≤ n1) => swE_bit (HBIT.out v (Nat.le_of_lt hv)) hv (fun k hk => by
    obtain ⟨m, e1, e2⟩ := hsn k (by rw [← hl]; exact hk)
    rw [e1, Int.toNat_natCast]; exact e2) k (by rw [hl]; exact hk))
  have hn8 : n1 ≤ 8 := by omega
  have HA := Lib.hid (fun W (hB : Below w.heap.size w W) => l01Adjacency S a n c xss W (h.below hB) hn hg)
  have HN := Lib.hid hn
  have HT := Lib.hid (adZ_tab hg S)
  have HAT := Lib.hid (show tab S (fun i j => adS (pairs xss) xss.length i j) = tab S (adF xss) from rfl)
  have HDS := Lib.hid (fun (a2 : Option Addr) (c2 lo2 hi2 : Nat) (W : World) (hB : Below w.heap.size w W) (hW : RdR lo2 hi2 W (.slice a2 S c2) (tab S (adF xss))) => l08Switches S (adF xss) a2 c2 a1 n1 c1 xs W hW (h1.below hB) hl hS8 hn8 hsn hbit0)
  have HNB := Lib.hid (fun (g : Nat → Nat → Int) (a2 : Option Addr) (c2 lo2 hi2 v : Nat) W (hB : Below w.heap.size w W) (hW : RdR lo2 hi2 W (.slice a2 S c2) (tab S g)) (hv : v < S) (hb : bitF S g) => l08Among S g a2 c2 a1 n1 c1 xs v W hW (h1.below hB) hl hS8 hn8 hsn hv hb)
  have HCN := Lib.hid (fun (v : Nat) W (hB : Below w.heap.size w W) => l08Outside a1 n1 c1 xs v W (h1.below hB) hl)
  have HC := Lib.hid (fun W (hB : Below w.heap.size w W) => (h1.below hB).at hl)
  have HSM := Lib.hid (fun (a2 : Option Addr) (c2 lo2 hi2 : Nat) (W : World) (hW : RdR lo2 hi2 W (.slice a2 S c2) (tab S (swG (adF xss) xs S))) => l08Of S (swG (adF xss) xs S) a2 c2 W hW hS8 (fun i j hi hj => HBIT.out S (Nat.le_refl _) i hi j hj))
  obtain ⟨R, hRR⟩ : ∃ R, R = swgOf (S : Int) xss xs := ⟨_, rfl⟩
  have HST := Lib.hid (fun (hs : swB (adF xss) S xs = false) => hRR.trans (swgOf_st hc hs))
  have HYS := Lib.hid (fun (hs : swB (adF xss) S xs = true) => hRR.trans (swgOf_yes hc hs))
  rw [← hRR]
  clear hRR
  have HLL := Lib.hid hl
  generalize adF xss = f at HR HBIT HBIE HDS HST HYS HAT HSM
  clear h hn h1 hl hg h2 h3 hc hsl hsn0 hsn hbit0
  go_enter Try.func46, Try.ntmps46
  go_wp2_with fail
  refine calls_gen (fun W => RbI w.heap.size (w.heap.size + 1) w W ∧ W.cell? ⟨w.heap.size, 0, none⟩ = some (.int .i64 (S : Int)) ∧ W.cell? ⟨w.heap.size, 1, none⟩ = some (.slice a n c)) ⟨⟨hb0 _ _, by go_simp, by go_simp, by go_simp, by go_simp, by simp, by omega⟩, by go_simp, by go_simp⟩ ?_
  rintro W ⟨hI, k0, k1⟩
  refine (HR.out W hI.below).mono ?_
  rintro e wb ⟨rfl, ba⟩
  replace hI := hI.next ba
  replace k0 := ba.keep k0
  replace k1 := ba.keep k1
  have HI2 := Lib.hid hI
  clear ba hI HR
  go_wp2_with fail
  refine (HA.out wb HI2.out.below).mono ?_
  rintro e w1 ⟨a9, c9, rfl, o1, b1⟩
  have ho1 : OwR wb.heap.size w1.heap.size w1 (.slice a9 S c9) (tab S f) := by
    rw [← HN.out, HT.out, HAT.out] at o1
    exact o1
  have HI1 := Lib.hid (⟨HI2.out.next b1, ho1, HI2.out.ylt, b1.keep k0⟩ : _ ∧ _ ∧ _ ∧ _)
  have HD1 := Lib.hid (HDS.out a9 c9 _ _ w1 HI1.out.1.below ho1.rd)
  clear b1 o1 ho1 HI2 HA HAT HT HN k0 k1 HDS
  go_wp2_with fail
  refine HD1.out.mono ?_
  rintro e w2 ⟨rfl, q2⟩
  obtain ⟨hI1, ho, hyW, k0⟩ := HI1.out
  have hI2 := hI1.next q2.below
  have ho2 := ho.qt q2
  have hws := Lib.hid q2.below.size
  replace k0 := q2.below.keep k0
  clear q2 hI1 ho HD1 HI1
  cases hsb : swB f S xs with
  | false =>
    have hR := HST.out hsb
    subst hR
    obtain ⟨y0, y1, f0, f1, ylt, hB5⟩ := (⟨hI2.y0, hI2.y1, hI2.f0, hI2.f1, hI2.ylt, hI2.below⟩ : _ ∧ _ ∧ _ ∧ _ ∧ _ ∧ _)
    clear hI2 ho2 HSM k0
    go_wp2
    refine bodyPost_ret (v := .tuple #[.agg #[.int .i64 0, .slice none 0 0], .int .i64 5]) (by simp [results, Try.results46, go_sem, y0, y1, f0, f1]) rfl ⟨none, 0, rfl, OwR.nil (World.ownsRow_nil _ _ _ _) (Nat.le_refl _), ?_⟩
    repeat (refine Below.setCell ?_ (by simp <;> omega) _)
    exact hB5
  | true =>
  have hR := HYS.out hsb
  have HRS := Lib.hid hR
  clear hsb hR HST HYS
  obtain ⟨L, hL⟩ : ∃ L, L = wb.heap.size := ⟨_, rfl⟩
  obtain ⟨H1, hH⟩ : ∃ H, H = w1.heap.size := ⟨_, rfl⟩
  obtain ⟨B, hBB⟩ : ∃ B, B = w.heap.size := ⟨_, rfl⟩
  obtain ⟨y, hy⟩ : ∃ y, y = w.heap.size + 1 := ⟨_, rfl⟩
  have hHs : H1 ≤ w2.heap.size := by rw [hH]; exact hws.out
  rw [← hL, ← hH] at ho2
  rw [← hL, ← hy] at hyW
  rw [← hy, ← hBB] at hI2
  rw [← hBB] at k0
  have HYL := Lib.hid hyW
  have HG0 := Lib.hid (show swG f xs 0 = f from rfl)
  have HO := Lib.hid (⟨by rw [HG0.out]; exact ho2, hI2, k0, hHs⟩ : OwR L H1 w2 (.slice a9 S c9) (tab S (swG f xs 0)) ∧ _ ∧ _ ∧ _)
  have HEQ := Lib.hid (⟨hBB, hy⟩ : _ ∧ _)
  rw [← hy, ← hBB]
  clear ho2 hI2 hHs hyW hL hH hBB hy k0
  go_wp2
  go_loopw [8] (fun v wr => ∃ k : Nat, k ≤ S ∧ v = .int .i64 k ∧ OwR L H1 wr (.slice a9 S c9) (tab S (swG f xs k)) ∧ RbI B y w wr ∧ wr.cell? ⟨B, 0, none⟩ = some (.int .i64 (S : Int)) ∧ H1 ≤ wr.heap.size) (fun v _ => S - (intOf v).toNat)
  case atStart => exact ⟨0, Nat.zero_le _, rfl, HO.out⟩
  case round =>
    clear HO
    obtain ⟨k, hk, rfl, hO, hR, k0, hH⟩ := hrel
    obtain ⟨U, rfl⟩ : ∃ U, U = wr := ⟨_, rfl⟩
    by_cases hlt : k < S
    · have hG1 := Lib.hid (fun h => swG_skip (f := f) (xs := xs) (v := k) h)
      have hG2 := Lib.hid (fun h => swG_take (f := f) (xs := xs) (v := k) h)
      have HBK := Lib.hid (HBIE.out k hlt)
      have HBG := Lib.hid (HBIT.out k (Nat.le_of_lt hlt))
      generalize swG f xs k = g0 at hO hG1 hG2 HBK HBG
      have hBw : Below w.heap.size w U := by rw [← HEQ.out.1]; exact hR.below
      have HC1 := Lib.hid (HCN.out k U hBw)
      have HN1 := Lib.hid (fun W (hq : Qt U W) => HNB.out g0 a9 c9 _ _ k W (hBw.qt hq) (hO.qt hq).rd hlt HBG.out)
      have HO := Lib.hid (⟨hO, hR, hH⟩ : _ ∧ _ ∧ _)
      have HKU := Lib.hid k0
      have hkS : (k : Int) < (S : Int) := by omega
      have hcl := nbR_le (g0 k) xs n1
      obtain ⟨cn, hcn⟩ : ∃ cn, cn = nbR (g0 k) xs n1 := ⟨_, rfl⟩
      rw [← hcn] at HN1 hcl
      have HCC := Lib.hid hcn
      clear hO hR hH hBw hcn
      cases hmm : memB xs k with
      | true =>
        have HG := Lib.hid (hG1.out (swSkip_mem hmm))
        rw [hmm] at HC1
        clear hmm HN1
        go_wp2_with fail
        refine HC1.out.mono ?_
        rintro e w3 ⟨rfl, q3⟩
        have HF := Lib.hid (⟨by rw [HG.out]; exact HO.out.1.qt q3, HO.out.2.1.next q3.below, q3.below.keep HKU.out, Nat.le_trans HO.out.2.2 q3.below.size⟩ : OwR L H1 w3 (.slice a9 S c9) (tab S (swG f xs (k + 1))) ∧ _ ∧ _ ∧ _)
        clear q3 HC1 k0
        go_wp2
        go_roundw
        case rel => exact ⟨k+1, by omega, by go_num, HF.out⟩
        case measure => simp [intOf]; omega
      | false =>
        rw [hmm] at HC1
        have w1' : IntKind.i64.wrap (2 * (cn : Int)) = 2 * (cn : Int) := IntWalk.i64_in _ (by omega)
        have w2' : wrap64 (2 * (cn : Int)) = 2 * (cn : Int) := IntWalk.wrap64_in _ (by clear w1'; omega)
        go_wp2_with fail
        refine HC1.out.mono ?_
        rintro e w3 ⟨rfl, q3⟩
        have HN3 := Lib.hid (HN1.out w3 q3)
        have HQ3 := Lib.hid q3
        clear q3 HC1 HN1 k0
        go_wp2_with fail
        refine HN3.out.mono ?_
        rintro e w4 ⟨rfl, q4⟩
        have HQ4 := Lib.hid (HQ3.out.trans q4)
        clear q4 HN3
        by_cases hhf : 2 * cn = n1
        · have hb3 : (2 * (cn : Int) != (n1 : Int)) = false := by simp; clear w1' w2'; omega
          have HG := Lib.hid (show swG f xs (k + 1) = swE g0 xs k n1 by
            have := hG2.out (swSkip_no hmm (by rw [HLL.out, ← HCC.out]; exact hhf))
            rw [HLL.out] at this; exact this)
          have HMM := Lib.hid (fun j (hj : j < n1) => memB_ne hmm (by rw [HLL.out]; exact hj))
          clear hmm hhf
          obtain ⟨b, b1, cb1, rfl, q2, _⟩ := HO.out.1.ent2 (i := k) (j := k) hlt hlt
          have HO4 := Lib.hid (⟨HO.out.1.qt HQ4.out, HQ4.out.below.keep q2, HO.out.2.1.next HQ4.out.below, HQ4.out.below.keep HKU.out, Nat.le_trans HO.out.2.2 HQ4.out.below.size⟩ : OwR L H1 w4 (.slice (some ⟨b, 0, none⟩) S c9) (tab S (swE g0 xs k 0)) ∧ w4.cell? ⟨b, k, none⟩ = some (.slice (some ⟨b1, 0, none⟩) S cb1) ∧ _ ∧ _ ∧ _)
          clear q2 HO HKU
          go_wp2
          clear w1' w2' hb3
          go_loopw [9] (fun v wr => ∃ j : Nat, j ≤ n1 ∧ v = .int .i64 j ∧ OwR L H1 wr (.slice (some ⟨b, 0, none⟩) S c9) (tab S (swE g0 xs k j)) ∧ wr.cell? ⟨b, k, none⟩ = some (.slice (some ⟨b1, 0, none⟩) S cb1) ∧ RbI B y w wr ∧ wr.cell? ⟨B, 0, none⟩ = some (.int .i64 (S : Int)) ∧ H1 ≤ wr.heap.size) (fun v _ => n1 - (intOf v).toNat)
          case atStart => exact ⟨0, Nat.zero_le _, rfl, HO4.out⟩
          case round =>
            rename_i hrel
            clear HO4
            obtain ⟨j, hj, rfl, hO, e2, hR, k0, hH⟩ := hrel
            obtain ⟨Y, rfl⟩ : ∃ Y, Y = wr := ⟨_, rfl⟩
            by_cases hltj : j < n1
            · obtain ⟨m, hxm, hmS⟩ := HXN.out j hltj
              obtain ⟨sb, so, rfl, gs⟩ := HC.out Y (by rw [← HEQ.out.1]; exact hR.below) j hltj
              rw [hxm] at gs
              obtain ⟨gg, bm, cm, hgg, r2, _⟩ := hO.ent2 (i := m) (j := k) hmS hlt
              simp only [Option.some.injEq, Addr.mk.injEq, and_true] at hgg
              subst hgg
              have hmSi : (m : Int) < (S : Int) := by omega
              have hm0 : (0 : Int) ≤ (m : Int) := by omega
              have hjn : (j : Int) < (n1 : Int) := by omega
              have HO5 := Lib.hid (⟨hO, e2, hR, k0, hH⟩ : _ ∧ _ ∧ _ ∧ _ ∧ _)
              have HXM := Lib.hid hxm
              clear hO hR hH k0 hxm
              go_wp2
              go_quiet (fail)
              have hqV : Qt Y (Y.drewN nq) := (Qt.refl Y).drewN nq
              generalize Y.drewN nq = V at hqV ⊢
              obtain ⟨hO, e2, hR, k0, hH⟩ := HO5.out
              have hOV := hO.qt hqV
              have e2V := hqV.below.keep e2
              have r2V := hqV.below.keep r2
              have hRV := hR.next hqV.below
              have k0V := hqV.below.keep k0
              have hHV := Nat.le_trans hH hqV.below.size
              have gsV := hqV.below.keep gs
              clear HO5 hO e2 hR k0 hH r2 gs hqV
              have hqd : Qt V V.drew := (Qt.refl V).drew
              obtain ⟨x3, x4, x5, x6, x7, hgb, x8⟩ := (hOV.qt hqd).row2 (i := k) (j := m) hlt hmS (hqd.below.keep e2V)
              have hstp := swE_step g0 xs k j m HXM.out
              have hxb := HBK.out j hj k hlt m hmS
              obtain ⟨x, hx⟩ : ∃ x, x = swE g0 xs k j k m := ⟨_, rfl⟩
              rw [← hx] at x3 hstp hxb
              obtain ⟨z, hz⟩ : ∃ z, z = 1 - x := ⟨_, rfl⟩
              rw [← hz] at hstp
              have hzI : I64 z := by unfold I64; omega
              have hst := x8 z hzI
              have hyL := HYL.out
              obtain ⟨Z, hZ⟩ : ∃ Z, Z = V.drew.setCell ⟨b1, m, none⟩ (.int .i64 z) := ⟨_, rfl⟩
              rw [← hZ] at hst
              have hcZ : Chg b1 (b1 + 1) V.drew Z := by rw [hZ]; exact (Chg.refl b1 (b1+1) V.drew).setCell (p := ⟨b1, m, none⟩) ⟨Nat.le_refl _, Nat.lt_succ_self _⟩ _
              have hbo : ∀ (o : Nat) (u : Value), V.drew.cell? ⟨b, o, none⟩ = some u → Z.cell? ⟨b, o, none⟩ = some u := fun o u hc => by
                rw [hZ, World.cell?_setCell_other _ _ _ _ (by intro e9; have e8 := congrArg Addr.block e9; dsimp only at e8; omega)]; exact hc
              have e2Z := hbo _ _ (hqd.below.keep e2V)
              have r2Z := hbo _ _ (hqd.below.keep r2V)
              have hRZ : RbI B y w Z := (hRV.next hqd.below).chg hcZ (by omega)
              have k0Z := hcZ.cell (hqd.below.keep k0V) (.inl (show B < b1 by have := hRV.by0; omega))
              obtain ⟨z3, _, _, _, _, _, _⟩ := hst.row2 (i := k) (j := m) hlt hmS e2Z
              rw [show put (swE g0 xs k j) k m z k m = z by unfold put; simp] at z3
              obtain ⟨y3, y4, y5, y6, y7, ygb, y8⟩ := hst.row2 (i := m) (j := k) hmS hlt r2Z
              have hst2 := y8 z hzI
              rw [← hstp] at hst2
              generalize put (swE g0 xs k j) k m z m k = u at y3
              obtain ⟨sb', so', hss, gsZ⟩ := HC.out Z (by rw [← HEQ.out.1]; exact hRZ.below) j hltj
              simp only [Option.some.injEq, Addr.mk.injEq, and_true] at hss
              obtain ⟨rfl, rfl⟩ := hss
              rw [HXM.out] at gsZ
              have hcF : Chg bm (bm + 1) Z (Z.setCell ⟨bm, k, none⟩ (.int .i64 z)) := (Chg.refl bm (bm+1) Z).setCell (p := ⟨bm, k, none⟩) ⟨Nat.le_refl _, Nat.lt_succ_self _⟩ _
              have e2F : (Z.setCell ⟨bm, k, none⟩ (.int .i64 z)).cell? ⟨b, k, none⟩ = some (.slice (some ⟨b1, 0, none⟩) S cb1) := by
                rw [World.cell?_setCell_other _ _ _ _ (by intro e9; have e8 := congrArg Addr.block e9; dsimp only at e8; omega)]; exact e2Z
              have hHF : H1 ≤ (Z.setCell ⟨bm, k, none⟩ (.int .i64 z)).heap.size := Nat.le_trans hHV (Nat.le_trans hqd.below.size (Nat.le_trans hcZ.size hcF.size))
              have HF := Lib.hid (⟨hst2, e2F, hRZ.chg hcF (by omega), hcF.cell k0Z (.inl (show B < bm by have := hRV.by0; omega)), hHF⟩ : _ ∧ _ ∧ _ ∧ _ ∧ _)
              have t1 : IntKind.i64.wrap (1 - x) = z := by rw [hz]; exact IntWalk.i64_in _ (by omega)
              have t2 : wrap64 (1 - x) = z := by rw [hz]; exact IntWalk.wrap64_in _ (by clear t1; omega)
              have gsd : V.drew.cell? ⟨sb, so + j, none⟩ = some (.int .i64 m) := hqd.below.keep gsV
              have x3v : V.cell? ⟨b1, m, none⟩ = some (.int .i64 x) := x3
              have x4v : V.frozen? ⟨b1, m, none⟩ = false := x4
              have HZZ := Lib.hid (⟨e2Z, y3, y4, z3, gsZ⟩ : _ ∧ _ ∧ _ ∧ _ ∧ _)
              clear hst hst2 e2Z e2F r2Z hRZ k0Z y3 y4 z3 gsZ hcF hcZ hbo hHF hHV hRV k0V hOV hyL hzI hz hx hxb hstp x8 y8 x5 x6 x7 y5 y6 y7 e2V r2V hqd
              go_wp2
              go_still_tail 14, (by kernel_rfl)
              change wpList _ _ _ _ _ V.drew
              clear gsV x3v x4v t1 t2
              generalize V.drew = V2 at hZ gsd x3 x4 ⊢
              obtain ⟨e2Z, y3, y4, z3, gsZ⟩ := HZZ.out
              rw [hZ] at y3 y4 z3 gsZ HF
              clear e2Z HZZ hZ
              go_wp2
              go_roundw
              case rel => exact ⟨j+1, by omega, by go_num, HF.out⟩
              case measure => simp [intOf]; omega
            · obtain rfl : j = n1 := by omega
              rw [← HG.out] at hO
              have HF := Lib.hid (⟨hO, hR, k0, hH⟩ : _ ∧ _ ∧ _ ∧ _)
              clear hO hR hH e2 k0
              go_wp2
              go_roundw
              case rel => exact ⟨k+1, by omega, by go_num, HF.out⟩
              case measure => simp [intOf]; omega
        · have hb3 : (2 * (cn : Int) != (n1 : Int)) = true := by simp; clear w1' w2'; omega
          have HG := Lib.hid (hG1.out (swSkip_half (by rw [HLL.out, ← HCC.out]; exact hhf)))
          have HF := Lib.hid (⟨by rw [HG.out]; exact HO.out.1.qt HQ4.out, HO.out.2.1.next HQ4.out.below, HQ4.out.below.keep HKU.out, Nat.le_trans HO.out.2.2 HQ4.out.below.size⟩ : OwR L H1 w4 (.slice a9 S c9) (tab S (swG f xs (k + 1))) ∧ _ ∧ _ ∧ _)
          clear hmm hhf
          go_wp2
          clear w1' w2'
          go_roundw
          case rel => exact ⟨k+1, by omega, by go_num, HF.out⟩
          case measure => simp [intOf]; omega
    · obtain rfl : k = S := by omega
      have HC1 := Lib.hid (HSM.out a9 c9 _ _ U hO.rd)
      rw [← HRS.out] at HC1
      have HR := Lib.hid (⟨hR, hH⟩ : _ ∧ _)
      clear hO hR hH HSM
      go_wp2_with fail
      refine HC1.out.mono ?_
      clear k0
      rintro e w5 ⟨a5, c5, rfl, o5, b5⟩
      have hR5 := HR.out.1.next b5
      obtain ⟨y0, y1, f0, f1, ylt, hB5⟩ := (⟨hR5.y0, hR5.y1, hR5.f0, hR5.f1, hR5.ylt, hR5.below⟩ : _ ∧ _ ∧ _ ∧ _ ∧ _ ∧ _)
      have hyU : y < U.heap.size := HR.out.1.ylt
      have HQ := Lib.hid (⟨o5, hB5, b5.size, hR5.by0, HR.out.1.below.size⟩ : _ ∧ Below B w w5 ∧ _ ∧ B ≤ y ∧ _)
      clear o5 b5 hB5 hR5 HC1 HR
      have hBy := HQ.out.2.2.2.1
      have hch : Chg y (y + 1) w5 ((w5.setCell ⟨y, 0, none⟩ (.int .i64 R.1.1)).setCell ⟨y, 1, none⟩ (.slice a5 R.1.2.length c5)) := by
        repeat (refine Chg.setCell ?_ (by constructor <;> simp <;> omega) _)
        exact Chg.refl _ _ _
      have c0 : ((w5.setCell ⟨y, 0, none⟩ (.int .i64 R.1.1)).setCell ⟨y, 1, none⟩ (.slice a5 R.1.2.length c5)).cell? ⟨y, 0, none⟩ = some (.int .i64 R.1.1) := by
        rw [World.cell?_setCell_other _ _ _ _ (by simp)]; exact World.cell?_setCell_same _ _ _ y0
      have c1 : ((w5.setCell ⟨y, 0, none⟩ (.int .i64 R.1.1)).setCell ⟨y, 1, none⟩ (.slice a5 R.1.2.length c5)).cell? ⟨y, 1, none⟩ = some (.slice a5 R.1.2.length c5) := by
        refine World.cell?_setCell_same (u := .slice none 0 0) _ _ _ ?_
        rw [World.cell?_setCell_other _ _ _ _ (by simp)]; exact y1
      obtain ⟨w6, hw6⟩ : ∃ w6, w6 = (w5.setCell ⟨y, 0, none⟩ (.int .i64 R.1.1)).setCell ⟨y, 1, none⟩ (.slice a5 R.1.2.length c5) := ⟨_, rfl⟩
      rw [← hw6] at hch c0 c1
      have HW6 := Lib.hid hw6
      have hzz := hch.size
      have ba5 := (Below.refl w6.heap.size w6).alloc (Nat.le_refl _) (.cells #[.int .i64 R.1.1, .slice a5 R.1.2.length c5] 29)
      have HQ5 := Lib.hid (⟨((HQ.out.1.chg hch (.inr hyU)).below ba5).mono (show B ≤ U.heap.size by omega) (show w5.heap.size ≤ (w6.alloc (.cells #[.int .i64 R.1.1, .slice a5 R.1.2.length c5] 29)).heap.size by simp; omega), (HQ.out.2.1.chgn hch hBy (by omega)).trans (ba5.mono (by omega)), ba5.keep c0, ba5.keep c1⟩ : _ ∧ Below B w (w6.alloc (.cells #[.int .i64 R.1.1, .slice a5 R.1.2.length c5] 29)) ∧ _ ∧ _)
      clear ba5 hch c0 c1 hw6
      go_wp2
      rw [← HEQ.out.1, ← HW6.out]
      obtain ⟨q1, q2, q3, q4⟩ := HQ5.out
      exact bodyPost_ret (v := .tuple #[.agg #[.int .i64 R.1.1, .slice a5 R.1.2.length c5], .int .i64 R.2]) (by simp [results, Try.results46, go_sem, q3, q4]) rfl ⟨a5, c5, rfl, q1, q2⟩

end Go.Proofs.Ytolipjemabmlkaa
