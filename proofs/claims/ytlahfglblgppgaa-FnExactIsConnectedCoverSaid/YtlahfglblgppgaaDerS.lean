/- The model's derived graph. -/
import Derived.Test.YtlahfglblgppgaaDerI
import Derived.Test.YtlahfglblgppgaaCoreB
import Derived.Test.YtlahfglblgppgaaSpecCov
import Derived.Deep.RegionLaw
set_option linter.unusedSimpArgs false
set_option linter.unusedVariables false
set_option maxRecDepth 100000
namespace Go.Proofs.Ytlahfglblgppgaa
open Go.RowKit

/-- what both loops of the model keep -/
structure DsI (B R G x S : Nat) (Z : Int) (a : Option Addr) (n c : Nat) (ta : Option Addr) (tc : Nat) (w : World) (rows : List (List Int)) (g m c' : Nat) (rvs : List Value) (W : World) : Prop where
  P : OwP G x W g m c' rvs rows
  below : Below B w W
  xz : x < W.heap.size
  k1 : W.cell? ⟨B, 1, none⟩ = some (.slice a n c)
  k2 : W.cell? ⟨B, 2, none⟩ = some (.int .i64 (S : Int))
  k3 : W.cell? ⟨B, 3, none⟩ = some (.slice ta n tc)
  r0 : W.cell? ⟨R, 0, none⟩ = some (.int .i64 0)
  r1 : W.cell? ⟨R, 1, none⟩ = some (.slice none 0 0)
  q0 : W.frozen? ⟨R, 0, none⟩ = false
  q1 : W.frozen? ⟨R, 1, none⟩ = false
  x0 : W.cell? ⟨x, 0, none⟩ = some (.int .i64 Z)
  x1 : W.cell? ⟨x, 1, none⟩ = some (.slice (some ⟨g, 0, none⟩) m c')
  xf : W.frozen? ⟨x, 1, none⟩ = false
theorem DsI.step {B R G x S : Nat} {Z : Int} {a : Option Addr} {n c : Nat} {ta : Option Addr} {tc : Nat} {w : World} {rows rows' : List (List Int)} {g m c' g2 m2 c3 : Nat} {rvs rvs' : List Value} {W w3 : World} (h : DsI B R G x S Z a n c ta tc w rows g m c' rvs W) (o1 : B < R) (o2 : R < G) (o3 : G < x) (hch : Chg g (g + 1) W w3)
    (hP : OwP G x (w3.setCell ⟨x, 1, none⟩ (.slice (some ⟨g2, 0, none⟩) m2 c3)) g2 m2 c3 rvs' rows') : DsI B R G x S Z a n c ta tc w rows' g2 m2 c3 rvs' (w3.setCell ⟨x, 1, none⟩ (.slice (some ⟨g2, 0, none⟩) m2 c3)) := by
  have hgl := h.P.lt
  have hgx := h.P.exg
  have hxz := h.xz
  have hbx : Chg x (x+1) w3 (w3.setCell ⟨x, 1, none⟩ (.slice (some ⟨g2, 0, none⟩) m2 c3)) := (Chg.refl x (x+1) _).setCell (p := ⟨x, 1, none⟩) ⟨Nat.le_refl _, Nat.lt_succ_self _⟩ _
  have hs := hch.size
  have kp : ∀ (b o : Nat) (v : Value), b < G → W.cell? ⟨b, o, none⟩ = some v → (w3.setCell ⟨x, 1, none⟩ (.slice (some ⟨g2, 0, none⟩) m2 c3)).cell? ⟨b, o, none⟩ = some v := fun b o v hb hv =>
    hbx.cell (hch.cell hv (show b < g ∨ _ by left; omega)) (show b < x ∨ _ by left; omega)
  have kf : ∀ (b o : Nat), b < G → W.frozen? ⟨b, o, none⟩ = false → (w3.setCell ⟨x, 1, none⟩ (.slice (some ⟨g2, 0, none⟩) m2 c3)).frozen? ⟨b, o, none⟩ = false := fun b o hb hv =>
    hbx.frozen (show b < w3.heap.size by omega) (show b < x ∨ _ by left; omega) (hch.frozen (show b < W.heap.size by omega) (show b < g ∨ _ by left; omega) hv)
  have hgxx : x < g ∨ g + 1 ≤ x := by omega
  have y5 := hch.cell h.x1 hgxx
  exact ⟨hP, (h.below.chgn hch (by omega) (by omega)).chgn hbx (by omega) (by omega), by rw [World.size_setCell]; omega, kp _ _ _ (by omega) h.k1, kp _ _ _ (by omega) h.k2, kp _ _ _ (by omega) h.k3, kp _ _ _ (by omega) h.r0, kp _ _ _ (by omega) h.r1, kf _ _ (by omega) h.q0, kf _ _ (by omega) h.q1,
    by rw [World.cell?_setCell_other _ _ _ _ (by simp)]; exact hch.cell h.x0 hgxx, World.cell?_setCell_same _ _ _ y5, by rw [World.frozen?_setCell]; exact hch.frozen hxz hgxx h.xf⟩

theorem snocCd {W0 w1 w3 : World} {o : Obj} {g : Nat} (hb : Below W0.heap.size W0 w1.drew) (hgr : (w1.alloc o).drew.grownBy w3 (some g)) : Chg g (g + 1) W0 w3 := snocC (w := w1.drew) (o := o) hb hgr
theorem copy_closeD {G x g k c' g2 c3 hi : Nat} {wr w1 w3 : World} {o : Obj} {rvs : List Value} {xs : List (List Int)} {rv : Value} {ys : List Int} (HP : OwP G x wr g k c' rvs xs) (hx : x < wr.heap.size) (bb : Below wr.heap.size wr w1.drew) (o2 : OwI wr.heap.size hi w1.drew rv ys)
    (hown : w3.ownsRow G 26 1 (.slice (some ⟨g2, 0, none⟩) (k + 1) c3) (k + 1) (rvs ++ [rv])) (hgr : (w1.alloc o).drew.grownBy w3 (some g)) (hlie : some g = some g2 ∨ g2 = (w1.alloc o).drew.heap.size) (v : Value) :
    OwP G x (w3.setCell ⟨x, 1, none⟩ v) g2 (k + 1) c3 (rvs ++ [rv]) (xs ++ [ys]) := copy_close (w1 := w1.drew) (o := o) HP hx bb o2 hown hgr hlie v

set_option maxHeartbeats 8000000 in
theorem l04Derived {lo hi lo' hi' : Nat} (s : Nat) (a : Option Addr) (n c : Nat) (xss : List (List Int)) (S : Nat) (ta : Option Addr) (tn tc : Nat) (ts : List (List Int)) (w : World)
    (h : RdR lo hi w (.slice a n c) xss) (hn : xss.length = n) (h' : RdR lo' hi' w (.slice ta tn tc) ts) (hn' : ts.length = tn) (hcv : cvB (s : Int) xss (S : Int) ts = true) :
    Calls Try.prog 106 #[.agg #[.int .i64 (s : Int), .slice a n c, .int .i64 (S : Int), .slice ta tn tc]] w fun e w' => ∃ a' c', e = .returned (.agg #[.int .i64 ((s : Int) * (S : Int)), .slice a' (derR S xss ts n).length c']) ∧ OwR w.heap.size w'.heap.size w' (.slice a' (derR S xss ts n).length c') (derR S xss ts n) ∧ Below w.heap.size w w' := by
  obtain ⟨i0, hi0, z0, z1, z2⟩ := info_parts Try.info26
  obtain ⟨hg, hs8, ⟨hS1, hS4⟩, htl, hpm⟩ := cvB_hd hcv
  have hg4 := grB_iff hg
  have hn10 : n ≤ 10 := by omega
  have hb0 : ∀ o o', Below w.heap.size w ((w.alloc o).alloc o') := fun o o' => ((Below.refl _ _).alloc (Nat.le_refl _) o).alloc (by simp) o'
  have HES := Lib.hid (show ∀ q, q < n → (xss.getD q []).length = 2 ∧ (pairs xss).getD q (0, 0) = ((xss.getD q []).getD 0 0, (xss.getD q []).getD 1 0) ∧ (0 ≤ (xss.getD q []).getD 0 0 ∧ (xss.getD q []).getD 0 0 < (s : Int)) ∧ (0 ≤ (xss.getD q []).getD 1 0 ∧ (xss.getD q []).getD 1 0 < (s : Int)) from fun q hq => by
    have := hg4.2.2.2 q (by omega)
    rw [pairs_getD]
    exact ⟨this.1, rfl, by omega, by omega⟩)
  have HTS := Lib.hid (show ∀ q, q < n → (ts.getD q []).length = S ∧ ∀ j, j < S → 0 ≤ (ts.getD q []).getD j 0 ∧ (ts.getD q []).getD j 0 < (S : Int) from fun q hq => by
    have hp : permB (S : Int) (ts.getD q []) = true := List.all_eq_true.1 hpm _ (by simp [List.getD, List.getElem?_eq_getElem (show q < ts.length by omega)])
    have hl := permB_len hp
    refine ⟨by omega, fun j hj => ?_⟩
    have := permB_in hp j (by omega)
    unfold inR at this
    simp only [Bool.and_eq_true, decide_eq_true_eq] at this
    exact this)
  have hmul : (s : Int) * (S : Int) ≤ 32 ∧ 0 ≤ (s : Int) * (S : Int) := by
    have h1 := Int.mul_le_mul (show (s : Int) ≤ 8 by omega) (show (S : Int) ≤ 4 by omega) (by omega) (by decide)
    exact ⟨by simpa using h1, Int.mul_nonneg (by omega) (by omega)⟩
  have hnn : n = tn := by omega
  subst hnn
  unfold derR
  generalize pairs xss = es at *
  have HN := Lib.hid hn
  have HTL := Lib.hid hn'
  have HR := Lib.hid (fun W (hB : Below w.heap.size w W) => (h.below hB))
  have HTR := Lib.hid (fun W (hB : Below w.heap.size w W) => (h'.below hB))
  obtain ⟨Z, hZ⟩ : ∃ Z, Z = (s : Int) * (S : Int) := ⟨_, rfl⟩
  rw [← hZ] at hmul ⊢
  have w1 : IntKind.i64.wrap ((s : Int) * (S : Int)) = Z := by rw [← hZ]; exact IntWalk.i64_in _ (by clear hZ; omega)
  have w2 : wrap64 ((s : Int) * (S : Int)) = Z := by rw [← hZ]; exact IntWalk.wrap64_in _ (by clear w1 hZ; omega)
  have hS0 : 1 ≤ S := by clear w1 w2; omega
  have hs0 : (s : Int) ≤ 8 := by clear w1 w2; omega
  clear h hn h' hn' hcv hg hg4 hpm htl hs8 hZ
  go_enter Try.func106, Try.ntmps106
  go_wp2_with fail
  clear w1 w2
  have hlit : ((w.alloc (.cells #[.int .i64 (s : Int), .slice a n c, .int .i64 (S : Int), .slice ta n tc] 58)).alloc (.cells #[.int .i64 0, .slice none 0 0] 29)).heap.size = w.heap.size + 1 + 1 := by simp
  have hl0 := World.ownsRow_lit (base := w.heap.size + 1 + 1) (e := 26) (size := 1) ((w.alloc (.cells #[.int .i64 (s : Int), .slice a n c, .int .i64 (S : Int), .slice ta n tc] 58)).alloc (.cells #[.int .i64 0, .slice none 0 0] 29)) #[] 0 (by rw [hlit]; exact Nat.le_refl _) (by unfold maxLen; omega) rfl
  rw [hlit] at hl0
  have hl1 := hl0.alloc (.cells #[.int .i64 Z, .slice (some ⟨w.heap.size + 1 + 1, 0, none⟩) 0 0] 29)
  have hD0 : DsI w.heap.size (w.heap.size + 1) (w.heap.size + 1 + 1) (w.heap.size + 1 + 1 + 1) S Z a n c ta tc w (unp (derE S es ts 0)) (w.heap.size + 1 + 1) 0 0 [] ((((w.alloc (.cells #[.int .i64 (s : Int), .slice a n c, .int .i64 (S : Int), .slice ta n tc] 58)).alloc (.cells #[.int .i64 0, .slice none 0 0] 29)).alloc (.cells #[] 26)).alloc (.cells #[.int .i64 Z, .slice (some ⟨w.heap.size + 1 + 1, 0, none⟩) 0 0] 29)) := by
    refine ⟨OwP.empty hl1 (by omega), ?_, by simp, by go_simp, by go_simp, by go_simp, by go_simp, by go_simp, by go_simp, by go_simp, by go_simp, by go_simp, by go_simp⟩
    exact ((((Below.refl _ _).alloc (Nat.le_refl _) _).alloc (by simp) _).alloc (by simp; omega) _).alloc (by simp; omega) _
  have HD := Lib.hid hD0
  obtain ⟨x, hx⟩ : ∃ x, x = w.heap.size + 1 + 1 + 1 := ⟨_, rfl⟩
  obtain ⟨G, hG⟩ : ∃ G, G = w.heap.size + 1 + 1 := ⟨_, rfl⟩
  obtain ⟨R, hR⟩ : ∃ R, R = w.heap.size + 1 := ⟨_, rfl⟩
  rw [← hx, ← hG, ← hR] at HD
  rw [← hx, ← hG, ← hR]
  have hord : w.heap.size < R ∧ R < G ∧ G < x := by omega
  clear hl0 hl1 hlit hD0 hx hG hR
  generalize (((w.alloc _).alloc _).alloc _).alloc _ = V0 at HD ⊢
  go_loopw [4] (fun i wr => ∃ (k m g c' : Nat) (rvs : List Value), k ≤ n ∧ i = .int .i64 k ∧ m = k * S ∧ DsI w.heap.size R G x S Z a n c ta tc w (unp (derE S es ts k)) g m c' rvs wr) (fun i _ => n - (intOf i).toNat)
  case atStart => exact ⟨0, 0, G, 0, [], Nat.zero_le _, rfl, by omega, HD.out⟩
  case round =>
    clear HD
    obtain ⟨k, m, g, c', rvs, hk, rfl, hm, hD⟩ := hrel
    obtain ⟨U, rfl⟩ : ∃ U, U = wr := ⟨_, rfl⟩
    have k3 := hD.k3
    by_cases hlt : k < n
    · have hst : derE S es ts (k + 1) = derE S es ts k ++ derK S (es.getD k (0, 0)) (ts.getD k []) S := rfl
      have HST := Lib.hid hst
      have HP0 := Lib.hid (show DsI w.heap.size R G x S Z a n c ta tc w (unp (derE S es ts k ++ derK S (es.getD k (0, 0)) (ts.getD k []) 0)) g m c' rvs U by simpa [derK] using hD)
      have HM0 := Lib.hid hm
      clear hst hD hm
      go_wp2
      clear k3
      go_loopw [5] (fun i wr2 => ∃ (j m2 g2 c2 : Nat) (rvs2 : List Value), j ≤ S ∧ i = .int .i64 j ∧ Hid (m2 = k * S + j) ∧ DsI w.heap.size R G x S Z a n c ta tc w (unp (derE S es ts k ++ derK S (es.getD k (0, 0)) (ts.getD k []) j)) g2 m2 c2 rvs2 wr2) (fun i _ => S - (intOf i).toNat)
      case atStart => exact ⟨0, m, g, c', rvs, Nat.zero_le _, rfl, Lib.hid (by rw [HM0.out]; rfl), HP0.out⟩
      case round =>
        rename_i hrel
        clear HP0
        obtain ⟨j, m2, g2', c2, rvs2, hj, rfl, HME, hD⟩ := hrel
        have k2 := hD.k2
        by_cases hlj : j < S
        · obtain ⟨rb, ro, rv, rfl, h1, r1⟩ := (HR.out w (Below.refl _ _)).at HN.out k hlt
          obtain ⟨hel, hep, he1, he2⟩ := HES.out k hlt
          obtain ⟨eb, eo, ec, rfl, d0, d1⟩ := r1.two hel
          obtain ⟨tb, to, tv, rfl, g1, rt⟩ := (HTR.out w (Below.refl _ _)).at HTL.out k hlt
          obtain ⟨htl, htin⟩ := HTS.out k hlt
          obtain ⟨tra, trc, htv⟩ := rt.shape
          rw [htl] at htv
          subst htv
          obtain ⟨qb, qo, rfl, g2⟩ := rt.cellsC htl j hlj
          have L2 := World.block_lt_of_cell? w _ h1
          have L3 := World.block_lt_of_cell? w _ d0
          have L4 := World.block_lt_of_cell? w _ g1
          have L5 := World.block_lt_of_cell? w _ g2
          replace h1 := hD.below.keep h1
          replace d0 := hD.below.keep d0
          replace d1 := hD.below.keep d1
          replace g1 := hD.below.keep g1
          replace g2 := hD.below.keep g2
          have hz := htin j hlj
          have hks := derK_step S (es.getD k (0, 0)) (ts.getD k []) j
          rw [hep] at hks
          generalize (xss.getD k []).getD 0 0 = p at *
          generalize (xss.getD k []).getD 1 0 = q at *
          generalize (ts.getD k []).getD j 0 = z at *
          have hm1 : 0 ≤ p * (S : Int) ∧ p * (S : Int) ≤ 28 := by
            have h1 := Int.mul_le_mul (show p ≤ 7 by omega) (show (S : Int) ≤ 4 by omega) (by omega) (by decide)
            exact ⟨Int.mul_nonneg he1.1 (by omega), by simpa using h1⟩
          have hm2 : 0 ≤ q * (S : Int) ∧ q * (S : Int) ≤ 28 := by
            have h1 := Int.mul_le_mul (show q ≤ 7 by omega) (show (S : Int) ≤ 4 by omega) (by omega) (by decide)
            exact ⟨Int.mul_nonneg he2.1 (by omega), by simpa using h1⟩
          obtain ⟨X1, hX1⟩ : ∃ X1, X1 = p * (S : Int) := ⟨_, rfl⟩
          obtain ⟨Y1, hY1⟩ : ∃ Y1, Y1 = q * (S : Int) := ⟨_, rfl⟩
          dsimp only at hks
          rw [← hX1] at hm1 hks
          rw [← hY1] at hm2 hks
          have hun : unp (derE S es ts k ++ derK S (es.getD k (0, 0)) (ts.getD k []) (j + 1)) = unp (derE S es ts k ++ derK S (es.getD k (0, 0)) (ts.getD k []) j) ++ [[X1 + (j : Int), Y1 + z]] := by
            rw [hep, hks, ← List.append_assoc]
            unfold unp
            rw [List.map_append]
            rfl
          have HUN := Lib.hid hun
          generalize unp (derE S es ts k ++ derK S (es.getD k (0, 0)) (ts.getD k []) j) = rows at *
          have hmk : m2 ≤ 40 := by
            have := Nat.mul_le_mul (show k ≤ 9 by omega) (show S ≤ 4 by omega)
            have := HME.out
            omega
          have HDD := Lib.hid hD
          have hgl := hD.P.lt
          have hgx := hD.P.exg
          have hxz := hD.xz
          obtain ⟨XA, hXA⟩ : ∃ XA, XA = X1 + (j : Int) := ⟨_, rfl⟩
          obtain ⟨YB, hYB⟩ : ∃ YB, YB = Y1 + z := ⟨_, rfl⟩
          rw [← hXA, ← hYB] at HUN
          have hI1 : I64 XA := by unfold I64; omega
          have hI2 : I64 YB := by unfold I64; omega
          have hVB : Below wr.heap.size wr wr.drew := (Qt.refl wr).drew.below
          have hAB : Below wr.heap.size wr (wr.alloc (.cells #[.int .i64 XA, .int .i64 YB] 2)) := (Below.refl _ _).alloc (Nat.le_refl _) _
          have hAC : Below wr.heap.size wr ((wr.alloc (.cells #[.int .i64 XA, .int .i64 YB] 2)).alloc (.cells #[.slice (some ⟨wr.heap.size, 0, none⟩) 2 2] 26)) := hAB.alloc hAB.size _
          have hABd : Below wr.heap.size wr (wr.alloc (.cells #[.int .i64 XA, .int .i64 YB] 2)).drew := hAB.qt (Qt.refl _).drew
          have hACd : Below wr.heap.size wr ((wr.alloc (.cells #[.int .i64 XA, .int .i64 YB] 2)).alloc (.cells #[.slice (some ⟨wr.heap.size, 0, none⟩) 2 2] 26)).drew := hAC.qt (Qt.refl _).drew
          have a1 := hVB.keep hD.k1
          have a2 := hVB.keep hD.k2
          have a3 := hVB.keep hD.k3
          have a4 := hVB.keep h1
          have a5 := hVB.keep d0
          have a6 := hVB.keep d1
          have a7 := hVB.keep g1
          have a8 := hVB.keep g2
          have b0 := hD.x1
          have b1 := hVB.keep hD.x1
          have b2 := hAB.keep hD.x1
          have b3 := hAC.keep hD.x1
          have b4 := hABd.keep hD.x1
          have b5 := hACd.keep hD.x1
          have bf := hD.xf
          have hown1 := ownsRow_chg hD.P.out (hACd.chg 0 0) (fun _ _ => .inr (Nat.zero_le _))
          have hnews : ∀ (j : Nat) (u : Value), [Value.slice (some ⟨wr.heap.size, 0, none⟩) 2 2][j]? = some u → ((wr.alloc (.cells #[.int .i64 XA, .int .i64 YB] 2)).alloc (.cells #[.slice (some ⟨wr.heap.size, 0, none⟩) 2 2] 26)).drew.cell? (({ block := wr.heap.size + 1, off := 0 } : Addr).add j) = some u := by
            have := news_one (wr.alloc (.cells #[.int .i64 XA, .int .i64 YB] 2)) 26 (.slice (some ⟨wr.heap.size, 0, none⟩) 2 2)
            have hsz : (wr.alloc (.cells #[.int .i64 XA, .int .i64 YB] 2)).heap.size = wr.heap.size + 1 := by simp
            rw [hsz] at this
            exact this
          have hone : ∀ u ∈ [Value.slice (some ⟨wr.heap.size, 0, none⟩) 2 2], u.oneCell' = true := fun u hu => by simp at hu; subst hu; rfl
          have hbase : G ≤ ((wr.alloc (.cells #[.int .i64 XA, .int .i64 YB] 2)).alloc (.cells #[.slice (some ⟨wr.heap.size, 0, none⟩) 2 2] 26)).drew.heap.size := by have := hACd.size; omega
          have hm63 : m2 + 1 ≤ maxLen := by unfold maxLen; omega
          have hby : (m2 + 1) * 24 ≤ 140737488355328 := by omega
          have hgxx : x < g2' ∨ g2' + 1 ≤ x := by omega
          have hrow := (OwI.two (lo := wr.heap.size) (w := wr) hI1 hI2 (Nat.le_refl wr.heap.size)).qt (Qt.refl _).drew
          have HAB := Lib.hid (⟨hABd, hrow, hACd⟩ : _ ∧ _ ∧ _)
          have HS := Lib.hid (show ∀ W' : World, (∀ b o v, b < G → wr.cell? ⟨b, o, none⟩ = some v → W'.cell? ⟨b, o, none⟩ = some v) → (W'.cell? ⟨w.heap.size, 1, none⟩ = some (.slice (some ⟨rb, ro, none⟩) n c) ∧ W'.cell? ⟨w.heap.size, 2, none⟩ = some (.int .i64 (S : Int)) ∧ W'.cell? ⟨w.heap.size, 3, none⟩ = some (.slice (some ⟨tb, to, none⟩) n tc) ∧ W'.cell? ⟨rb, ro + k, none⟩ = some (.slice (some ⟨eb, eo, none⟩) 2 ec) ∧ W'.cell? ⟨eb, eo, none⟩ = some (.int .i64 p) ∧ W'.cell? ⟨eb, eo + 1, none⟩ = some (.int .i64 q) ∧ W'.cell? ⟨tb, to + k, none⟩ = some (.slice (some ⟨qb, qo, none⟩) S trc) ∧ W'.cell? ⟨qb, qo + j, none⟩ = some (.int .i64 z)) from fun W' hp => ⟨hp _ _ _ (by omega) hD.k1, hp _ _ _ (by omega) hD.k2, hp _ _ _ (by omega) hD.k3, hp _ _ _ (by simp at L2; omega) h1, hp _ _ _ (by simp at L3; omega) d0, hp _ _ _ (by simp at L3; omega) d1, hp _ _ _ (by simp at L4; omega) g1, hp _ _ _ (by simp at L5; omega) g2⟩)
          have HLT : Hid (w.heap.size < R ∧ R < G ∧ G < x ∧ G ≤ g2') := Lib.hid ⟨hord.1, hord.2.1, hord.2.2, hgl.1⟩
          have HKV := Lib.hid (fun b o v (hv : wr.cell? ⟨b, o, none⟩ = some v) => (⟨hVB.keep hv, hABd.keep hv, hACd.keep hv⟩ : _ ∧ _ ∧ _))
          have t1 : IntKind.i64.wrap (p * (S : Int)) = X1 := by rw [← hX1]; exact IntWalk.i64_in _ (by omega)
          have t2 : wrap64 (p * (S : Int)) = X1 := by rw [← hX1]; exact IntWalk.wrap64_in _ (by clear t1; omega)
          have t3 : IntKind.i64.wrap (q * (S : Int)) = Y1 := by rw [← hY1]; exact IntWalk.i64_in _ (by clear t1 t2; omega)
          have t4 : wrap64 (q * (S : Int)) = Y1 := by rw [← hY1]; exact IntWalk.wrap64_in _ (by clear t1 t2 t3; omega)
          have t5 : IntKind.i64.wrap (X1 + (j : Int)) = XA := by rw [hXA]; exact IntWalk.i64_in _ (by clear t1 t2 t3 t4; omega)
          have t6 : wrap64 (X1 + (j : Int)) = XA := by rw [hXA]; exact IntWalk.wrap64_in _ (by clear t1 t2 t3 t4 t5; omega)
          have t7 : IntKind.i64.wrap (Y1 + z) = YB := by rw [hYB]; exact IntWalk.i64_in _ (by clear t1 t2 t3 t4 t5 t6; omega)
          have t8 : wrap64 (Y1 + z) = YB := by rw [hYB]; exact IntWalk.wrap64_in _ (by clear t1 t2 t3 t4 t5 t6 t7; omega)
          clear hks hX1 hY1 hun hD rt htin hel hep htl hrow hAC hAB hABd hACd r1 he1 he2 hXA hYB hVB
          go_wp2
          refine wp_region_held_drew (S := fun W' => W'.cell? ⟨w.heap.size, 1, none⟩ = some (.slice (some ⟨rb, ro, none⟩) n c) ∧ W'.cell? ⟨w.heap.size, 2, none⟩ = some (.int .i64 (S : Int)) ∧ W'.cell? ⟨w.heap.size, 3, none⟩ = some (.slice (some ⟨tb, to, none⟩) n tc) ∧ W'.cell? ⟨rb, ro + k, none⟩ = some (.slice (some ⟨eb, eo, none⟩) 2 ec) ∧ W'.cell? ⟨eb, eo, none⟩ = some (.int .i64 p) ∧ W'.cell? ⟨eb, eo + 1, none⟩ = some (.int .i64 q) ∧ W'.cell? ⟨tb, to + k, none⟩ = some (.slice (some ⟨qb, qo, none⟩) S trc) ∧ W'.cell? ⟨qb, qo + j, none⟩ = some (.int .i64 z)) (by kernel_rfl) (HS.out _ (fun b o v hb hv => (HKV.out b o v hv).1)) (fun hHeld => ?_)
          refine wpAnyH_take (i := 0) (oi := ?oz1) (v := ?vz1) ?h1z1 ?h2z1 ?h3z1 ?h4z1 ?h5z1 ?h6z1 ?h7z1 ?h8z1
          case h1z1 => (simp only [List.getElem?_toArray, List.getElem?_cons_succ, List.getElem?_cons_zero]; exact rfl)
          case h2z1 => kernel_rfl
          case h3z1 => kernel_rfl
          case h4z1 => kernel_rfl
          case h5z1 => exact fun _ _ _ h => h
          case h6z1 => (refine Or.inl ⟨by rfl, ?_⟩; intro W' hSw; obtain ⟨s1, s2, s3, s4, s5, s6, s7, s8⟩ := hSw; go_simp; try (with_reducible rfl))
          case h7z1 => assumption
          try simp only [Act.put, List.setIfInBounds_toArray, List.set_cons_zero, List.set_cons_succ]
          refine wpAnyH_take (i := 2) (oi := ?oz2) (v := ?vz2) ?h1z2 ?h2z2 ?h3z2 ?h4z2 ?h5z2 ?h6z2 ?h7z2 ?h8z2
          case h1z2 => (simp only [List.getElem?_toArray, List.getElem?_cons_succ, List.getElem?_cons_zero]; exact rfl)
          case h2z2 => kernel_rfl
          case h3z2 => kernel_rfl
          case h4z2 => kernel_rfl
          case h5z2 => exact fun _ _ _ h => h
          case h6z2 => (refine Or.inl ⟨by rfl, ?_⟩; intro W' hSw; obtain ⟨s1, s2, s3, s4, s5, s6, s7, s8⟩ := hSw; go_simp; try (with_reducible rfl))
          case h7z2 => assumption
          try simp only [Act.put, List.setIfInBounds_toArray, List.set_cons_zero, List.set_cons_succ]
          refine wpAnyH_take (i := 3) (oi := ?oz3) (v := ?vz3) ?h1z3 ?h2z3 ?h3z3 ?h4z3 ?h5z3 ?h6z3 ?h7z3 ?h8z3
          case h1z3 => (simp only [List.getElem?_toArray, List.getElem?_cons_succ, List.getElem?_cons_zero]; exact rfl)
          case h2z3 => kernel_rfl
          case h3z3 => kernel_rfl
          case h4z3 => kernel_rfl
          case h5z3 => exact fun _ _ _ h => h
          case h6z3 => (refine Or.inl ⟨by rfl, ?_⟩; intro W' hSw; obtain ⟨s1, s2, s3, s4, s5, s6, s7, s8⟩ := hSw; go_simp; try (with_reducible rfl))
          case h7z3 => assumption
          try simp only [Act.put, List.setIfInBounds_toArray, List.set_cons_zero, List.set_cons_succ]
          refine wpAnyH_take (i := 4) (oi := ?oz4) (v := ?vz4) ?h1z4 ?h2z4 ?h3z4 ?h4z4 ?h5z4 ?h6z4 ?h7z4 ?h8z4
          case h1z4 => (simp only [List.getElem?_toArray, List.getElem?_cons_succ, List.getElem?_cons_zero]; exact rfl)
          case h2z4 => kernel_rfl
          case h3z4 => kernel_rfl
          case h4z4 => kernel_rfl
          case h5z4 => exact fun _ _ _ h => h
          case h6z4 => (refine Or.inl ⟨by rfl, ?_⟩; intro W' hSw; obtain ⟨s1, s2, s3, s4, s5, s6, s7, s8⟩ := hSw; go_simp; try (with_reducible rfl))
          case h7z4 => assumption
          try simp only [Act.put, List.setIfInBounds_toArray, List.set_cons_zero, List.set_cons_succ]
          refine wpAnyH_take (i := 5) (oi := ?oz5) (v := ?vz5) ?h1z5 ?h2z5 ?h3z5 ?h4z5 ?h5z5 ?h6z5 ?h7z5 ?h8z5
          case h1z5 => (simp only [List.getElem?_toArray, List.getElem?_cons_succ, List.getElem?_cons_zero]; exact rfl)
          case h2z5 => kernel_rfl
          case h3z5 => kernel_rfl
          case h4z5 => kernel_rfl
          case h5z5 => exact fun _ _ _ h => h
          case h6z5 => (refine Or.inl ⟨by rfl, ?_⟩; intro W' hSw; obtain ⟨s1, s2, s3, s4, s5, s6, s7, s8⟩ := hSw; go_simp; try (with_reducible rfl))
          case h7z5 => assumption
          try simp only [Act.put, List.setIfInBounds_toArray, List.set_cons_zero, List.set_cons_succ]
          refine wpAnyH_take (i := 6) (oi := ?oz6) (v := ?vz6) ?h1z6 ?h2z6 ?h3z6 ?h4z6 ?h5z6 ?h6z6 ?h7z6 ?h8z6
          case h1z6 => (simp only [List.getElem?_toArray, List.getElem?_cons_succ, List.getElem?_cons_zero]; exact rfl)
          case h2z6 => kernel_rfl
          case h3z6 => kernel_rfl
          case h4z6 => kernel_rfl
          case h5z6 => exact fun _ _ _ h => h
          case h6z6 => (refine Or.inl ⟨by rfl, ?_⟩; intro W' hSw; obtain ⟨s1, s2, s3, s4, s5, s6, s7, s8⟩ := hSw; go_simp; try (with_reducible rfl))
          case h7z6 => assumption
          try simp only [Act.put, List.setIfInBounds_toArray, List.set_cons_zero, List.set_cons_succ]
          refine wpAnyH_take (i := 7) (oi := ?oz7) (v := ?vz7) ?h1z7 ?h2z7 ?h3z7 ?h4z7 ?h5z7 ?h6z7 ?h7z7 ?h8z7
          case h1z7 => (simp only [List.getElem?_toArray, List.getElem?_cons_succ, List.getElem?_cons_zero]; exact rfl)
          case h2z7 => kernel_rfl
          case h3z7 => kernel_rfl
          case h4z7 => kernel_rfl
          case h5z7 => exact fun _ _ _ h => h
          case h6z7 => (refine Or.inl ⟨by rfl, ?_⟩; intro W' hSw; obtain ⟨s1, s2, s3, s4, s5, s6, s7, s8⟩ := hSw; go_simp; try (with_reducible rfl))
          case h7z7 => assumption
          try simp only [Act.put, List.setIfInBounds_toArray, List.set_cons_zero, List.set_cons_succ]
          refine wpAnyH_take (i := 8) (oi := ?oz8) (v := ?vz8) ?h1z8 ?h2z8 ?h3z8 ?h4z8 ?h5z8 ?h6z8 ?h7z8 ?h8z8
          case h1z8 => (simp only [List.getElem?_toArray, List.getElem?_cons_succ, List.getElem?_cons_zero]; exact rfl)
          case h2z8 => kernel_rfl
          case h3z8 => kernel_rfl
          case h4z8 => kernel_rfl
          case h5z8 => exact fun _ _ _ h => h
          case h6z8 => (refine Or.inl ⟨by rfl, ?_⟩; intro W' hSw; obtain ⟨s1, s2, s3, s4, s5, s6, s7, s8⟩ := hSw; go_simp; try (with_reducible rfl))
          case h7z8 => assumption
          try simp only [Act.put, List.setIfInBounds_toArray, List.set_cons_zero, List.set_cons_succ]
          refine wpAnyH_take (i := 9) (oi := ?oz9) (v := ?vz9) ?h1z9 ?h2z9 ?h3z9 ?h4z9 ?h5z9 ?h6z9 ?h7z9 ?h8z9
          case h1z9 => (simp only [List.getElem?_toArray, List.getElem?_cons_succ, List.getElem?_cons_zero]; exact rfl)
          case h2z9 => kernel_rfl
          case h3z9 => kernel_rfl
          case h4z9 => kernel_rfl
          case h5z9 => exact fun _ _ _ h => h
          case h6z9 => (refine Or.inl ⟨by rfl, ?_⟩; intro W' hSw; obtain ⟨s1, s2, s3, s4, s5, s6, s7, s8⟩ := hSw; go_simp; try (with_reducible rfl))
          case h7z9 => assumption
          try simp only [Act.put, List.setIfInBounds_toArray, List.set_cons_zero, List.set_cons_succ]
          refine wpAnyH_take (i := 10) (oi := ?oz10) (v := ?vz10) ?h1z10 ?h2z10 ?h3z10 ?h4z10 ?h5z10 ?h6z10 ?h7z10 ?h8z10
          case h1z10 => (simp only [List.getElem?_toArray, List.getElem?_cons_succ, List.getElem?_cons_zero]; exact rfl)
          case h2z10 => kernel_rfl
          case h3z10 => kernel_rfl
          case h4z10 => kernel_rfl
          case h5z10 => exact fun _ _ _ h => h
          case h6z10 => (refine Or.inl ⟨by rfl, ?_⟩; intro W' hSw; obtain ⟨s1, s2, s3, s4, s5, s6, s7, s8⟩ := hSw; go_simp; try (with_reducible rfl))
          case h7z10 => assumption
          try simp only [Act.put, List.setIfInBounds_toArray, List.set_cons_zero, List.set_cons_succ]
          refine wpAnyH_take (i := 11) (oi := ?oz11) (v := ?vz11) ?h1z11 ?h2z11 ?h3z11 ?h4z11 ?h5z11 ?h6z11 ?h7z11 ?h8z11
          case h1z11 => (simp only [List.getElem?_toArray, List.getElem?_cons_succ, List.getElem?_cons_zero]; exact rfl)
          case h2z11 => kernel_rfl
          case h3z11 => kernel_rfl
          case h4z11 => kernel_rfl
          case h5z11 => exact fun _ _ _ h => h
          case h6z11 => (refine Or.inl ⟨by rfl, ?_⟩; intro W' hSw; obtain ⟨s1, s2, s3, s4, s5, s6, s7, s8⟩ := hSw; go_simp; try (with_reducible rfl))
          case h7z11 => assumption
          try simp only [Act.put, List.setIfInBounds_toArray, List.set_cons_zero, List.set_cons_succ]
          refine wpAnyH_take (i := 12) (oi := ?oz12) (v := ?vz12) ?h1z12 ?h2z12 ?h3z12 ?h4z12 ?h5z12 ?h6z12 ?h7z12 ?h8z12
          case h1z12 => (simp only [List.getElem?_toArray, List.getElem?_cons_succ, List.getElem?_cons_zero]; exact rfl)
          case h2z12 => kernel_rfl
          case h3z12 => kernel_rfl
          case h4z12 => kernel_rfl
          case h5z12 => exact fun _ _ _ h => h
          case h6z12 => (refine Or.inl ⟨by rfl, ?_⟩; intro W' hSw; obtain ⟨s1, s2, s3, s4, s5, s6, s7, s8⟩ := hSw; go_simp; try (with_reducible rfl))
          case h7z12 => assumption
          try simp only [Act.put, List.setIfInBounds_toArray, List.set_cons_zero, List.set_cons_succ]
          refine wpAnyH_take (i := 13) (oi := ?oz13) (v := ?vz13) ?h1z13 ?h2z13 ?h3z13 ?h4z13 ?h5z13 ?h6z13 ?h7z13 ?h8z13
          case h1z13 => (simp only [List.getElem?_toArray, List.getElem?_cons_succ, List.getElem?_cons_zero]; exact rfl)
          case h2z13 => kernel_rfl
          case h3z13 => kernel_rfl
          case h4z13 => kernel_rfl
          case h5z13 => exact fun _ _ _ h => h
          case h6z13 => (refine Or.inl ⟨by rfl, ?_⟩; intro W' hSw; obtain ⟨s1, s2, s3, s4, s5, s6, s7, s8⟩ := hSw; go_simp; try (with_reducible rfl))
          case h7z13 => assumption
          try simp only [Act.put, List.setIfInBounds_toArray, List.set_cons_zero, List.set_cons_succ]
          refine wpAnyH_take (i := 14) (oi := ?oz14) (v := ?vz14) ?h1z14 ?h2z14 ?h3z14 ?h4z14 ?h5z14 ?h6z14 ?h7z14 ?h8z14
          case h1z14 => (simp only [List.getElem?_toArray, List.getElem?_cons_succ, List.getElem?_cons_zero]; exact rfl)
          case h2z14 => kernel_rfl
          case h3z14 => kernel_rfl
          case h4z14 => kernel_rfl
          case h5z14 => exact fun _ _ _ h => h
          case h6z14 => (refine Or.inl ⟨by rfl, ?_⟩; intro W' hSw; obtain ⟨s1, s2, s3, s4, s5, s6, s7, s8⟩ := hSw; go_simp; try (with_reducible rfl))
          case h7z14 => assumption
          try simp only [Act.put, List.setIfInBounds_toArray, List.set_cons_zero, List.set_cons_succ]
          refine wpAnyH_take (i := 15) (oi := ?oz15) (v := ?vz15) ?h1z15 ?h2z15 ?h3z15 ?h4z15 ?h5z15 ?h6z15 ?h7z15 ?h8z15
          case h1z15 => (simp only [List.getElem?_toArray, List.getElem?_cons_succ, List.getElem?_cons_zero]; exact rfl)
          case h2z15 => kernel_rfl
          case h3z15 => kernel_rfl
          case h4z15 => kernel_rfl
          case h5z15 => exact fun _ _ _ h => h
          case h6z15 => (refine Or.inl ⟨by rfl, ?_⟩; intro W' hSw; obtain ⟨s1, s2, s3, s4, s5, s6, s7, s8⟩ := hSw; go_simp; try (with_reducible rfl))
          case h7z15 => assumption
          try simp only [Act.put, List.setIfInBounds_toArray, List.set_cons_zero, List.set_cons_succ]
          refine wpAnyH_take (i := 16) (oi := ?oz16) (v := ?vz16) ?h1z16 ?h2z16 ?h3z16 ?h4z16 ?h5z16 ?h6z16 ?h7z16 ?h8z16
          case h1z16 => (simp only [List.getElem?_toArray, List.getElem?_cons_succ, List.getElem?_cons_zero]; exact rfl)
          case h2z16 => kernel_rfl
          case h3z16 => kernel_rfl
          case h4z16 => kernel_rfl
          case h5z16 => exact fun _ _ _ h => h
          case h6z16 => (refine Or.inl ⟨by rfl, ?_⟩; intro W' hSw; obtain ⟨s1, s2, s3, s4, s5, s6, s7, s8⟩ := hSw; go_simp; try (with_reducible rfl))
          case h7z16 => assumption
          try simp only [Act.put, List.setIfInBounds_toArray, List.set_cons_zero, List.set_cons_succ]
          refine wpAnyH_take (i := 17) (oi := ?oz17) (v := ?vz17) ?h1z17 ?h2z17 ?h3z17 ?h4z17 ?h5z17 ?h6z17 ?h7z17 ?h8z17
          case h1z17 => (simp only [List.getElem?_toArray, List.getElem?_cons_succ, List.getElem?_cons_zero]; exact rfl)
          case h2z17 => kernel_rfl
          case h3z17 => kernel_rfl
          case h4z17 => kernel_rfl
          case h5z17 => exact fun _ _ _ h => h
          case h6z17 => (refine Or.inl ⟨by rfl, ?_⟩; intro W' hSw; obtain ⟨s1, s2, s3, s4, s5, s6, s7, s8⟩ := hSw; go_simp; try (with_reducible rfl))
          case h7z17 => assumption
          try simp only [Act.put, List.setIfInBounds_toArray, List.set_cons_zero, List.set_cons_succ]
          refine wpAnyH_take (i := 18) (oi := ?oz18) (v := ?vz18) ?h1z18 ?h2z18 ?h3z18 ?h4z18 ?h5z18 ?h6z18 ?h7z18 ?h8z18
          case h1z18 => (simp only [List.getElem?_toArray, List.getElem?_cons_succ, List.getElem?_cons_zero]; exact rfl)
          case h2z18 => kernel_rfl
          case h3z18 => kernel_rfl
          case h4z18 => kernel_rfl
          case h5z18 => exact fun _ _ _ h => h
          case h6z18 => (refine Or.inl ⟨by rfl, ?_⟩; intro W' hSw; obtain ⟨s1, s2, s3, s4, s5, s6, s7, s8⟩ := hSw; go_simp; try (with_reducible rfl))
          case h7z18 => assumption
          try simp only [Act.put, List.setIfInBounds_toArray, List.set_cons_zero, List.set_cons_succ]
          refine wpAnyH_take (i := 19) (oi := ?oz19) (v := ?vz19) ?h1z19 ?h2z19 ?h3z19 ?h4z19 ?h5z19 ?h6z19 ?h7z19 ?h8z19
          case h1z19 => (simp only [List.getElem?_toArray, List.getElem?_cons_succ, List.getElem?_cons_zero]; exact rfl)
          case h2z19 => kernel_rfl
          case h3z19 => kernel_rfl
          case h4z19 => kernel_rfl
          case h5z19 => exact fun _ _ _ h => h
          case h6z19 => (refine Or.inl ⟨by rfl, ?_⟩; intro W' hSw; obtain ⟨s1, s2, s3, s4, s5, s6, s7, s8⟩ := hSw; go_simp; try (with_reducible rfl))
          case h7z19 => assumption
          try simp only [Act.put, List.setIfInBounds_toArray, List.set_cons_zero, List.set_cons_succ]
          refine wpAnyH_take (i := 20) (oi := ?oz20) (v := ?vz20) ?h1z20 ?h2z20 ?h3z20 ?h4z20 ?h5z20 ?h6z20 ?h7z20 ?h8z20
          case h1z20 => (simp only [List.getElem?_toArray, List.getElem?_cons_succ, List.getElem?_cons_zero]; exact rfl)
          case h2z20 => kernel_rfl
          case h3z20 => kernel_rfl
          case h4z20 => kernel_rfl
          case h5z20 => exact fun _ _ _ h => h
          case h6z20 => (refine Or.inl ⟨by rfl, ?_⟩; intro W' hSw; obtain ⟨s1, s2, s3, s4, s5, s6, s7, s8⟩ := hSw; go_simp; try (with_reducible rfl))
          case h7z20 => assumption
          try simp only [Act.put, List.setIfInBounds_toArray, List.set_cons_zero, List.set_cons_succ]
          refine wpAnyH_take (i := 21) (oi := ?oz21) (v := ?vz21) ?h1z21 ?h2z21 ?h3z21 ?h4z21 ?h5z21 ?h6z21 ?h7z21 ?h8z21
          case h1z21 => (simp only [List.getElem?_toArray, List.getElem?_cons_succ, List.getElem?_cons_zero]; exact rfl)
          case h2z21 => kernel_rfl
          case h3z21 => kernel_rfl
          case h4z21 => kernel_rfl
          case h5z21 => exact fun _ _ _ h => h
          case h6z21 => (refine Or.inl ⟨by rfl, ?_⟩; intro W' hSw; obtain ⟨s1, s2, s3, s4, s5, s6, s7, s8⟩ := hSw; go_simp; try (with_reducible rfl))
          case h7z21 => assumption
          try simp only [Act.put, List.setIfInBounds_toArray, List.set_cons_zero, List.set_cons_succ]
          refine wpAnyH_take (i := 22) (oi := ?oz22) (v := ?vz22) ?h1z22 ?h2z22 ?h3z22 ?h4z22 ?h5z22 ?h6z22 ?h7z22 ?h8z22
          case h1z22 => (simp only [List.getElem?_toArray, List.getElem?_cons_succ, List.getElem?_cons_zero]; exact rfl)
          case h2z22 => kernel_rfl
          case h3z22 => kernel_rfl
          case h4z22 => kernel_rfl
          case h5z22 => exact fun _ _ _ h => h
          case h6z22 => (refine Or.inl ⟨by rfl, ?_⟩; intro W' hSw; obtain ⟨s1, s2, s3, s4, s5, s6, s7, s8⟩ := hSw; go_simp; try (with_reducible rfl))
          case h7z22 => assumption
          try simp only [Act.put, List.setIfInBounds_toArray, List.set_cons_zero, List.set_cons_succ]
          refine wpAnyH_take (i := 23) (oi := ?oz23) (v := ?vz23) ?h1z23 ?h2z23 ?h3z23 ?h4z23 ?h5z23 ?h6z23 ?h7z23 ?h8z23
          case h1z23 => (simp only [List.getElem?_toArray, List.getElem?_cons_succ, List.getElem?_cons_zero]; exact rfl)
          case h2z23 => kernel_rfl
          case h3z23 => kernel_rfl
          case h4z23 => kernel_rfl
          case h5z23 => exact fun _ _ _ h => h
          case h6z23 => (refine Or.inl ⟨by rfl, ?_⟩; intro W' hSw; obtain ⟨s1, s2, s3, s4, s5, s6, s7, s8⟩ := hSw; go_simp; try (with_reducible rfl))
          case h7z23 => assumption
          try simp only [Act.put, List.setIfInBounds_toArray, List.set_cons_zero, List.set_cons_succ]
          refine wpAnyH_take (i := 24) (oi := ?oz24) (v := ?vz24) ?h1z24 ?h2z24 ?h3z24 ?h4z24 ?h5z24 ?h6z24 ?h7z24 ?h8z24
          case h1z24 => (simp only [List.getElem?_toArray, List.getElem?_cons_succ, List.getElem?_cons_zero]; exact rfl)
          case h2z24 => kernel_rfl
          case h3z24 => kernel_rfl
          case h4z24 => kernel_rfl
          case h5z24 => exact fun _ _ _ h => h
          case h6z24 => (refine Or.inl ⟨by rfl, ?_⟩; intro W' hSw; obtain ⟨s1, s2, s3, s4, s5, s6, s7, s8⟩ := hSw; go_simp; try (with_reducible rfl))
          case h7z24 => assumption
          try simp only [Act.put, List.setIfInBounds_toArray, List.set_cons_zero, List.set_cons_succ]
          refine wpAnyH_take (i := 25) (oi := ?oz25) (v := ?vz25) ?h1z25 ?h2z25 ?h3z25 ?h4z25 ?h5z25 ?h6z25 ?h7z25 ?h8z25
          case h1z25 => (simp only [List.getElem?_toArray, List.getElem?_cons_succ, List.getElem?_cons_zero]; exact rfl)
          case h2z25 => kernel_rfl
          case h3z25 => kernel_rfl
          case h4z25 => kernel_rfl
          case h5z25 => exact fun _ _ _ h => h
          case h6z25 => (refine Or.inl ⟨by rfl, ?_⟩; intro W' hSw; obtain ⟨s1, s2, s3, s4, s5, s6, s7, s8⟩ := hSw; go_simp; try (with_reducible rfl))
          case h7z25 => assumption
          try simp only [Act.put, List.setIfInBounds_toArray, List.set_cons_zero, List.set_cons_succ]
          refine wpAnyH_take (i := 26) (oi := ?oz26) (v := ?vz26) ?h1z26 ?h2z26 ?h3z26 ?h4z26 ?h5z26 ?h6z26 ?h7z26 ?h8z26
          case h1z26 => (simp only [List.getElem?_toArray, List.getElem?_cons_succ, List.getElem?_cons_zero]; exact rfl)
          case h2z26 => kernel_rfl
          case h3z26 => kernel_rfl
          case h4z26 => kernel_rfl
          case h5z26 => exact fun _ _ _ h => h
          case h6z26 => (refine Or.inl ⟨by rfl, ?_⟩; intro W' hSw; obtain ⟨s1, s2, s3, s4, s5, s6, s7, s8⟩ := hSw; go_simp; try (with_reducible rfl))
          case h7z26 => assumption
          try simp only [Act.put, List.setIfInBounds_toArray, List.set_cons_zero, List.set_cons_succ]
          refine wpAnyH_take (i := 27) (oi := ?oz27) (v := ?vz27) ?h1z27 ?h2z27 ?h3z27 ?h4z27 ?h5z27 ?h6z27 ?h7z27 ?h8z27
          case h1z27 => (simp only [List.getElem?_toArray, List.getElem?_cons_succ, List.getElem?_cons_zero]; exact rfl)
          case h2z27 => kernel_rfl
          case h3z27 => kernel_rfl
          case h4z27 => kernel_rfl
          case h5z27 => exact fun _ _ _ h => h
          case h6z27 => (refine Or.inl ⟨by rfl, ?_⟩; intro W' hSw; obtain ⟨s1, s2, s3, s4, s5, s6, s7, s8⟩ := hSw; go_simp; try (with_reducible rfl))
          case h7z27 => assumption
          try simp only [Act.put, List.setIfInBounds_toArray, List.set_cons_zero, List.set_cons_succ]
          refine wpAnyH_take (i := 28) (oi := ?oz28) (v := ?vz28) ?h1z28 ?h2z28 ?h3z28 ?h4z28 ?h5z28 ?h6z28 ?h7z28 ?h8z28
          case h1z28 => (simp only [List.getElem?_toArray, List.getElem?_cons_succ, List.getElem?_cons_zero]; exact rfl)
          case h2z28 => kernel_rfl
          case h3z28 => kernel_rfl
          case h4z28 => kernel_rfl
          case h5z28 => exact fun _ _ _ h => h
          case h6z28 => (refine Or.inl ⟨by rfl, ?_⟩; intro W' hSw; obtain ⟨s1, s2, s3, s4, s5, s6, s7, s8⟩ := hSw; go_simp; try (with_reducible rfl))
          case h7z28 => assumption
          try simp only [Act.put, List.setIfInBounds_toArray, List.set_cons_zero, List.set_cons_succ]
          refine wpAnyH_take (i := 29) (oi := ?oz29) (v := ?vz29) ?h1z29 ?h2z29 ?h3z29 ?h4z29 ?h5z29 ?h6z29 ?h7z29 ?h8z29
          case h1z29 => (simp only [List.getElem?_toArray, List.getElem?_cons_succ, List.getElem?_cons_zero]; exact rfl)
          case h2z29 => kernel_rfl
          case h3z29 => kernel_rfl
          case h4z29 => kernel_rfl
          case h5z29 => exact fun _ _ _ h => h
          case h6z29 => (refine Or.inl ⟨by rfl, ?_⟩; intro W' hSw; obtain ⟨s1, s2, s3, s4, s5, s6, s7, s8⟩ := hSw; go_simp; try (with_reducible rfl))
          case h7z29 => assumption
          try simp only [Act.put, List.setIfInBounds_toArray, List.set_cons_zero, List.set_cons_succ]
          refine wpAnyH_take (i := 30) (oi := ?oz30) (v := ?vz30) ?h1z30 ?h2z30 ?h3z30 ?h4z30 ?h5z30 ?h6z30 ?h7z30 ?h8z30
          case h1z30 => (simp only [List.getElem?_toArray, List.getElem?_cons_succ, List.getElem?_cons_zero]; exact rfl)
          case h2z30 => kernel_rfl
          case h3z30 => kernel_rfl
          case h4z30 => kernel_rfl
          case h5z30 => exact fun _ _ _ h => h
          case h6z30 => (refine Or.inl ⟨by rfl, ?_⟩; intro W' hSw; obtain ⟨s1, s2, s3, s4, s5, s6, s7, s8⟩ := hSw; go_simp; try (with_reducible rfl))
          case h7z30 => assumption
          try simp only [Act.put, List.setIfInBounds_toArray, List.set_cons_zero, List.set_cons_succ]
          refine wpAnyH_take (i := 31) (oi := ?oz31) (v := ?vz31) ?h1z31 ?h2z31 ?h3z31 ?h4z31 ?h5z31 ?h6z31 ?h7z31 ?h8z31
          case h1z31 => (simp only [List.getElem?_toArray, List.getElem?_cons_succ, List.getElem?_cons_zero]; exact rfl)
          case h2z31 => kernel_rfl
          case h3z31 => kernel_rfl
          case h4z31 => kernel_rfl
          case h5z31 => exact fun _ _ _ h => h
          case h6z31 => (refine Or.inl ⟨by rfl, ?_⟩; intro W' hSw; obtain ⟨s1, s2, s3, s4, s5, s6, s7, s8⟩ := hSw; go_simp; try (with_reducible rfl))
          case h7z31 => assumption
          try simp only [Act.put, List.setIfInBounds_toArray, List.set_cons_zero, List.set_cons_succ]
          refine wpAnyH_take (i := 32) (oi := ?oz32) (v := ?vz32) ?h1z32 ?h2z32 ?h3z32 ?h4z32 ?h5z32 ?h6z32 ?h7z32 ?h8z32
          case h1z32 => (simp only [List.getElem?_toArray, List.getElem?_cons_succ, List.getElem?_cons_zero]; exact rfl)
          case h2z32 => kernel_rfl
          case h3z32 => kernel_rfl
          case h4z32 => kernel_rfl
          case h5z32 => exact fun _ _ _ h => h
          case h6z32 => (refine Or.inl ⟨by rfl, ?_⟩; intro W' hSw; obtain ⟨s1, s2, s3, s4, s5, s6, s7, s8⟩ := hSw; go_simp; try (with_reducible rfl))
          case h7z32 => assumption
          try simp only [Act.put, List.setIfInBounds_toArray, List.set_cons_zero, List.set_cons_succ]
          refine wpAnyH_take (i := 33) (oi := ?oz33) (v := ?vz33) ?h1z33 ?h2z33 ?h3z33 ?h4z33 ?h5z33 ?h6z33 ?h7z33 ?h8z33
          case h1z33 => (simp only [List.getElem?_toArray, List.getElem?_cons_succ, List.getElem?_cons_zero]; exact rfl)
          case h2z33 => kernel_rfl
          case h3z33 => kernel_rfl
          case h4z33 => kernel_rfl
          case h5z33 => exact fun _ _ _ h => h
          case h6z33 => (refine Or.inl ⟨by rfl, ?_⟩; intro W' hSw; obtain ⟨s1, s2, s3, s4, s5, s6, s7, s8⟩ := hSw; go_simp; try (with_reducible rfl))
          case h7z33 => assumption
          try simp only [Act.put, List.setIfInBounds_toArray, List.set_cons_zero, List.set_cons_succ]
          refine wpAnyH_take (i := 34) (oi := ?oz34) (v := ?vz34) ?h1z34 ?h2z34 ?h3z34 ?h4z34 ?h5z34 ?h6z34 ?h7z34 ?h8z34
          case h1z34 => (simp only [List.getElem?_toArray, List.getElem?_cons_succ, List.getElem?_cons_zero]; exact rfl)
          case h2z34 => kernel_rfl
          case h3z34 => kernel_rfl
          case h4z34 => kernel_rfl
          case h5z34 => exact fun _ _ _ h => h
          case h6z34 => (refine Or.inl ⟨by rfl, ?_⟩; intro W' hSw; obtain ⟨s1, s2, s3, s4, s5, s6, s7, s8⟩ := hSw; go_simp; try (with_reducible rfl))
          case h7z34 => assumption
          try simp only [Act.put, List.setIfInBounds_toArray, List.set_cons_zero, List.set_cons_succ]
          refine wpAnyH_ready (rs := [1, 35]) (by kernel_rfl) (by simp) ?_
          refine AllReadyH.cons (o := ?oz35) ?h1z35 ?h2z35 ?h3z35
          case h1z35 => (simp only [List.getElem?_toArray, List.getElem?_cons_succ, List.getElem?_cons_zero]; exact rfl)
          case' h2z35 => intro K hK
          · go_simp
            refine hK.out _ _ (HS.out _ (fun b o v hb hv => (HKV.out b o v hv).1)) (fun hHeld => ?_)
            clear hK K
            try simp only [Act.put, List.setIfInBounds_toArray, List.set_cons_zero, List.set_cons_succ]
            refine wpAnyH_ready (rs := [35]) (by kernel_rfl) (by simp) ?_
            refine AllReadyH.cons (o := ?oz36) ?h1z36 ?h2z36 ?h3z36
            case h1z36 => (simp only [List.getElem?_toArray, List.getElem?_cons_succ, List.getElem?_cons_zero]; exact rfl)
            case' h2z36 => intro K hK
            · go_simp
              refine hK.out _ _ (HS.out _ (fun b o v hb hv => (HKV.out b o v hv).2.1)) (fun hHeld => ?_)
              clear hK K
              try simp only [Act.put, List.setIfInBounds_toArray, List.set_cons_zero, List.set_cons_succ]
              refine wpAnyH_ready (rs := [36]) (by kernel_rfl) (by simp) ?_
              refine AllReadyH.cons (o := ?oz37) ?h1z37 ?h2z37 ?h3z37
              case h1z37 => (simp only [List.getElem?_toArray, List.getElem?_cons_succ, List.getElem?_cons_zero]; exact rfl)
              case' h2z37 => intro K hK
              · go_simp
                refine hK.out _ _ (HS.out _ (fun b o v hb hv => (HKV.out b o v hv).2.2)) (fun hHeld => ?_)
                clear hK K
                try simp only [Act.put, List.setIfInBounds_toArray, List.set_cons_zero, List.set_cons_succ]
                refine wpAnyH_ready (rs := [37]) (by kernel_rfl) (by simp) ?_
                refine AllReadyH.cons (o := ?oz38) ?h1z38 ?h2z38 ?h3z38
                case h1z38 => (simp only [List.getElem?_toArray, List.getElem?_cons_succ, List.getElem?_cons_zero]; exact rfl)
                case' h2z38 => intro K hK
                · with_reducible refine step_append_lies ((wr.alloc (.cells #[.int .i64 XA, .int .i64 YB] 2)).alloc (.cells #[.slice (some ⟨wr.heap.size, 0, none⟩) 2 2] 26)).drew rfl (.tmp 28) (.tmp 63) 22 rfl G 26 i0 (.slice none 0 0) 1 24 Try.underlying22 hi0 z0 z1 z2 rfl (by decide) (.slice (some ⟨g2', 0, none⟩) m2 c2) m2 rvs2 (by simp [Act.eval, Act.put]) hown1 ⟨wr.heap.size + 1, 0, none⟩ 1 1 [.slice (some ⟨wr.heap.size, 0, none⟩) 2 2] (by simp [Act.eval, Act.put]) rfl hnews hone (by decide) hm63 hby hbase ((wr.alloc (.cells #[.int .i64 XA, .int .i64 YB] 2)).alloc (.cells #[.slice (some ⟨wr.heap.size, 0, none⟩) 2 2] 26)).drew.heap.size rfl ?_
                  intro g5 c5 w5 hown5 hgr hlie hlt5
                  have hch : Chg g2' (g2' + 1) wr w5 := snocCd HAB.out.1 hgr
                  have y5 := hch.cell b0 hgxx
                  have yf5 := hch.frozen hxz hgxx bf
                  try go_simp
                  refine hK.out _ _ (HS.out _ (fun b o v hb hv => hch.cell hv (.inl (show b < g2' by have := HLT.out; omega)))) (fun hHeld => ?_)
                  clear hK K
                  try simp only [Act.put, List.setIfInBounds_toArray, List.set_cons_zero, List.set_cons_succ]
                  refine wpAnyH_take (i := 38) (oi := ?oz39) (v := ?vz39) ?h1z39 ?h2z39 ?h3z39 ?h4z39 ?h5z39 ?h6z39 ?h7z39 ?h8z39
                  case h1z39 => (simp only [List.getElem?_toArray, List.getElem?_cons_succ, List.getElem?_cons_zero]; exact rfl)
                  case h2z39 => kernel_rfl
                  case h3z39 => kernel_rfl
                  case h4z39 => kernel_rfl
                  case h5z39 => exact fun _ _ _ h => h
                  case h6z39 => (refine Or.inl ⟨by rfl, ?_⟩; intro W' hSw; obtain ⟨s1, s2, s3, s4, s5, s6, s7, s8⟩ := hSw; go_simp; try (with_reducible rfl))
                  case h7z39 => assumption
                  try simp only [Act.put, List.setIfInBounds_toArray, List.set_cons_zero, List.set_cons_succ]
                  refine wpAnyH_ready (rs := [39]) (by kernel_rfl) (by simp) ?_
                  refine AllReadyH.cons (o := ?oz40) ?h1z40 ?h2z40 ?h3z40
                  case h1z40 => (simp only [List.getElem?_toArray, List.getElem?_cons_succ, List.getElem?_cons_zero]; exact rfl)
                  case' h2z40 => intro K hK
                  · go_simp
                    refine hK.out _ _ (HS.out _ (fun b o v hb hv => by have h9 := HLT.out; rw [World.cell?_setCell_other _ _ _ _ (by intro e9; cases e9; omega)]; exact hch.cell hv (.inl (show b < g2' by omega)))) (fun hHeld => ?_)
                    clear hK K
                    try simp only [Act.put, List.setIfInBounds_toArray, List.set_cons_zero, List.set_cons_succ]
                    refine wpAnyH_done (by kernel_rfl) ?_ _
                    have hcc := copy_closeD HDD.out.P hxz HAB.out.1 HAB.out.2.1 hown5 hgr hlie (.slice (some ⟨g5, 0, none⟩) (m2 + 1) c5)
                    rw [← HUN.out] at hcc
                    have hDn := HDD.out.step hord.1 hord.2.1 hord.2.2 hch hcc
                    have HF := Lib.hid (⟨by rw [HME.out]; omega, hDn⟩ : m2 + 1 = k * S + (j + 1) ∧ _)
                    clear hcc hDn hch y5 yf5 hown5 hgr hlie a1 a2 a3 a4 a5 a6 a7 a8 b0 b1 b2 b3 b4 b5 bf hown1 hnews hone hbase t1 t2 t3 t4 t5 t6 t7 t8 k2 h1 d0 d1 g1 g2
                    go_wp2
                    go_roundw
                    case rel => exact ⟨j+1, m2+1, g5, c5, _, by omega, by go_num, Lib.hid HF.out.1, HF.out.2⟩
                    case measure => simp [intOf]; omega
                  exact AllReadyH.nil
                exact AllReadyH.nil
              exact AllReadyH.nil
            exact AllReadyH.nil
          refine AllReadyH.cons (o := ?oz41) ?h1z41 ?h2z41 ?h3z41
          case h1z41 => (simp only [List.getElem?_toArray, List.getElem?_cons_succ, List.getElem?_cons_zero]; exact rfl)
          case' h2z41 => intro K hK
          · go_simp
            refine hK.out _ _ (HS.out _ (fun b o v hb hv => (HKV.out b o v hv).2.1)) (fun hHeld => ?_)
            clear hK K
            try simp only [Act.put, List.setIfInBounds_toArray, List.set_cons_zero, List.set_cons_succ]
            refine wpAnyH_ready (rs := [1, 36]) (by kernel_rfl) (by simp) ?_
            refine AllReadyH.cons (o := ?oz42) ?h1z42 ?h2z42 ?h3z42
            case h1z42 => (simp only [List.getElem?_toArray, List.getElem?_cons_succ, List.getElem?_cons_zero]; exact rfl)
            case' h2z42 => intro K hK
            · go_simp
              refine hK.out _ _ (HS.out _ (fun b o v hb hv => (HKV.out b o v hv).2.1)) (fun hHeld => ?_)
              clear hK K
              try simp only [Act.put, List.setIfInBounds_toArray, List.set_cons_zero, List.set_cons_succ]
              refine wpAnyH_ready (rs := [36]) (by kernel_rfl) (by simp) ?_
              refine AllReadyH.cons (o := ?oz43) ?h1z43 ?h2z43 ?h3z43
              case h1z43 => (simp only [List.getElem?_toArray, List.getElem?_cons_succ, List.getElem?_cons_zero]; exact rfl)
              case' h2z43 => intro K hK
              · go_simp
                refine hK.out _ _ (HS.out _ (fun b o v hb hv => (HKV.out b o v hv).2.2)) (fun hHeld => ?_)
                clear hK K
                try simp only [Act.put, List.setIfInBounds_toArray, List.set_cons_zero, List.set_cons_succ]
                refine wpAnyH_ready (rs := [37]) (by kernel_rfl) (by simp) ?_
                refine AllReadyH.cons (o := ?oz44) ?h1z44 ?h2z44 ?h3z44
                case h1z44 => (simp only [List.getElem?_toArray, List.getElem?_cons_succ, List.getElem?_cons_zero]; exact rfl)
                case' h2z44 => intro K hK
                · with_reducible refine step_append_lies ((wr.alloc (.cells #[.int .i64 XA, .int .i64 YB] 2)).alloc (.cells #[.slice (some ⟨wr.heap.size, 0, none⟩) 2 2] 26)).drew rfl (.tmp 28) (.tmp 63) 22 rfl G 26 i0 (.slice none 0 0) 1 24 Try.underlying22 hi0 z0 z1 z2 rfl (by decide) (.slice (some ⟨g2', 0, none⟩) m2 c2) m2 rvs2 (by simp [Act.eval, Act.put]) hown1 ⟨wr.heap.size + 1, 0, none⟩ 1 1 [.slice (some ⟨wr.heap.size, 0, none⟩) 2 2] (by simp [Act.eval, Act.put]) rfl hnews hone (by decide) hm63 hby hbase ((wr.alloc (.cells #[.int .i64 XA, .int .i64 YB] 2)).alloc (.cells #[.slice (some ⟨wr.heap.size, 0, none⟩) 2 2] 26)).drew.heap.size rfl ?_
                  intro g5 c5 w5 hown5 hgr hlie hlt5
                  have hch : Chg g2' (g2' + 1) wr w5 := snocCd HAB.out.1 hgr
                  have y5 := hch.cell b0 hgxx
                  have yf5 := hch.frozen hxz hgxx bf
                  try go_simp
                  refine hK.out _ _ (HS.out _ (fun b o v hb hv => hch.cell hv (.inl (show b < g2' by have := HLT.out; omega)))) (fun hHeld => ?_)
                  clear hK K
                  try simp only [Act.put, List.setIfInBounds_toArray, List.set_cons_zero, List.set_cons_succ]
                  refine wpAnyH_take (i := 38) (oi := ?oz45) (v := ?vz45) ?h1z45 ?h2z45 ?h3z45 ?h4z45 ?h5z45 ?h6z45 ?h7z45 ?h8z45
                  case h1z45 => (simp only [List.getElem?_toArray, List.getElem?_cons_succ, List.getElem?_cons_zero]; exact rfl)
                  case h2z45 => kernel_rfl
                  case h3z45 => kernel_rfl
                  case h4z45 => kernel_rfl
                  case h5z45 => exact fun _ _ _ h => h
                  case h6z45 => (refine Or.inl ⟨by rfl, ?_⟩; intro W' hSw; obtain ⟨s1, s2, s3, s4, s5, s6, s7, s8⟩ := hSw; go_simp; try (with_reducible rfl))
                  case h7z45 => assumption
                  try simp only [Act.put, List.setIfInBounds_toArray, List.set_cons_zero, List.set_cons_succ]
                  refine wpAnyH_ready (rs := [39]) (by kernel_rfl) (by simp) ?_
                  refine AllReadyH.cons (o := ?oz46) ?h1z46 ?h2z46 ?h3z46
                  case h1z46 => (simp only [List.getElem?_toArray, List.getElem?_cons_succ, List.getElem?_cons_zero]; exact rfl)
                  case' h2z46 => intro K hK
                  · go_simp
                    refine hK.out _ _ (HS.out _ (fun b o v hb hv => by have h9 := HLT.out; rw [World.cell?_setCell_other _ _ _ _ (by intro e9; cases e9; omega)]; exact hch.cell hv (.inl (show b < g2' by omega)))) (fun hHeld => ?_)
                    clear hK K
                    try simp only [Act.put, List.setIfInBounds_toArray, List.set_cons_zero, List.set_cons_succ]
                    refine wpAnyH_done (by kernel_rfl) ?_ _
                    have hcc := copy_closeD HDD.out.P hxz HAB.out.1 HAB.out.2.1 hown5 hgr hlie (.slice (some ⟨g5, 0, none⟩) (m2 + 1) c5)
                    rw [← HUN.out] at hcc
                    have hDn := HDD.out.step hord.1 hord.2.1 hord.2.2 hch hcc
                    have HF := Lib.hid (⟨by rw [HME.out]; omega, hDn⟩ : m2 + 1 = k * S + (j + 1) ∧ _)
                    clear hcc hDn hch y5 yf5 hown5 hgr hlie a1 a2 a3 a4 a5 a6 a7 a8 b0 b1 b2 b3 b4 b5 bf hown1 hnews hone hbase t1 t2 t3 t4 t5 t6 t7 t8 k2 h1 d0 d1 g1 g2
                    go_wp2
                    go_roundw
                    case rel => exact ⟨j+1, m2+1, g5, c5, _, by omega, by go_num, Lib.hid HF.out.1, HF.out.2⟩
                    case measure => simp [intOf]; omega
                  exact AllReadyH.nil
                exact AllReadyH.nil
              exact AllReadyH.nil
            refine AllReadyH.cons (o := ?oz47) ?h1z47 ?h2z47 ?h3z47
            case h1z47 => (simp only [List.getElem?_toArray, List.getElem?_cons_succ, List.getElem?_cons_zero]; exact rfl)
            case' h2z47 => intro K hK
            · go_simp
              refine hK.out _ _ (HS.out _ (fun b o v hb hv => (HKV.out b o v hv).2.2)) (fun hHeld => ?_)
              clear hK K
              try simp only [Act.put, List.setIfInBounds_toArray, List.set_cons_zero, List.set_cons_succ]
              refine wpAnyH_ready (rs := [1]) (by kernel_rfl) (by simp) ?_
              refine AllReadyH.cons (o := ?oz48) ?h1z48 ?h2z48 ?h3z48
              case h1z48 => (simp only [List.getElem?_toArray, List.getElem?_cons_succ, List.getElem?_cons_zero]; exact rfl)
              case' h2z48 => intro K hK
              · go_simp
                refine hK.out _ _ (HS.out _ (fun b o v hb hv => (HKV.out b o v hv).2.2)) (fun hHeld => ?_)
                clear hK K
                try simp only [Act.put, List.setIfInBounds_toArray, List.set_cons_zero, List.set_cons_succ]
                refine wpAnyH_ready (rs := [37]) (by kernel_rfl) (by simp) ?_
                refine AllReadyH.cons (o := ?oz49) ?h1z49 ?h2z49 ?h3z49
                case h1z49 => (simp only [List.getElem?_toArray, List.getElem?_cons_succ, List.getElem?_cons_zero]; exact rfl)
                case' h2z49 => intro K hK
                · with_reducible refine step_append_lies ((wr.alloc (.cells #[.int .i64 XA, .int .i64 YB] 2)).alloc (.cells #[.slice (some ⟨wr.heap.size, 0, none⟩) 2 2] 26)).drew rfl (.tmp 28) (.tmp 63) 22 rfl G 26 i0 (.slice none 0 0) 1 24 Try.underlying22 hi0 z0 z1 z2 rfl (by decide) (.slice (some ⟨g2', 0, none⟩) m2 c2) m2 rvs2 (by simp [Act.eval, Act.put]) hown1 ⟨wr.heap.size + 1, 0, none⟩ 1 1 [.slice (some ⟨wr.heap.size, 0, none⟩) 2 2] (by simp [Act.eval, Act.put]) rfl hnews hone (by decide) hm63 hby hbase ((wr.alloc (.cells #[.int .i64 XA, .int .i64 YB] 2)).alloc (.cells #[.slice (some ⟨wr.heap.size, 0, none⟩) 2 2] 26)).drew.heap.size rfl ?_
                  intro g5 c5 w5 hown5 hgr hlie hlt5
                  have hch : Chg g2' (g2' + 1) wr w5 := snocCd HAB.out.1 hgr
                  have y5 := hch.cell b0 hgxx
                  have yf5 := hch.frozen hxz hgxx bf
                  try go_simp
                  refine hK.out _ _ (HS.out _ (fun b o v hb hv => hch.cell hv (.inl (show b < g2' by have := HLT.out; omega)))) (fun hHeld => ?_)
                  clear hK K
                  try simp only [Act.put, List.setIfInBounds_toArray, List.set_cons_zero, List.set_cons_succ]
                  refine wpAnyH_take (i := 38) (oi := ?oz50) (v := ?vz50) ?h1z50 ?h2z50 ?h3z50 ?h4z50 ?h5z50 ?h6z50 ?h7z50 ?h8z50
                  case h1z50 => (simp only [List.getElem?_toArray, List.getElem?_cons_succ, List.getElem?_cons_zero]; exact rfl)
                  case h2z50 => kernel_rfl
                  case h3z50 => kernel_rfl
                  case h4z50 => kernel_rfl
                  case h5z50 => exact fun _ _ _ h => h
                  case h6z50 => (refine Or.inl ⟨by rfl, ?_⟩; intro W' hSw; obtain ⟨s1, s2, s3, s4, s5, s6, s7, s8⟩ := hSw; go_simp; try (with_reducible rfl))
                  case h7z50 => assumption
                  try simp only [Act.put, List.setIfInBounds_toArray, List.set_cons_zero, List.set_cons_succ]
                  refine wpAnyH_ready (rs := [39]) (by kernel_rfl) (by simp) ?_
                  refine AllReadyH.cons (o := ?oz51) ?h1z51 ?h2z51 ?h3z51
                  case h1z51 => (simp only [List.getElem?_toArray, List.getElem?_cons_succ, List.getElem?_cons_zero]; exact rfl)
                  case' h2z51 => intro K hK
                  · go_simp
                    refine hK.out _ _ (HS.out _ (fun b o v hb hv => by have h9 := HLT.out; rw [World.cell?_setCell_other _ _ _ _ (by intro e9; cases e9; omega)]; exact hch.cell hv (.inl (show b < g2' by omega)))) (fun hHeld => ?_)
                    clear hK K
                    try simp only [Act.put, List.setIfInBounds_toArray, List.set_cons_zero, List.set_cons_succ]
                    refine wpAnyH_done (by kernel_rfl) ?_ _
                    have hcc := copy_closeD HDD.out.P hxz HAB.out.1 HAB.out.2.1 hown5 hgr hlie (.slice (some ⟨g5, 0, none⟩) (m2 + 1) c5)
                    rw [← HUN.out] at hcc
                    have hDn := HDD.out.step hord.1 hord.2.1 hord.2.2 hch hcc
                    have HF := Lib.hid (⟨by rw [HME.out]; omega, hDn⟩ : m2 + 1 = k * S + (j + 1) ∧ _)
                    clear hcc hDn hch y5 yf5 hown5 hgr hlie a1 a2 a3 a4 a5 a6 a7 a8 b0 b1 b2 b3 b4 b5 bf hown1 hnews hone hbase t1 t2 t3 t4 t5 t6 t7 t8 k2 h1 d0 d1 g1 g2
                    go_wp2
                    go_roundw
                    case rel => exact ⟨j+1, m2+1, g5, c5, _, by omega, by go_num, Lib.hid HF.out.1, HF.out.2⟩
                    case measure => simp [intOf]; omega
                  exact AllReadyH.nil
                exact AllReadyH.nil
              exact AllReadyH.nil
            exact AllReadyH.nil
          exact AllReadyH.nil
        · obtain rfl : j = S := by omega
          rw [← HST.out] at hD
          have HF := Lib.hid (⟨by rw [HME.out, Nat.succ_mul], hD⟩ : m2 = (k + 1) * j ∧ _)
          clear hD
          go_wp2
          go_roundw
          case rel => exact ⟨k+1, m2, g2', c2, rvs2, by omega, by go_num, HF.out⟩
          case measure => simp [intOf]; omega
    · obtain rfl : k = n := by omega
      have hml : (unp (derE S es ts k)).length = m := hD.P.len
      have hm40 : m ≤ 1000 := by
        have := Nat.mul_le_mul (show k ≤ 10 by omega) (show S ≤ 4 by omega)
        omega
      have hord2 := hord
      have hbx2 : Chg R (R+1) U ((U.setCell ⟨R, 0, none⟩ (.int .i64 Z)).setCell ⟨R, 1, none⟩ (.slice (some ⟨g, 0, none⟩) m c')) := by
        repeat (refine Chg.setCell ?_ (by constructor <;> simp) _)
        exact Chg.refl _ _ _
      have v0 : ((U.setCell ⟨R, 0, none⟩ (.int .i64 Z)).setCell ⟨R, 1, none⟩ (.slice (some ⟨g, 0, none⟩) m c')).cell? ⟨R, 0, none⟩ = some (.int .i64 Z) := by
        rw [World.cell?_setCell_other _ _ _ _ (by simp)]; exact World.cell?_setCell_same _ _ _ hD.r0
      have v1 : ((U.setCell ⟨R, 0, none⟩ (.int .i64 Z)).setCell ⟨R, 1, none⟩ (.slice (some ⟨g, 0, none⟩) m c')).cell? ⟨R, 1, none⟩ = some (.slice (some ⟨g, 0, none⟩) m c') := World.cell?_setCell_same _ _ _ (by rw [World.cell?_setCell_other _ _ _ _ (by simp)]; exact hD.r1)
      have hown := ((hD.P.owr' (by omega)).chg hbx2 (.inr (by omega))).mono (show w.heap.size ≤ G by omega) (show U.heap.size ≤ ((U.setCell ⟨R, 0, none⟩ (.int .i64 Z)).setCell ⟨R, 1, none⟩ (.slice (some ⟨g, 0, none⟩) m c')).heap.size by rw [World.size_setCell, World.size_setCell]; exact Nat.le_refl _)
      have hxz := hD.xz
      have HF := Lib.hid (⟨hown, hD.below.chgn hbx2 (by omega) (by omega), hml, v0, v1⟩ : _ ∧ _ ∧ _ ∧ _ ∧ _)
      have k1 := hD.k1
      have r0 := hD.r0
      have r1 := hD.r1
      have q0 := hD.q0
      have q1 := hD.q1
      have x0 := hD.x0
      have x1 := hD.x1
      clear hD hown hbx2 hml v0 v1 hm
      go_wp2
      obtain ⟨p1, p2, p3, p4, p5⟩ := HF.out
      refine bodyPost_ret (v := .agg #[.int .i64 Z, .slice (some ⟨g, 0, none⟩) m c']) (by simp [results, Try.results106, go_sem, p4, p5]) rfl ⟨some ⟨g, 0, none⟩, c', by rw [p3], p1, p2⟩

end Go.Proofs.Ytlahfglblgppgaa
