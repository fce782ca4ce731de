/- The program's derived graph. -/
import Derived.Test.YtlahfglblgppgaaDer
set_option linter.unusedSimpArgs false
set_option linter.unusedVariables false
set_option maxRecDepth 100000
namespace Go.Proofs.Ytlahfglblgppgaa
open Go.RowKit

theorem RdI.wideD {lo hi : Nat} {w : World} {v : Value} {xs : List Int} (h : RdI lo hi w v xs) : RdI 0 w.heap.size w v xs := by
  obtain ⟨h1, h2, ⟨a, cap, e1, e2⟩ | ⟨b, off, cap, hv, h0, hlo, hhi, hc⟩⟩ := h
  · exact ⟨h1, h2, .inl ⟨a, cap, e1, e2⟩⟩
  · exact ⟨h1, h2, .inr ⟨b, off, cap, hv, h0, Nat.zero_le _, World.block_lt_of_cell? w _ (hc 0 h0), hc⟩⟩
theorem RdR.wideD {lo hi : Nat} {w : World} {v : Value} {xss : List (List Int)} (h : RdR lo hi w v xss) : RdR 0 w.heap.size w v xss := by
  obtain ⟨h1, ⟨a, cap, e1, e2⟩ | ⟨b, off, cap, hv, h0, hlo, hhi, hc⟩⟩ := h
  · exact ⟨h1, .inl ⟨a, cap, e1, e2⟩⟩
  · obtain ⟨rv0, hc0, _⟩ := hc 0 h0
    refine ⟨h1, .inr ⟨b, off, cap, hv, h0, Nat.zero_le _, World.block_lt_of_cell? w _ hc0, fun j hj => ?_⟩⟩
    obtain ⟨rv, e1, e2⟩ := hc j hj
    exact ⟨rv, e1, e2.wideD⟩
theorem below_toChg {L : Nat} {w w' : World} (h : Below L w w') : Chg L w.heap.size w w' := ⟨h.os, h.tape, h.output, h.size, fun k hk ho => h.block k (by omega)⟩

/-- what both loops keep -/
structure DeI (B y S : Nat) (a2 ta : Option Addr) (tn tc lo' hi' : Nat) (s : Int) (es : List (Int × Int)) (ts : List (List Int)) (w W : World) : Prop where
  edges : RdE W a2 es
  turns : RdR lo' hi' W (.slice ta tn tc) ts
  below : Below B w W
  k0 : W.cell? ⟨B, 0, none⟩ = some (.int .i64 s)
  k2 : W.cell? ⟨B, 2, none⟩ = some (.int .i64 (S : Int))
  k3 : W.cell? ⟨B, 3, none⟩ = some (.slice ta tn tc)
  y0 : W.cell? ⟨y, 0, none⟩ = some (.int .i64 0)
  y1 : W.cell? ⟨y, 1, none⟩ = some (.slice none 0 0)
  f0 : W.frozen? ⟨y, 0, none⟩ = false
  f1 : W.frozen? ⟨y, 1, none⟩ = false
  ylt : y < W.heap.size
  by0 : B < y
theorem DeI.next {B y S : Nat} {a2 ta : Option Addr} {tn tc lo' hi' : Nat} {s : Int} {es : List (Int × Int)} {ts : List (List Int)} {w W W' : World} (h : DeI B y S a2 ta tn tc lo' hi' s es ts w W) (b : Below W.heap.size W W') : DeI B y S a2 ta tn tc lo' hi' s es ts w W' := by
  have h1 := h.ylt
  have h2 := h.by0
  exact ⟨h.edges.below b, h.turns.below b, h.below.trans (b.mono (by omega)), b.keep h.k0, b.keep h.k2, b.keep h.k3, b.keep h.y0, b.keep h.y1, b.keepf h1 h.f0, b.keepf h1 h.f1, Nat.lt_of_lt_of_le h1 b.size, h2⟩
theorem DeI.chg {B y S : Nat} {a2 ta : Option Addr} {tn tc lo' hi' : Nat} {s : Int} {es : List (Int × Int)} {ts : List (List Int)} {w W W' : World} (h : DeI B y S a2 ta tn tc lo' hi' s es ts w W) {L h2 : Nat} (b : Chg L h2 W W') (hyL : y < L) (ht : hi' ≤ L) (he : ∀ d, a2 = some ⟨d, 0, none⟩ → d < L) : DeI B y S a2 ta tn tc lo' hi' s es ts w W' := by
  have h1 := h.ylt
  have h2 := h.by0
  refine ⟨fun j hj => ?_, h.turns.chg b (.inl ht), h.below.chgn b (by omega) (by omega), b.cell h.k0 (.inl (by show B < L; omega)), b.cell h.k2 (.inl (by show B < L; omega)), b.cell h.k3 (.inl (by show B < L; omega)), b.cell h.y0 (.inl hyL), b.cell h.y1 (.inl hyL), b.frozen h1 (.inl hyL) h.f0, b.frozen h1 (.inl hyL) h.f1, Nat.lt_of_lt_of_le h1 b.size, h2⟩
  obtain ⟨d, e1, e2, e3, e4⟩ := h.edges j hj
  have hd := he d e1
  exact ⟨d, e1, Nat.lt_of_lt_of_le e2 b.size, b.cell e3 (.inl hd), b.cell e4 (.inl hd)⟩

set_option maxHeartbeats 6400000 in
theorem derivedOf {lo hi lo' hi' : Nat} (s : Nat) (a : Option Addr) (n c : Nat) (xss : List (List Int)) (S : Nat) (ta : Option Addr) (tn tc : Nat) (ts : List (List Int)) (w : World)
    (h : RdR lo hi w (.slice a n c) xss) (hn : xss.length = n) (h' : RdR lo' hi' w (.slice ta tn tc) ts) (hn' : ts.length = tn) (hcv : cvB (s : Int) xss (S : Int) ts = true) :
    Calls Try.prog 103 #[.agg #[.int .i64 (s : Int), .slice a n c, .int .i64 (S : Int), .slice ta tn tc]] w fun e w' => ∃ a' c', e = .returned (.agg #[.int .i64 ((s : Int) * (S : Int)), .slice a' (derR S xss ts n).length c']) ∧ OwR w.heap.size w'.heap.size w' (.slice a' (derR S xss ts n).length c') (derR S xss ts n) ∧ Below w.heap.size w w' := by
  obtain ⟨i0, hi0, z0, z1, z2⟩ := info_parts Try.info128
  obtain ⟨hg, hs8, ⟨hS1, hS4⟩, htl, hpm⟩ := cvB_hd hcv
  have hg4 := grB_iff hg
  have hn10 : n ≤ 10 := by omega
  have hb0 : ∀ o o', Below w.heap.size w ((w.alloc o).alloc o') := fun o o' => ((Below.refl _ _).alloc (Nat.le_refl _) o).alloc (by simp) o'
  have HED := Lib.hid (fun W (hB : Below w.heap.size w W) => edgesOf (s : Int) a n c xss W (h.below hB) hg hn)
  have HES := Lib.hid (show ∀ q, q < n → (0 ≤ ((pairs xss).getD q (0, 0)).1 ∧ ((pairs xss).getD q (0, 0)).1 < (s : Int)) ∧ (0 ≤ ((pairs xss).getD q (0, 0)).2 ∧ ((pairs xss).getD q (0, 0)).2 < (s : Int)) from fun q hq => by
    have := hg4.2.2.2 q (by omega)
    rw [pairs_getD]
    simp only
    omega)
  have HTS := Lib.hid (show ∀ q, q < n → (ts.getD q []).length = S ∧ ∀ j, j < S → 0 ≤ (ts.getD q []).getD j 0 ∧ (ts.getD q []).getD j 0 < (S : Int) from fun q hq => by
    have hp : permB (S : Int) (ts.getD q []) = true := List.all_eq_true.1 hpm _ (by simp [List.getD, List.getElem?_eq_getElem (show q < ts.length by omega)])
    have hl := permB_len hp
    refine ⟨by omega, fun j hj => ?_⟩
    have := permB_in hp j (by omega)
    unfold inR at this
    simp only [Bool.and_eq_true, decide_eq_true_eq] at this
    exact this)
  have hpl : (pairs xss).length = n := by rw [pairs_len, hn]
  have HIN := Lib.hid (derE_in (S := S) (s := s) (es := pairs xss) (ts := ts) (n := n) HES.out (fun q hq => (HTS.out q hq).2) n (Nat.le_refl _))
  have hmul : (s : Int) * (S : Int) ≤ 32 ∧ 0 ≤ (s : Int) * (S : Int) := by
    have h1 := Int.mul_le_mul (show (s : Int) ≤ 8 by omega) (show (S : Int) ≤ 4 by omega) (by omega) (by decide)
    exact ⟨by simpa using h1, Int.mul_nonneg (by omega) (by omega)⟩
  unfold derR
  generalize pairs xss = es at *
  have HPL := Lib.hid hpl
  have HTL := Lib.hid hn'
  have HTR := Lib.hid (fun W (hB : Below w.heap.size w W) => (h'.wideD.below hB))
  have hnn : n = tn := by omega
  subst hnn
  obtain ⟨Z, hZ⟩ : ∃ Z, Z = (s : Int) * (S : Int) := ⟨_, rfl⟩
  rw [← hZ] at hmul HIN ⊢
  have HZ := Lib.hid hZ.symm
  have hSn : (S : Int) ≤ 4 := hS4
  have hS0 : 1 ≤ S := by omega
  have hs0 : (s : Int) ≤ 8 := by omega
  clear h hn hn' hcv hg hg4 hpl hpm htl hs8 hZ
  go_enter Try.func103, Try.ntmps103
  go_wp2_with fail
  obtain ⟨y, hy⟩ : ∃ y, y = w.heap.size + 1 := ⟨_, rfl⟩
  refine calls_gen (fun W => DeI w.heap.size y S none ta n tc 0 w.heap.size (s : Int) [] ts w W) ⟨fun j hj => by simp at hj, HTR.out _ (hb0 _ _), hb0 _ _, by go_simp, by go_simp, by go_simp, by rw [hy]; go_simp, by rw [hy]; go_simp, by rw [hy]; go_simp, by rw [hy]; go_simp, by rw [hy]; simp, by omega⟩ ?_
  rw [← hy]
  clear hy
  intro W hD
  refine (HED.out W hD.below).mono ?_
  rintro e w2 ⟨a2, c2, rfl, o2, b2⟩
  obtain ⟨L, hL⟩ : ∃ L, L = w2.heap.size := ⟨_, rfl⟩
  have hD2 := hD.next b2
  have hyL : y < L := by rw [hL]; exact hD2.ylt
  have HLO := Lib.hid (show ∀ d, a2 = some (⟨d, 0, none⟩ : Addr) → d < L from fun d e => by
    have := (o2.lt d (by rw [e]; rfl)).2; rw [hL]; exact this)
  have HD := Lib.hid (⟨RdE.mk o2 HPL.out, hD2.turns, hD2.below, hD2.k0, hD2.k2, hD2.k3, hD2.y0, hD2.y1, hD2.f0, hD2.f1, hD2.ylt, hD2.by0⟩ : DeI w.heap.size y S a2 ta n tc 0 w.heap.size (s : Int) es ts w w2)
  have hLw : L ≤ w2.heap.size := by omega
  clear hD b2 o2 hL HED hD2
  have hwL : w.heap.size ≤ L := by have := HD.out.by0; omega
  go_wp2
  go_loopw [12, 3] (fun i v wr => ∃ (k m : Nat) (av : Option Addr) (cv : Nat), k ≤ n ∧ i = .int .i64 k ∧ v = .slice av m cv ∧ m = k * S ∧ wr.ownsRow L 128 2 (.slice av m cv) m (flat (derE S es ts k)) ∧ DeI w.heap.size y S a2 ta n tc 0 w.heap.size (s : Int) es ts w wr ∧ L ≤ wr.heap.size) (fun i _ _ => n - (intOf i).toNat)
  case atStart => exact ⟨0, 0, none, 0, Nat.zero_le _, rfl, rfl, by omega, World.ownsRow_nil _ _ _ _, HD.out, hLw⟩
  case round =>
    clear HD
    obtain ⟨k, m, av, cv, hk, rfl, rfl, hm, hown, hD, hLr⟩ := hrel
    obtain ⟨U, rfl⟩ : ∃ U, U = wr := ⟨_, rfl⟩
    by_cases hlt : k < n
    · obtain ⟨d, rfl, hdw, x1, x2⟩ := hD.edges k (by rw [HPL.out]; exact hlt)
      obtain ⟨tb, to, tv, rfl, g1, rt⟩ := hD.turns.at HTL.out k hlt
      obtain ⟨htl, htin⟩ := HTS.out k hlt
      obtain ⟨tra, trc, htv⟩ := rt.shape
      rw [htl] at htv
      subst htv
      obtain ⟨he1, he2⟩ := HES.out k hlt
      have hst : derE S es ts (k + 1) = derE S es ts k ++ derK S (es.getD k (0, 0)) (ts.getD k []) S := rfl
      have HST := Lib.hid hst
      generalize es.getD k (0, 0) = e at *
      generalize ts.getD k [] = t at *
      have HTI := Lib.hid htin
      have HTL2 := Lib.hid htl
      have hA := (Below.refl U.heap.size U).alloc (Nat.le_refl _) (.cells #[.int .i64 e.1, .int .i64 e.2] 128)
      have u0 : (U.alloc (.cells #[.int .i64 e.1, .int .i64 e.2] 128)).cell? ⟨U.heap.size, 0, none⟩ = some (.int .i64 e.1) := by go_simp
      have u1 : (U.alloc (.cells #[.int .i64 e.1, .int .i64 e.2] 128)).cell? ⟨U.heap.size, 1, none⟩ = some (.int .i64 e.2) := by go_simp
      have hxs : U.heap.size < (U.alloc (.cells #[.int .i64 e.1, .int .i64 e.2] 128)).heap.size := by simp
      have hownA : (U.alloc (.cells #[.int .i64 e.1, .int .i64 e.2] 128)).ownsRow L 128 2 (.slice av m cv) m (flat (derE S es ts k ++ derK S e t 0)) := by
        have := hown.alloc (.cells #[.int .i64 e.1, .int .i64 e.2] 128)
        simpa [derK] using this
      have hnx : ∀ q, (Value.slice av m cv).ownBlock = some q → q ≠ U.heap.size := fun q hq => by have := (hown.lt q hq).2; omega
      have k2 := hA.keep hD.k2
      have k3 := hD.k3
      have ka3 := hA.keep hD.k3
      have ga1 := hA.keep g1
      have HP0 := Lib.hid (⟨hownA, hD.next hA, u0, u1, hnx, hxs, rt.below hA⟩ : _ ∧ _ ∧ _ ∧ _ ∧ _ ∧ _ ∧ _)
      clear hown hD hst htin hownA hA u0 u1 rt hnx hdw
      have hm1 : 0 ≤ e.1 * (S : Int) ∧ e.1 * (S : Int) ≤ 28 := by
        have h1 := Int.mul_le_mul (show e.1 ≤ 7 by omega) (show (S : Int) ≤ 4 by omega) (by omega) (by decide)
        exact ⟨Int.mul_nonneg he1.1 (by omega), by simpa using h1⟩
      have hm2 : 0 ≤ e.2 * (S : Int) ∧ e.2 * (S : Int) ≤ 28 := by
        have h1 := Int.mul_le_mul (show e.2 ≤ 7 by omega) (show (S : Int) ≤ 4 by omega) (by omega) (by decide)
        exact ⟨Int.mul_nonneg he2.1 (by omega), by simpa using h1⟩
      have HM := Lib.hid (⟨hm1, hm2⟩ : _ ∧ _)
      clear hm1 hm2 he1 he2
      go_wp2
      clear k2 k3 ka3 ga1 x1 x2 g1
      generalize U.alloc (.cells #[.int .i64 e.1, .int .i64 e.2] 128) = V at HP0 ⊢
      obtain ⟨X, hX⟩ : ∃ X, X = U.heap.size := ⟨_, rfl⟩
      rw [← hX] at HP0 ⊢
      have hLX : L ≤ X := by omega
      clear hX hLr
      go_loopw [23, 3] (fun i v wr2 => ∃ (j m2 : Nat) (av2 : Option Addr) (cv2 : Nat), j ≤ S ∧ i = .int .i64 j ∧ v = .slice av2 m2 cv2 ∧ m2 = k * S + j ∧ wr2.ownsRow L 128 2 (.slice av2 m2 cv2) m2 (flat (derE S es ts k ++ derK S e t j)) ∧ DeI w.heap.size y S (some ⟨d, 0, none⟩) (some ⟨tb, to, none⟩) n tc 0 w.heap.size (s : Int) es ts w wr2 ∧ wr2.cell? ⟨X, 0, none⟩ = some (.int .i64 e.1) ∧ wr2.cell? ⟨X, 1, none⟩ = some (.int .i64 e.2) ∧ (∀ q, (Value.slice av2 m2 cv2).ownBlock = some q → q ≠ X) ∧ X < wr2.heap.size ∧ RdI 0 w.heap.size wr2 (.slice tra S trc) t) (fun i _ _ => S - (intOf i).toNat)
      case atStart => exact ⟨0, m, av, cv, Nat.zero_le _, rfl, rfl, by omega, HP0.out⟩
      case round =>
        rename_i hrel
        clear HP0
        obtain ⟨j, m2, av2, cv2, hj, rfl, rfl, hm2e, hown, hD, u0, u1, hnx, hXs, rt⟩ := hrel
        by_cases hlj : j < S
        · obtain ⟨qb, qo, rfl, g2⟩ := rt.cellsC HTL2.out j hlj
          have hz := HTI.out j hlj
          have hks := derK_step S e t j
          generalize t.getD j 0 = z at *
          have k2 := hD.k2
          obtain ⟨hm1, hm2⟩ := HM.out
          obtain ⟨X1, hX1⟩ : ∃ X1, X1 = e.1 * (S : Int) := ⟨_, rfl⟩
          obtain ⟨Y1, hY1⟩ : ∃ Y1, Y1 = e.2 * (S : Int) := ⟨_, rfl⟩
          rw [← hX1] at hm1 hks
          rw [← hY1] at hm2 hks
          have HKS := Lib.hid hks
          have hownV := hown.alloc (.cells #[.int .i64 (X1 + (j : Int)), .int .i64 (Y1 + z)] 128)
          have hnews := news2 wr 128 (.int .i64 (X1 + (j : Int))) (.int .i64 (Y1 + z))
          have hLz : L ≤ wr.heap.size := by omega
          have hal : Below L wr (wr.alloc (.cells #[.int .i64 (X1 + (j : Int)), .int .i64 (Y1 + z)] 128)) := (Below.refl L wr).alloc hLz _
          have hals := hal.size
          have hlow : ∀ q, (Value.slice av2 m2 cv2).ownBlock = some q → L ≤ q := fun q hq => (hown.lt q hq).1
          have HO := Lib.hid (⟨hD, hal, hlow, hnx, rt⟩ : _ ∧ _ ∧ _ ∧ _ ∧ _)
          have hmk : m2 ≤ 40 := by
            have := Nat.mul_le_mul (show k ≤ 9 by omega) (show S ≤ 4 by omega)
            omega
          have w1 : IntKind.i64.wrap (e.1 * (S : Int)) = X1 := by rw [← hX1]; exact IntWalk.i64_in _ (by omega)
          have w2 : wrap64 (e.1 * (S : Int)) = X1 := by rw [← hX1]; exact IntWalk.wrap64_in _ (by clear w1; omega)
          have w3 : IntKind.i64.wrap (e.2 * (S : Int)) = Y1 := by rw [← hY1]; exact IntWalk.i64_in _ (by clear w1 w2; omega)
          have w4 : wrap64 (e.2 * (S : Int)) = Y1 := by rw [← hY1]; exact IntWalk.wrap64_in _ (by clear w1 w2 w3; omega)
          have HME := Lib.hid hm2e
          have hv1 : 0 ≤ X1 + (j : Int) ∧ X1 + (j : Int) ≤ 40 := by clear w1 w2 w3 w4; omega
          have hv2 : 0 ≤ Y1 + z ∧ Y1 + z ≤ 40 := by clear w1 w2 w3 w4; omega
          clear hown hD hks hX1 hY1 hal hlow rt hnx hm2e
          go_wp2_with (at_builtin; refine wpList_append_lies _ rfl _ _ 125 rfl L 128 i0 (.agg #[.int .i64 0, .int .i64 0]) 2 16 Try.underlying125 hi0 z0 z1 z2 rfl (by decide) _ _ _ rfl hownV ⟨wr.heap.size, 0, none⟩ 1 1 [.int .i64 (X1 + (j : Int)), .int .i64 (Y1 + z)] rfl rfl ?d1 ?d2 (by decide) ?d3 ?d4 ?d5 _ rfl ?_)
          case d1 => exact hnews
          case d2 => first | (intro u hu; simp at hu; rcases hu with rfl | rfl <;> rfl) | rfl | simp
          case d3 => unfold maxLen; clear w1 w2 w3 w4; omega
          case d4 => clear w1 w2 w3 w4; omega
          case d5 => clear w1 w2 w3 w4; omega
          intro g4 c4 w5 hown5 hgr hlie hlt5
          clear w1 w2 w3 w4
          obtain ⟨hD, hal, hlow, hnx, rt⟩ := HO.out
          have hb5 : Below L wr w5 := hal.grown hgr (by omega) (fun q hq => hlow q hq)
          have hch : Chg L wr.heap.size wr w5 := below_toChg hb5
          have hDn := hD.chg hch hyL hwL HLO.out
          have hgX : (g4 : Nat) ≠ X := by
            rcases hlie with e1 | e1
            · exact hnx g4 e1
            · omega
          have v0 : w5.cell? ⟨X, 0, none⟩ = some (.int .i64 e.1) := by
            have := hgr.block X (by have := hal.size; omega) (fun e2 => hnx X e2.symm rfl)
            rw [World.cell?_of_block (w := wr.alloc _) this]
            exact ((Below.refl wr.heap.size wr).alloc (Nat.le_refl _) _).keep u0
          have v1 : w5.cell? ⟨X, 1, none⟩ = some (.int .i64 e.2) := by
            have := hgr.block X (by have := hal.size; omega) (fun e2 => hnx X e2.symm rfl)
            rw [World.cell?_of_block (w := wr.alloc _) this]
            exact ((Below.refl wr.heap.size wr).alloc (Nat.le_refl _) _).keep u1
          have hown6 : w5.ownsRow L 128 2 (.slice (some ⟨g4, 0, none⟩) (m2 + 1) c4) (m2 + 1) (flat (derE S es ts k ++ derK S e t (j + 1))) := by
            rw [HKS.out, ← List.append_assoc, flat_snoc]
            exact hown5
          have hnx4 : ∀ q, (Value.slice (some ⟨g4, 0, none⟩) (m2 + 1) c4).ownBlock = some q → q ≠ X := by
            intro q hq
            have e2 : g4 = q := by simpa [Value.ownBlock] using hq
            rw [← e2]; exact hgX
          have HF := Lib.hid (⟨hown6, hDn, v0, v1, hnx4, Nat.lt_of_lt_of_le hXs hb5.size, rt.chg hch (.inl hwL)⟩ : _ ∧ _ ∧ _ ∧ _ ∧ (∀ q, (Value.slice (some ⟨g4, 0, none⟩) (m2 + 1) c4).ownBlock = some q → q ≠ X) ∧ X < w5.heap.size ∧ _)
          clear hown5 hgr hlie hD hal hlow hnx rt hb5 hch hDn hgX hnx4 v0 v1 hown6 hownV hnews hals
          go_wp2
          go_roundw
          case rel => exact ⟨j+1, m2+1, _, c4, by omega, by go_num, rfl, by have := HME.out; omega, HF.out⟩
          case measure => simp [intOf]; omega
        · obtain rfl : j = S := by omega
          rw [← HST.out] at hown
          have HF := Lib.hid (⟨by rw [hm2e, Nat.succ_mul], hown, hD, by omega⟩ : m2 = (k + 1) * j ∧ _ ∧ _ ∧ L ≤ wr.heap.size)
          clear hown hD u0 u1 hnx rt hm2e
          go_wp2
          go_roundw
          case rel => exact ⟨k+1, m2, av2, cv2, by omega, by go_num, rfl, HF.out⟩
          case measure => simp [intOf]; omega
    · obtain rfl : k = n := by omega
      have hel : (derE S es ts k).length = m := by rw [derE_len, hm]
      have hI : ∀ j, j < m → I64 ((derE S es ts k).getD j (0, 0)).1 ∧ I64 ((derE S es ts k).getD j (0, 0)).2 := fun j hj => by
        have hmem : (derE S es ts k).getD j (0, 0) ∈ derE S es ts k := by
          rw [List.getD, List.getElem?_eq_getElem (show j < (derE S es ts k).length by omega), Option.getD_some]
          exact List.getElem_mem _
        have := HIN.out _ hmem
        unfold I64; omega
      have hm40 : m ≤ 1000 := by
        have := Nat.mul_le_mul (show k ≤ 10 by omega) (show S ≤ 4 by omega)
        omega
      have hRE := RdE.mk hown hel
      generalize hE : derE S es ts k = E at *
      have HG := Lib.hid (graphWith Z av m cv E U hRE hel hm40 hI)
      have HDD := Lib.hid hD
      have k0 := hD.k0
      have k2 := hD.k2
      have hz := HZ.out
      have w1 : IntKind.i64.wrap ((s : Int) * (S : Int)) = Z := by rw [hz]; exact IntWalk.i64_in _ (by clear hz; omega)
      have w2 : wrap64 ((s : Int) * (S : Int)) = Z := by rw [hz]; exact IntWalk.wrap64_in _ (by clear w1 hz; omega)
      clear hown hD hI hRE hz hm
      have HEE := Lib.hid hE
      clear hE
      go_wp2_with fail
      clear w1 w2
      refine HG.out.mono ?_
      rintro e w3 ⟨a3, c3, rfl, o3, b3⟩
      have hD3 := HDD.out.next b3
      have hyl := hD3.ylt
      have hby := hD3.by0
      have y0 := hD3.y0
      have y1 := hD3.y1
      have f0 := hD3.f0
      have f1 := hD3.f1
      have hbx2 : Chg y (y+1) w3 ((w3.setCell ⟨y, 0, none⟩ (.int .i64 Z)).setCell ⟨y, 1, none⟩ (.slice a3 (unp E).length c3)) := by
        repeat (refine Chg.setCell ?_ (by constructor <;> simp) _)
        exact Chg.refl _ _ _
      have v0 : ((w3.setCell ⟨y, 0, none⟩ (.int .i64 Z)).setCell ⟨y, 1, none⟩ (.slice a3 (unp E).length c3)).cell? ⟨y, 0, none⟩ = some (.int .i64 Z) := by
        rw [World.cell?_setCell_other _ _ _ _ (by simp)]; exact World.cell?_setCell_same _ _ _ y0
      have v1 : ((w3.setCell ⟨y, 0, none⟩ (.int .i64 Z)).setCell ⟨y, 1, none⟩ (.slice a3 (unp E).length c3)).cell? ⟨y, 1, none⟩ = some (.slice a3 (unp E).length c3) := World.cell?_setCell_same _ _ _ (by rw [World.cell?_setCell_other _ _ _ _ (by simp)]; exact y1)
      have hUw : w.heap.size ≤ U.heap.size := HDD.out.below.size
      have hyU : y < U.heap.size := HDD.out.ylt
      have HZZ := Lib.hid (⟨(o3.chg hbx2 (.inr (by omega))).mono hUw (by rw [World.size_setCell, World.size_setCell]; exact Nat.le_refl _), hD3.below.chgn hbx2 (by omega) (by omega), v0, v1⟩ : OwR w.heap.size ((w3.setCell ⟨y, 0, none⟩ (.int .i64 Z)).setCell ⟨y, 1, none⟩ (.slice a3 (unp E).length c3)).heap.size ((w3.setCell ⟨y, 0, none⟩ (.int .i64 Z)).setCell ⟨y, 1, none⟩ (.slice a3 (unp E).length c3)) (.slice a3 (unp E).length c3) (unp E) ∧ _ ∧ _ ∧ _)
      clear o3 b3 hD3 hbx2 v0 v1 k0 k2
      go_wp2
      obtain ⟨q1, q3, q4, q5⟩ := HZZ.out
      have hE := HEE.out
      subst hE
      refine bodyPost_ret (v := .agg #[.int .i64 Z, .slice a3 (unp (derE S es ts k)).length c3]) (by simp [results, Try.results103, go_sem, q4, q5]) rfl ⟨a3, c3, rfl, q1, q3⟩

end Go.Proofs.Ytlahfglblgppgaa
