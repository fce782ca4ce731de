/- The rows of the unit matrix less u times the edge rows, modulo a prime, by the program; and their determinant. -/
import Derived.Test.YtnblhkhdilkbeaaBem
import Derived.Test.YtnblhkhdilkbeaaMdl
import Derived.Test.YtnblhkhdilkbeaaPr101
import Derived.Test.YtnblhkhdilkbeaaEdd
set_option linter.unusedSimpArgs false
set_option linter.unusedVariables false
set_option maxRecDepth 100000
namespace Go.Proofs.Ytnblhkhdilkbeaa
open Go.RowKit

def plX (E : Nat → Nat → Int) (u : Int) : Nat → Nat → Int := fun i j => E i j * (-u) + (if i = j then 1 else 0)
def plM (E : Nat → Nat → Int) (p u : Int) : Nat → Nat → Int := fun i j => plX E u i j % p
/-- the rows while they are made: row e multiplied up to f -/
def plA (E : Nat → Nat → Int) (p u : Int) (e f : Nat) : Nat → Nat → Int := fun i j => if i < e then plM E p u i j else if i = e ∧ j < f then E i j * (-u) else E i j
/-- .. and reduced up to f -/
def plB (E : Nat → Nat → Int) (p u : Int) (e f : Nat) : Nat → Nat → Int := fun i j => if i < e then plM E p u i j else if i = e then (if j < f then plM E p u i j else plX E u i j) else E i j
theorem plA_0 (E : Nat → Nat → Int) (p u : Int) : plA E p u 0 0 = E := by
  funext i j; unfold plA; rw [if_neg (by omega), if_neg (by omega)]
theorem plA_at (E : Nat → Nat → Int) (p u : Int) (e f : Nat) : plA E p u e f e f = E e f := by
  unfold plA; rw [if_neg (by omega), if_neg (by omega)]
theorem plA_put (E : Nat → Nat → Int) (p u : Int) (e f : Nat) : put (plA E p u e f) e f (E e f * (-u)) = plA E p u e (f + 1) := by
  funext i j
  unfold put plA
  by_cases h : i = e ∧ j = f
  · obtain ⟨rfl, rfl⟩ := h
    rw [if_pos ⟨rfl, rfl⟩, if_neg (by omega), if_pos ⟨rfl, by omega⟩]
  · rw [if_neg h]
    have : (i = e ∧ j < f) ↔ (i = e ∧ j < f + 1) := by omega
    simp only [this]
theorem plA_diag {E : Nat → Nat → Int} {p u : Int} {e N : Nat} (he : e < N) : plA E p u e N e e = E e e * (-u) := by
  unfold plA; rw [if_neg (by omega), if_pos ⟨rfl, he⟩]
theorem tab_congrP {N : Nat} {f g : Nat → Nat → Int} (h : ∀ i j, i < N → j < N → f i j = g i j) : tab N f = tab N g := by
  unfold tab
  apply List.map_congr_left
  intro i hi
  apply List.map_congr_left
  intro j hj
  exact h i j (by simpa using hi) (by simpa using hj)
theorem plB_0 {E : Nat → Nat → Int} {p u : Int} {e N : Nat} (he : e < N) : tab N (put (plA E p u e N) e e (E e e * (-u) + 1)) = tab N (plB E p u e 0) := by
  apply tab_congrP
  intro i j hi hj
  unfold put plA plB plX
  by_cases h : i = e
  · subst h
    by_cases h2 : j = i
    · subst h2
      rw [if_pos ⟨rfl, rfl⟩, if_neg (by omega), if_pos rfl, if_neg (by omega), if_pos rfl]
    · rw [if_neg (by omega), if_neg (by omega), if_pos ⟨rfl, hj⟩, if_neg (by omega), if_pos rfl, if_neg (by omega), if_neg (fun x => h2 x.symm)]; omega
  · rw [if_neg (fun x => h x.1)]
    by_cases h2 : i < e
    · rw [if_pos h2, if_pos h2]
    · rw [if_neg h2, if_neg (fun x => h x.1), if_neg h2, if_neg h]
theorem plB_at (E : Nat → Nat → Int) (p u : Int) (e f : Nat) : plB E p u e f e f = plX E u e f := by
  unfold plB; rw [if_neg (by omega), if_pos rfl, if_neg (by omega)]
theorem plB_put (E : Nat → Nat → Int) (p u : Int) (e f : Nat) : put (plB E p u e f) e f (plX E u e f % p) = plB E p u e (f + 1) := by
  funext i j
  unfold put plB
  by_cases h : i = e ∧ j = f
  · obtain ⟨rfl, rfl⟩ := h
    rw [if_pos ⟨rfl, rfl⟩, if_neg (by omega), if_pos rfl, if_pos (by omega)]; rfl
  · rw [if_neg h]
    by_cases h2 : i < e
    · rw [if_pos h2, if_pos h2]
    · rw [if_neg h2, if_neg h2]
      by_cases h3 : i = e
      · rw [if_pos h3, if_pos h3]
        have : (j < f) ↔ (j < f + 1) := by omega
        simp only [this]
      · rw [if_neg h3, if_neg h3]
theorem plB_next {E : Nat → Nat → Int} {p u : Int} {e N : Nat} : tab N (plB E p u e N) = tab N (plA E p u (e + 1) 0) := by
  apply tab_congrP
  intro i j hi hj
  unfold plB plA
  by_cases h2 : i < e
  · rw [if_pos h2, if_pos (by omega)]
  · rw [if_neg h2]
    by_cases h3 : i = e
    · rw [if_pos h3, if_pos hj, if_pos (by omega)]
    · rw [if_neg h3, if_neg (by omega), if_neg (by omega)]
theorem plA_end {E : Nat → Nat → Int} {p u : Int} {N : Nat} : tab N (plA E p u N 0) = tab N (plM E p u) := by
  apply tab_congrP
  intro i j hi hj
  unfold plA; rw [if_pos hi]

/-- the rows, the header of one of them, and the place -/
structure PlI (L X N g c b cb e : Nat) (s : Int) (a : Option Addr) (n cc : Nat) (p u : Int) (f : Nat → Nat → Int) (B0 : Nat) (w W : World) : Prop where
  rows : OwR L W.heap.size W (.slice (some ⟨g, 0, none⟩) N c) (tab N f)
  hd : W.cell? ⟨g, e, none⟩ = some (.slice (some ⟨b, 0, none⟩) N cb)
  below : Below B0 w W
  k2 : W.cell? ⟨X, 2, none⟩ = some (.int .i64 p)
  k3 : W.cell? ⟨X, 3, none⟩ = some (.int .i64 u)
  lo : B0 ≤ L
  xl : X < L
theorem PlI.next {L X N g c b cb e : Nat} {s : Int} {a : Option Addr} {n cc : Nat} {p u : Int} {f : Nat → Nat → Int} {B0 : Nat} {w W W' : World} (h : PlI L X N g c b cb e s a n cc p u f B0 w W) (q : Below W.heap.size W W') (hB : B0 ≤ W.heap.size) : PlI L X N g c b cb e s a n cc p u f B0 w W' :=
  ⟨(h.rows.below q).mono (Nat.le_refl _) q.size, q.keep h.hd, h.below.trans (q.mono hB), q.keep h.k2, q.keep h.k3, h.lo, h.xl⟩
theorem PlI.bump {L X N g c b cb e : Nat} {s : Int} {a : Option Addr} {n cc : Nat} {p u : Int} {f : Nat → Nat → Int} {B0 : Nat} {w W : World} (h : PlI L X N g c b cb e s a n cc p u f B0 w W) (he : e < N) {j : Nat} (hj : j < N) :
    W.cell? ⟨b, j, none⟩ = some (.int .i64 (f e j)) ∧ W.frozen? ⟨b, j, none⟩ = false ∧ ∀ x, I64 x → PlI L X N g c b cb e s a n cc p u (put f e j x) B0 w (W.setCell ⟨b, j, none⟩ (.int .i64 x)) := by
  obtain ⟨e1, e2, e3, e4, e5, e6, e7⟩ := h.rows.row2 he hj h.hd
  refine ⟨e1, e2, fun x hx => ?_⟩
  have hxl := h.xl
  have hlo := h.lo
  have hch : Chg b (b + 1) W (W.setCell ⟨b, j, none⟩ (.int .i64 x)) := (Chg.refl b (b + 1) W).setCell (p := ⟨b, j, none⟩) ⟨Nat.le_refl _, Nat.lt_succ_self _⟩ _
  have hsz : (W.setCell ⟨b, j, none⟩ (.int .i64 x)).heap.size = W.heap.size := World.size_setCell _ _ _
  exact ⟨by rw [hsz]; exact e7 x hx, hch.cell h.hd (by show g < b ∨ b + 1 ≤ g; omega), h.below.setCell (p := ⟨b, j, none⟩) (by show B0 ≤ b; omega) _, hch.cell h.k2 (.inl (by show X < b; omega)), hch.cell h.k3 (.inl (by show X < b; omega)), h.lo, h.xl⟩

set_option maxHeartbeats 3200000 in
theorem placeRows {lo hi : Nat} (s : Int) (a : Option Addr) (n c : Nat) (xss : List (List Int)) (p u : Int) (w : World) (h : RdR lo hi w (.slice a n c) xss) (hn : xss.length = n) (hg : grB s xss = true) (hp : 2 ≤ p ∧ p ≤ 101) (hu : 0 ≤ u ∧ u < p) :
    Calls Try.prog 106 #[.agg #[.int .i64 s, .slice a n c, .int .i64 p, .int .i64 u]] w fun e w' => ∃ a' c', e = .returned (.slice a' (2 * n) c') ∧ OwR w.heap.size w'.heap.size w' (.slice a' (2 * n) c') (tab (2 * n) (plM (edgeM (dirE (pairs xss))) p u)) ∧ Below w.heap.size w w' := by
  have hb0 : ∀ o, Below w.heap.size w (w.alloc o) := fun o => (Below.refl _ _).alloc (Nat.le_refl _) o
  have hg4 := grB_iff hg
  have HR := Lib.hid (fun W (hB : Below w.heap.size w W) => edgeRows s a n c xss W (h.below hB) hn hg)
  obtain ⟨N, hN⟩ : ∃ N, N = 2 * n := ⟨_, rfl⟩
  rw [← hN] at HR ⊢
  have hN20 : N ≤ 20 := by omega
  have HEB := Lib.hid (fun i j => edgeM_bool (dirE (pairs xss)) i j)
  generalize edgeM (dirE (pairs xss)) = E at HR HEB ⊢
  have hm0 : IntKind.i64.wrap (-u) = -u := IntWalk.i64_in _ (by omega)
  have hm0' : wrap64 (-u) = -u := IntWalk.wrap64_in _ (by omega)
  have HPU := Lib.hid (⟨hp, hu⟩ : _ ∧ _)
  have HRD := Lib.hid (fun (x : Int) (W : World) (hx : -1000 ≤ x ∧ x ≤ 1000) => mRed p x W (by omega) (by omega))
  clear h hn hg hg4 hp hu hN
  go_enter Try.func106, Try.ntmps106
  go_wp2_with fail
  refine calls_gen (fun W => Below w.heap.size w W ∧ w.heap.size < W.heap.size ∧ W.cell? ⟨w.heap.size, 2, none⟩ = some (.int .i64 p) ∧ W.cell? ⟨w.heap.size, 3, none⟩ = some (.int .i64 u)) ⟨hb0 _, by simp, by go_simp, by go_simp⟩ ?_
  rintro W ⟨hB, hz, k2, k3⟩
  refine (HR.out W hB).mono ?_
  rintro e w1 ⟨a1, c1, rfl, o1, b1⟩
  obtain ⟨L, hL⟩ : ∃ L, L = W.heap.size := ⟨_, rfl⟩
  have hwL : w.heap.size < L := by omega
  rw [← hL] at o1
  have HP0 := Lib.hid (⟨by rw [plA_0]; exact o1, hB.next b1, b1.keep k2, b1.keep k3⟩ : OwR L w1.heap.size w1 (.slice a1 N c1) (tab N (plA E p u 0 0)) ∧ _ ∧ _ ∧ _)
  clear o1 b1 hB hz k2 k3 HR hL
  go_wp2
  go_loopw [14] (fun i wr => ∃ e : Nat, e ≤ N ∧ i = .int .i64 e ∧ OwR L wr.heap.size wr (.slice a1 N c1) (tab N (plA E p u e 0)) ∧ Below w.heap.size w wr ∧ wr.cell? ⟨w.heap.size, 2, none⟩ = some (.int .i64 p) ∧ wr.cell? ⟨w.heap.size, 3, none⟩ = some (.int .i64 u)) (fun i _ => N - (intOf i).toNat)
  case atStart => exact ⟨0, Nat.zero_le _, rfl, HP0.out⟩
  case round =>
    clear HP0
    obtain ⟨e, he, rfl, hO, hB, k2, k3⟩ := hrel
    obtain ⟨U, rfl⟩ : ∃ U, U = wr := ⟨_, rfl⟩
    by_cases hlt : e < N
    · have hltI : (e : Int) < (N : Int) := by omega
      have he0 : (0 : Int) ≤ (e : Int) := by omega
      obtain ⟨g, b, cb, rfl, hh, _⟩ := hO.ent hlt hlt
      have H0 := Lib.hid (⟨hO, hh, hB, k2, k3, by omega, hwL⟩ : PlI L w.heap.size N g c1 b cb e s a n c p u (plA E p u e 0) w.heap.size w U)
      clear hO hB k2 k3
      go_wp2
      clear hh
      go_loopw [21] (fun i wr => ∃ f : Nat, f ≤ N ∧ i = .int .i64 f ∧ PlI L w.heap.size N g c1 b cb e s a n c p u (plA E p u e f) w.heap.size w wr) (fun i _ => N - (intOf i).toNat)
      case atStart => exact ⟨0, Nat.zero_le _, rfl, H0.out⟩
      case round =>
        rename_i hrel
        clear H0
        obtain ⟨f, hf, rfl, hP⟩ := hrel
        by_cases hlf : f < N
        · have hlfI : (f : Int) < (N : Int) := by omega
          have hf0 : (0 : Int) ≤ (f : Int) := by omega
          obtain ⟨r1, r2, hput⟩ := hP.bump hlt hlf
          rw [plA_at] at r1
          have k3 := hP.k3
          obtain ⟨x, hx⟩ : ∃ x, x = E e f * (-u) := ⟨_, rfl⟩
          have hxb : -101 ≤ x ∧ x ≤ 101 := by
            have := HPU.out
            rw [hx]
            rcases HEB.out e f with e0 | e0 <;> rw [e0] <;> simp <;> omega
          have hst := plA_put E p u e f
          rw [← hx] at hst
          have hfin := (show ∀ y, I64 y → PlI L w.heap.size N g c1 b cb e s a n c p u (put (plA E p u e f) e f y) w.heap.size w (wr.drew.setCell ⟨b, f, none⟩ (.int .i64 y)) from fun y hy => by
            have := (show PlI L w.heap.size N g c1 b cb e s a n c p u (plA E p u e f) w.heap.size w wr.drew from hP.next (Qt.refl wr).drew.below (by have := hP.below.size; omega))
            exact (this.bump hlt hlf).2.2 y hy) x (by unfold I64; omega)
          rw [hst] at hfin
          have HF := Lib.hid hfin
          have t1 : IntKind.i64.wrap (E e f * (-u)) = x := by rw [← hx]; exact IntWalk.i64_in _ (by clear hx; omega)
          have t2 : wrap64 (E e f * (-u)) = x := by rw [← hx]; exact IntWalk.wrap64_in _ (by clear hx t1; omega)
          generalize E e f = y at r1 t1 t2
          have d1 : wr.drew.cell? ⟨b, f, none⟩ = _ := r1
          have d2 : wr.drew.frozen? ⟨b, f, none⟩ = _ := r2
          clear hx hxb hst hput hfin hP
          go_wp2_with fail
          go_still_tail 9, (by kernel_rfl)
          change wpList _ _ _ _ _ wr.drew
          clear r1 r2 k3 t1 t2
          generalize wr.drew = Z at HF d1 d2 ⊢
          go_wp2_with fail
          go_roundw
          case rel => exact ⟨f+1, by omega, by go_num, HF.out⟩
          case measure => simp [intOf]; omega
        · obtain rfl : f = N := by omega
          obtain ⟨r1, r2, hput⟩ := hP.bump hlt hlt
          rw [plA_diag hlt] at r1
          obtain ⟨x, hx⟩ : ∃ x, x = E e e * (-u) := ⟨_, rfl⟩
          have hxb : -101 ≤ x ∧ x ≤ 101 := by
            have := HPU.out
            rw [hx]
            rcases HEB.out e e with e0 | e0 <;> rw [e0] <;> simp <;> omega
          have hfin := hput (x + 1) (by unfold I64; omega)
          have h0 := plB_0 (E := E) (p := p) (u := u) hlt
          rw [← hx] at r1 h0
          have t1 : IntKind.i64.wrap (x + 1) = x + 1 := IntWalk.i64_in _ (by clear hx; omega)
          have t2 : wrap64 (x + 1) = x + 1 := IntWalk.wrap64_in _ (by clear hx t1; omega)
          have HF := Lib.hid (show PlI L w.heap.size f g c1 b cb e s a n c p u (plB E p u e 0) w.heap.size w (wr.setCell ⟨b, e, none⟩ (.int .i64 (x + 1))) from ⟨by rw [← h0]; exact hfin.rows, hfin.hd, hfin.below, hfin.k2, hfin.k3, hfin.lo, hfin.xl⟩)
          clear hput hfin h0 hx hxb hP
          go_wp2
          clear t1 t2 r1 r2
          generalize wr.setCell ⟨b, e, none⟩ (.int .i64 (x + 1)) = V at HF ⊢
          go_loopw [42] (fun i wr => ∃ q : Nat, q ≤ f ∧ i = .int .i64 q ∧ PlI L w.heap.size f g c1 b cb e s a n c p u (plB E p u e q) w.heap.size w wr) (fun i _ => f - (intOf i).toNat)
          case atStart => exact ⟨0, Nat.zero_le _, rfl, HF.out⟩
          case round =>
            rename_i hrel
            clear HF
            obtain ⟨q, hq, rfl, hP⟩ := hrel
            by_cases hlq : q < f
            · have hlqI : (q : Int) < (f : Int) := by omega
              have hq0 : (0 : Int) ≤ (q : Int) := by omega
              obtain ⟨r1, r2, hput⟩ := hP.bump hlt hlq
              rw [plB_at] at r1
              have k2 := hP.k2
              have hxb : -1000 ≤ plX E u e q ∧ plX E u e q ≤ 1000 := by
                have := HPU.out
                unfold plX
                rcases HEB.out e q with e0 | e0 <;> rw [e0] <;> split <;> simp <;> omega
              have hst := plB_put E p u e q
              have hrd := HRD.out (plX E u e q)
              obtain ⟨y, hy⟩ : ∃ y, y = plX E u e q % p := ⟨_, rfl⟩
              have hyb : I64 y := by
                have := HPU.out
                have h1 := Int.emod_nonneg (plX E u e q) (show p ≠ 0 by omega)
                have h2 := Int.emod_lt_of_pos (plX E u e q) (show 0 < p by omega)
                rw [hy]; unfold I64; omega
              rw [← hy] at hst hrd
              generalize plX E u e q = x at r1 hxb hrd
              have HRR := Lib.hid (fun W => hrd W hxb)
              have HFN := Lib.hid (fun (W5 : World) (b5 : Below wr.heap.size wr W5) => (((hP.next b5 (by have := hP.below.size; omega)).bump hlt hlq).2.2 y hyb))
              rw [hst] at HFN
              have HKF := Lib.hid (World.block_lt_of_cell? wr _ r1)
              clear hput hst hrd hy hyb hxb hP
              go_wp2_with fail
              refine (HRR.out wr).mono ?_
              rintro e9 w5 ⟨rfl, b5⟩
              have HF := Lib.hid (HFN.out w5 b5)
              have d1 := b5.keep r1
              have d2 := b5.keepf HKF.out r2
              clear r1 r2 k2 b5 HRR HFN HKF
              go_wp2
              go_roundw
              case rel => exact ⟨q+1, by omega, by go_num, HF.out⟩
              case measure => simp [intOf]; omega
            · obtain rfl : q = f := by omega
              have HF := Lib.hid (⟨by rw [← plB_next]; exact hP.rows, hP.below, hP.k2, hP.k3⟩ : OwR L wr.heap.size wr (.slice (some ⟨g, 0, none⟩) q c1) (tab q (plA E p u (e + 1) 0)) ∧ _ ∧ _ ∧ _)
              clear hP
              go_wp2
              go_roundw
              case rel => exact ⟨e+1, by omega, by go_num, HF.out⟩
              case measure => simp [intOf]; omega
    · obtain rfl : e = N := by omega
      have HF := Lib.hid (⟨by rw [plA_end] at hO; exact hO.mono (by omega) (Nat.le_refl _), hB⟩ : OwR w.heap.size U.heap.size U (.slice a1 e c1) (tab e (plM E p u)) ∧ _)
      clear hO hB k2 k3
      go_wp2
      go_ret
      exact ⟨a1, c1, rfl, HF.out⟩
end Go.Proofs.Ytnblhkhdilkbeaa
