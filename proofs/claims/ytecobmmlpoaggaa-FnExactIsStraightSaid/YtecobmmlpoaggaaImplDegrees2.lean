/- DegreesOf of the program. -/
import Derived.Test.YtecobmmlpoaggaaImplDegrees
set_option linter.unusedSimpArgs false
set_option linter.unusedVariables false
namespace Go.Proofs.Ytecobmmlpoaggaa
open Go.RowKit

theorem dgl_step (m : Nat) (xss : List (List Int)) (k i0 i1 : Nat) (hk : k < xss.length) (h0 : (xss.getD k []).getD 0 0 = (i0 : Int)) (h1 : (xss.getD k []).getD 1 0 = (i1 : Int)) (l0 : i0 < m) (l1 : i1 < m) :
    dgl m (xss.take (k+1)) = if i0 = i1 then (dgl m (xss.take k)).set i0 (.int .i64 (deg (xss.take k) i0 + 1 + 1)) else ((dgl m (xss.take k)).set i0 (.int .i64 (deg (xss.take k) i0 + 1))).set i1 (.int .i64 (deg (xss.take k) i1 + 1)) := by
  have hs : ∀ v : Int, deg (xss.take (k+1)) v = deg (xss.take k) v + (one ((i0 : Int) == v) + one ((i1 : Int) == v)) := by
    intro v
    rw [deg_step hk v]
    unfold dg
    rw [h0, h1]
  have ho : ∀ i j : Nat, one ((i : Int) == (j : Int)) = if i = j then 1 else 0 := by
    intro i j
    unfold one
    by_cases e : i = j
    · simp [e]
    · have : ¬ (i : Int) = (j : Int) := by omega
      simp [e, this]
  apply List.ext_getElem?
  intro j
  by_cases hj : j < m
  · rw [dgl_get m _ j hj, hs, ho, ho]
    by_cases e : i0 = i1
    · subst e
      rw [if_pos rfl, List.getElem?_set]
      by_cases e2 : i0 = j
      · subst e2
        simp [dgl, hj]
        omega
      · simp [e2, dgl_get m _ j hj]
    · rw [if_neg e, List.getElem?_set, List.getElem?_set]
      by_cases e2 : i1 = j
      · subst e2
        simp [e, dgl, hj]
      · by_cases e3 : i0 = j
        · subst e3
          simp [e2, dgl, hj]
        · simp [e2, e3, dgl_get m _ j hj]
  · have hl : ∀ ys, (dgl m ys)[j]? = none := fun ys => by simp [dgl, hj]
    rw [hl]
    by_cases e : i0 = i1
    · rw [if_pos e]; symm; rw [List.getElem?_eq_none_iff]; simp [dgl]; omega
    · rw [if_neg e]; symm; rw [List.getElem?_eq_none_iff]; simp [dgl]; omega

theorem edgesOfP {lo hi : Nat} (s : Int) (a : Option Addr) (n c : Nat) (xss : List (List Int)) (w : World) (h : RdR lo hi w (.slice a n c) xss) (hg : grB s xss = true) (hn : xss.length = n) (h0 : 0 < n) :
    Calls Try.prog 64 #[.agg #[.int .i64 s, .slice a n c]] w fun e w' => ∃ g c', e = .returned (.slice (some ⟨g, 0, none⟩) n c') ∧ w'.ownsRow w.heap.size 64 2 (.slice (some ⟨g, 0, none⟩) n c') n (flat (pairs xss)) ∧ Below w.heap.size w w' := by
  refine (edgesOf s a n c xss w h hg hn).mono fun e w' ⟨a', c', he, ho, hb⟩ => ?_
  have ho' := ho
  rcases ho.2 with ⟨hv, h1⟩ | ⟨g, cap, cur, hv, _⟩
  · omega
  · simp only [Value.slice.injEq] at hv
    obtain ⟨rfl, _, rfl⟩ := hv
    exact ⟨g, c', he, ho', hb⟩

set_option maxHeartbeats 3200000 in
theorem implDegrees_yes {lo hi : Nat} (m : Nat) (a : Option Addr) (n c : Nat) (xss : List (List Int)) (w : World) (h : RdR lo hi w (.slice a n c) xss) (hn : xss.length = n) (hg : grB (m : Int) xss = true) (hn0 : 0 < n) :
    Calls Try.prog 108 #[.agg #[.int .i64 (m : Int), .slice a n c]] w fun e w' => ∃ v, e = .returned (.tuple #[v, .int .i64 0]) ∧ w'.ownsRow w.heap.size 2 1 v m (dgl m xss) ∧ Below w.heap.size w w' := by
  obtain ⟨i0, hi', z0, z1, z2⟩ := info_parts Try.info2
  have hb0 : ∀ o, Below w.heap.size w (w.alloc o) := fun o => (Below.refl _ _).alloc (Nat.le_refl _) o
  obtain ⟨hs1, hs2, h3, h4⟩ := grB_iff hg
  have HG := Lib.hid hg
  have HN := Lib.hid hn
  have H4 := Lib.hid h4
  have hn10 : n ≤ 10 := by omega
  clear hg hn h4
  go_enter Try.func108, Try.ntmps108
  go_wp2_with fail
  refine calls_gen (fun W => Below w.heap.size w W ∧ w.heap.size < W.heap.size ∧ W.cell? ⟨w.heap.size, 0, none⟩ = some (.int .i64 (m : Int)) ∧ W.cell? ⟨w.heap.size, 1, none⟩ = some (.slice a n c)) ⟨hb0 _, by simp, by go_simp, by go_simp⟩ ?_
  rintro W ⟨hB, hz, k1, k2⟩
  refine (implIsGraph _ a n c xss W (h.below hB) HN.out).mono ?_
  rw [HG.out]
  rintro e w1 ⟨rfl, b1⟩
  replace k1 := b1.keep k1
  replace k2 := b1.keep k2
  replace hB := hB.next b1
  have hz1 : w.heap.size < w1.heap.size := by have := b1.size; omega
  clear b1
  go_wp2_with (at_make; refine wpList_make_full _ rfl _ _ 45 rfl w1.heap.size 2 i0 (.int .i64 0) 1 Try.underlying45 hi' z0 z1 _ _ _ _ m rfl rfl rfl rfl ?c1 ?c2 ?c3 ?_)
  case c1 => rw [z2]; omega
  case c2 => unfold maxLen; omega
  case c3 => exact Nat.le_refl _
  intro w2 hown hgr
  rw [dgl_zero m] at hown
  have hB2 : Below w.heap.size w w2 := hB.grown hgr hB.size (by simp)
  replace k1 := hgr.cell k1 (by simp)
  replace k2 := hgr.cell k2 (by simp)
  have hz2 : w1.heap.size < w2.heap.size := (hown.lt _ rfl).2
  clear hgr hB
  go_wp2_with fail
  refine (edgesOfP _ a n c xss w2 (h.below hB2) HG.out HN.out hn0).mono ?_
  rintro e w3 ⟨g3, c3, rfl, o3, b3⟩
  have hB3 := hB2.next b3
  have hown3 := ownsRow_chg hown (b3.chg 0 0) (fun _ _ => .inr (Nat.zero_le _))
  have hz3 := b3.size
  replace k1 := b3.keep k1
  replace k2 := b3.keep k2
  clear hown b3 hB2
  have hg3 := (o3.lt _ rfl).1
  have hg4 := (o3.lt _ rfl).2
  go_wp2
  go_loopw [16, 6] (fun i _ wr => ∃ k : Nat, k ≤ n ∧ i = .int .i64 k ∧ wr.ownsRow w1.heap.size 2 1 (.slice (some ⟨w1.heap.size, 0, none⟩) m m) m (dgl m (xss.take k)) ∧ wr.ownsRow w2.heap.size 64 2 (.slice (some ⟨g3, 0, none⟩) n c3) n (flat (pairs xss)) ∧ Below w.heap.size w wr ∧ g3 < wr.heap.size) (fun i _ _ => n - (intOf i).toNat)
  case atStart => exact ⟨0, Nat.zero_le _, rfl, hown3, o3, hB3, hg4⟩
  case round =>
    clear hown3 o3 hB3 k1 k2 hg4
    obtain ⟨k, hk, rfl, hown, ho, hB, hg4⟩ := hrel
    by_cases hlt : k < n
    · have hlt' : k < xss.length := by rw [HN.out]; exact hlt
      obtain ⟨f1, f2⟩ := flat_get xss k hlt'
      obtain ⟨q1, q2, q3, q4, q5⟩ := H4.out k hlt'
      obtain ⟨j0, hj0⟩ : ∃ j0 : Nat, (xss.getD k []).getD 0 0 = j0 := ⟨((xss.getD k []).getD 0 0).toNat, by omega⟩
      obtain ⟨j1, hj1⟩ : ∃ j1 : Nat, (xss.getD k []).getD 1 0 = j1 := ⟨((xss.getD k []).getD 1 0).toNat, by omega⟩
      have hst := dgl_step m xss k j0 j1 hlt' hj0 hj1 (by omega) (by omega)
      rw [hj0] at f1 q3
      rw [hj1] at f2 q5
      have l0 : j0 < m := by omega
      have l1 : j1 < m := by omega
      have e0 := (ho.cellAt (k * 2) (by omega)).trans f1
      have e1 := (ho.cellAt (k * 2 + 1) (by omega)).trans f2
      have d0 := (hown.cellAt j0 (by omega)).trans (dgl_get m _ j0 l0)
      have d1 := (hown.cellAt j1 (by omega)).trans (dgl_get m _ j1 l1)
      have r0 := hown.frozenAt j0
      have r1 := hown.frozenAt j1
      have v0 := deg_bd (xss.take k) j0
      have v1 := deg_bd (xss.take k) j1
      have vl : (xss.take k).length ≤ k := List.length_take_le _ _
      generalize hD0 : deg (xss.take k) (j0 : Int) = D0 at *
      generalize hD1 : deg (xss.take k) (j1 : Int) = D1 at *
      have v00 : 0 ≤ D0 := v0.1
      have v01 : D0 ≤ 20 := by omega
      have v10 : 0 ≤ D1 := v1.1
      have v11 : D1 ≤ 20 := by omega
      have HST := Lib.hid hst
      have hw1 := (hown.lt _ rfl).2
      clear hst f1 f2 q1 q2 q3 q4 q5 hj0 hj1 v0 v1 vl hD0 hD1
      by_cases hj : j0 = j1
      · subst hj
        have hD : D0 = D1 := by rw [d0] at d1; simpa using d1
        subst hD
        rw [if_pos rfl] at HST
        have s1 := (hown.stored j0 (.int .i64 (D0 + 1))).1
        have s2 := (s1.stored j0 (.int .i64 (D0 + 1 + 1))).1
        rw [List.set_set, ← HST.out] at s2
        have t2 := ownsRow_chg ho (((Chg.refl w1.heap.size (w1.heap.size + 1) _).setCell (p := ⟨w1.heap.size, j0, none⟩) ⟨Nat.le_refl _, Nat.lt_succ_self _⟩ (.int .i64 (D0 + 1))).setCell (p := ⟨w1.heap.size, j0, none⟩) ⟨Nat.le_refl _, Nat.lt_succ_self _⟩ (.int .i64 (D0 + 1 + 1))) (fun q hq => by simp [Value.ownBlock] at hq; omega)
        have S2 := Lib.hid (s2.alloc (.cells #[.int .i64 (j0 : Int), .int .i64 (j0 : Int)] 64))
        have T2 := Lib.hid (t2.alloc (.cells #[.int .i64 (j0 : Int), .int .i64 (j0 : Int)] 64))
        clear s1 s2 t2
        go_wp2
        go_roundw
        case rel => exact ⟨k+1, by omega, by go_num, S2.out, T2.out, ((hB.setCell (by simp; omega) _).setCell (by simp; omega) _).alloc (by simp [World.setCell]; exact hB.size) _, by simp [World.setCell]; omega⟩
        case measure => simp [intOf]; omega
      · rw [if_neg hj] at HST
        have s1 := (hown.stored j0 (.int .i64 (D0 + 1))).1
        have s2 := (s1.stored j1 (.int .i64 (D1 + 1))).1
        rw [← HST.out] at s2
        have t2 := ownsRow_chg ho (((Chg.refl w1.heap.size (w1.heap.size + 1) _).setCell (p := ⟨w1.heap.size, j0, none⟩) ⟨Nat.le_refl _, Nat.lt_succ_self _⟩ (.int .i64 (D0 + 1))).setCell (p := ⟨w1.heap.size, j1, none⟩) ⟨Nat.le_refl _, Nat.lt_succ_self _⟩ (.int .i64 (D1 + 1))) (fun q hq => by simp [Value.ownBlock] at hq; omega)
        have S2 := Lib.hid (s2.alloc (.cells #[.int .i64 (j0 : Int), .int .i64 (j1 : Int)] 64))
        have T2 := Lib.hid (t2.alloc (.cells #[.int .i64 (j0 : Int), .int .i64 (j1 : Int)] 64))
        clear s1 s2 t2
        go_wp2
        go_roundw
        case rel => exact ⟨k+1, by omega, by go_num, S2.out, T2.out, ((hB.setCell (by simp; omega) _).setCell (by simp; omega) _).alloc (by simp [World.setCell]; exact hB.size) _, by simp [World.setCell]; omega⟩
        case measure => simp [intOf]; omega
    · go_wp2
      go_ret2
      obtain rfl : k = n := by omega
      rw [List.take_of_length_le (by rw [HN.out]; exact Nat.le_refl _)] at hown
      exact ⟨_, rfl, ownsRow_mono hown (by omega), hB⟩

end Go.Proofs.Ytecobmmlpoaggaa
