/- The memory of an elimination: a struct, the headers of square rows, and the rows, each in a block of its own. -/
import Derived.Test.YtnblhkhdilkbeaaCoreG
import Derived.Test.YtnblhkhdilkbeaaGaM
set_option linter.unusedSimpArgs false
set_option linter.unusedVariables false
set_option maxRecDepth 100000
namespace Go.Proofs.Ytnblhkhdilkbeaa
open Go.RowKit

theorem cell_other {w : World} {b b' o o' : Nat} {u v : Value} (h : w.cell? ⟨b, o, none⟩ = some v) (hne : b ≠ b' ∨ o ≠ o') : (w.setCell ⟨b', o', none⟩ u).cell? ⟨b, o, none⟩ = some v := by
  rw [World.cell?_setCell_other _ _ _ _ (by intro e; injection e with e1 e2; rcases hne with h1 | h1 <;> (first | exact h1 e1.symm | exact h1 e2.symm | exact h1 e1 | exact h1 e2))]; exact h

structure EL (B0 : Nat) (w0 : World) (E : Nat → Nat → Option Value) (X : Nat) (num : Value) (g N c : Nat) (rb cp : Nat → Nat) (f : Nat → Nat → Int) (p : Int) (W : World) : Prop where
  n0 : W.cell? ⟨X, 0, none⟩ = some num
  n1 : W.cell? ⟨X, 1, none⟩ = some (.slice (some ⟨g, 0, none⟩) N c)
  n2 : W.cell? ⟨X, 2, none⟩ = some (.int .i64 p)
  nf : W.frozen? ⟨X, 2, none⟩ = false
  hd : ∀ i, i < N → W.cell? ⟨g, i, none⟩ = some (.slice (some ⟨rb i, 0, none⟩) N (cp i))
  hf : ∀ i, i < N → W.frozen? ⟨g, i, none⟩ = false
  at_ : ∀ i j, i < N → j < N → W.cell? ⟨rb i, j, none⟩ = some (.int .i64 (f i j))
  fz : ∀ i j, i < N → j < N → W.frozen? ⟨rb i, j, none⟩ = false
  inj : ∀ i l, i < N → l < N → i ≠ l → rb i ≠ rb l
  gX : g ≠ X
  rg : ∀ i, i < N → rb i ≠ g ∧ rb i ≠ X ∧ B0 ≤ rb i ∧ N ≤ cp i
  lX : B0 ≤ X
  lg : B0 ≤ g
  below : Below B0 w0 W
  ex : ∀ b o v, E b o = some v → W.cell? ⟨b, o, none⟩ = some v
  en : ∀ b o v, E b o = some v → b ≠ g ∧ b ≠ X ∧ ∀ i, i < N → b ≠ rb i
theorem EL.next {B0 : Nat} {w0 : World} {E : Nat → Nat → Option Value} {X : Nat} {num : Value} {g N c : Nat} {rb cp : Nat → Nat} {f : Nat → Nat → Int} {p : Int} {W W' : World} (h : EL B0 w0 E X num g N c rb cp f p W) (b : Below W.heap.size W W') (hB : B0 ≤ W.heap.size) : EL B0 w0 E X num g N c rb cp f p W' where
  n0 := b.keep h.n0
  n1 := b.keep h.n1
  n2 := b.keep h.n2
  nf := b.keepf (World.block_lt_of_cell? W _ h.n2) h.nf
  hd := fun i hi => b.keep (h.hd i hi)
  hf := fun i hi => b.keepf (World.block_lt_of_cell? W _ (h.hd i hi)) (h.hf i hi)
  at_ := fun i j hi hj => b.keep (h.at_ i j hi hj)
  fz := fun i j hi hj => b.keepf (World.block_lt_of_cell? W _ (h.at_ i j hi hj)) (h.fz i j hi hj)
  inj := h.inj
  gX := h.gX
  rg := h.rg
  lX := h.lX
  lg := h.lg
  below := h.below.trans (b.mono hB)
  ex := fun b' o v he => b.keep (h.ex b' o v he)
  en := h.en
theorem EL.size {B0 : Nat} {w0 : World} {E : Nat → Nat → Option Value} {X : Nat} {num : Value} {g N c : Nat} {rb cp : Nat → Nat} {f : Nat → Nat → Int} {p : Int} {W : World} (h : EL B0 w0 E X num g N c rb cp f p W) : B0 ≤ W.heap.size := by
  have := World.block_lt_of_cell? W _ h.n0
  have h2 := h.lX
  have h3 : X < W.heap.size := this
  omega
theorem EL.drew {B0 : Nat} {w0 : World} {E : Nat → Nat → Option Value} {X : Nat} {num : Value} {g N c : Nat} {rb cp : Nat → Nat} {f : Nat → Nat → Int} {p : Int} {W : World} (h : EL B0 w0 E X num g N c rb cp f p W) : EL B0 w0 E X num g N c rb cp f p W.drew :=
  ⟨h.n0, h.n1, h.n2, h.nf, h.hd, h.hf, h.at_, h.fz, h.inj, h.gX, h.rg, h.lX, h.lg, h.below.drew, h.ex, h.en⟩
theorem EL.num {B0 : Nat} {w0 : World} {E : Nat → Nat → Option Value} {X : Nat} {num : Value} {g N c : Nat} {rb cp : Nat → Nat} {f : Nat → Nat → Int} {p : Int} {W : World} (h : EL B0 w0 E X num g N c rb cp f p W) {i j : Nat} (hi : i < N) (hj : j < N) (x : Int) : EL B0 w0 E X num g N c rb cp (put f i j x) p (W.setCell ⟨rb i, j, none⟩ (.int .i64 x)) where
  n0 := cell_other h.n0 (.inl (fun e => (h.rg i hi).2.1 e.symm))
  n1 := cell_other h.n1 (.inl (fun e => (h.rg i hi).2.1 e.symm))
  n2 := cell_other h.n2 (.inl (fun e => (h.rg i hi).2.1 e.symm))
  nf := (World.frozen?_setCell _ _ _ _).trans h.nf
  hd := fun l hl => cell_other (h.hd l hl) (.inl (fun e => (h.rg i hi).1 e.symm))
  hf := fun l hl => (World.frozen?_setCell _ _ _ _).trans (h.hf l hl)
  at_ := fun l q hl hq => by
    unfold put
    by_cases e : l = i ∧ q = j
    · obtain ⟨rfl, rfl⟩ := e
      rw [if_pos ⟨rfl, rfl⟩]
      exact World.cell?_setCell_same _ _ _ (h.at_ l q hl hq)
    · rw [if_neg e]
      refine cell_other (h.at_ l q hl hq) ?_
      by_cases e1 : l = i
      · exact .inr (fun e2 => e ⟨e1, e2⟩)
      · exact .inl (h.inj l i hl hi e1)
  fz := fun l q hl hq => (World.frozen?_setCell _ _ _ _).trans (h.fz l q hl hq)
  inj := h.inj
  gX := h.gX
  rg := h.rg
  lX := h.lX
  lg := h.lg
  below := h.below.setCell (p := ⟨rb i, j, none⟩) (h.rg i hi).2.2.1 _
  ex := fun b' o v he => cell_other (h.ex b' o v he) (.inl ((h.en b' o v he).2.2 i hi))
  en := h.en
theorem EL.piv {B0 : Nat} {w0 : World} {E : Nat → Nat → Option Value} {X : Nat} {num : Value} {g N c : Nat} {rb cp : Nat → Nat} {f : Nat → Nat → Int} {p : Int} {W : World} (h : EL B0 w0 E X num g N c rb cp f p W) (x : Int) : EL B0 w0 E X num g N c rb cp f x (W.setCell ⟨X, 2, none⟩ (.int .i64 x)) where
  n0 := cell_other h.n0 (.inr (by decide))
  n1 := cell_other h.n1 (.inr (by decide))
  n2 := World.cell?_setCell_same _ _ _ h.n2
  nf := (World.frozen?_setCell _ _ _ _).trans h.nf
  hd := fun l hl => cell_other (h.hd l hl) (.inl h.gX)
  hf := fun l hl => (World.frozen?_setCell _ _ _ _).trans (h.hf l hl)
  at_ := fun l q hl hq => cell_other (h.at_ l q hl hq) (.inl (h.rg l hl).2.1)
  fz := fun l q hl hq => (World.frozen?_setCell _ _ _ _).trans (h.fz l q hl hq)
  inj := h.inj
  gX := h.gX
  rg := h.rg
  lX := h.lX
  lg := h.lg
  below := h.below.setCell (p := ⟨X, 2, none⟩) h.lX _
  ex := fun b' o v he => cell_other (h.ex b' o v he) (.inl (h.en b' o v he).2.1)
  en := h.en
def swN (r : Nat → Nat) (a b : Nat) : Nat → Nat := fun i => if i = a then r b else if i = b then r a else r i
theorem EL.swap {B0 : Nat} {w0 : World} {E : Nat → Nat → Option Value} {X : Nat} {num : Value} {g N c : Nat} {rb cp : Nat → Nat} {f : Nat → Nat → Int} {p : Int} {W : World} (h : EL B0 w0 E X num g N c rb cp f p W) {a b : Nat} (ha : a < N) (hb : b < N) (hab : a ≠ b) :
    EL B0 w0 E X num g N c (swN rb a b) (swN cp a b) (swp f a b) p ((W.setCell ⟨g, a, none⟩ (.slice (some ⟨rb b, 0, none⟩) N (cp b))).setCell ⟨g, b, none⟩ (.slice (some ⟨rb a, 0, none⟩) N (cp a))) where
  n0 := cell_other (cell_other h.n0 (.inl (fun e => h.gX e.symm))) (.inl (fun e => h.gX e.symm))
  n1 := cell_other (cell_other h.n1 (.inl (fun e => h.gX e.symm))) (.inl (fun e => h.gX e.symm))
  n2 := cell_other (cell_other h.n2 (.inl (fun e => h.gX e.symm))) (.inl (fun e => h.gX e.symm))
  nf := (World.frozen?_setCell _ _ _ _).trans ((World.frozen?_setCell _ _ _ _).trans h.nf)
  hd := fun l hl => by
    unfold swN
    by_cases e1 : l = a
    · subst e1
      rw [if_pos rfl, if_pos rfl]
      exact cell_other (World.cell?_setCell_same _ _ _ (h.hd l hl)) (.inr hab)
    · rw [if_neg e1, if_neg e1]
      by_cases e2 : l = b
      · subst e2
        rw [if_pos rfl, if_pos rfl]
        exact World.cell?_setCell_same _ _ _ (cell_other (h.hd l hl) (.inr e1))
      · rw [if_neg e2, if_neg e2]
        exact cell_other (cell_other (h.hd l hl) (.inr e1)) (.inr e2)
  hf := fun l hl => (World.frozen?_setCell _ _ _ _).trans ((World.frozen?_setCell _ _ _ _).trans (h.hf l hl))
  at_ := fun l q hl hq => by
    unfold swN swp
    by_cases e1 : l = a
    · rw [if_pos e1, if_pos e1]; exact cell_other (cell_other (h.at_ b q hb hq) (.inl (h.rg b hb).1)) (.inl (h.rg b hb).1)
    · rw [if_neg e1, if_neg e1]
      by_cases e2 : l = b
      · rw [if_pos e2, if_pos e2]; exact cell_other (cell_other (h.at_ a q ha hq) (.inl (h.rg a ha).1)) (.inl (h.rg a ha).1)
      · rw [if_neg e2, if_neg e2]; exact cell_other (cell_other (h.at_ l q hl hq) (.inl (h.rg l hl).1)) (.inl (h.rg l hl).1)
  fz := fun l q hl hq => by
    refine (World.frozen?_setCell _ _ _ _).trans ((World.frozen?_setCell _ _ _ _).trans ?_)
    unfold swN
    by_cases e1 : l = a
    · rw [if_pos e1]; exact h.fz b q hb hq
    · rw [if_neg e1]
      by_cases e2 : l = b
      · rw [if_pos e2]; exact h.fz a q ha hq
      · rw [if_neg e2]; exact h.fz l q hl hq
  inj := fun i l hi hl hil => by
    unfold swN
    by_cases e1 : i = a
    · rw [if_pos e1]
      by_cases e2 : l = a
      · omega
      · rw [if_neg e2]
        by_cases e3 : l = b
        · rw [if_pos e3]; exact h.inj b a hb ha (fun e => hab e.symm)
        · rw [if_neg e3]; exact h.inj b l hb hl (fun e => e3 e.symm)
    · rw [if_neg e1]
      by_cases e2 : i = b
      · rw [if_pos e2]
        by_cases e3 : l = a
        · rw [if_pos e3]; exact h.inj a b ha hb hab
        · rw [if_neg e3, if_neg (by omega)]; exact h.inj a l ha hl (fun e => e3 e.symm)
      · rw [if_neg e2]
        by_cases e3 : l = a
        · rw [if_pos e3]; exact h.inj i b hi hb e2
        · rw [if_neg e3]
          by_cases e4 : l = b
          · rw [if_pos e4]; exact h.inj i a hi ha e1
          · rw [if_neg e4]; exact h.inj i l hi hl hil
  gX := h.gX
  rg := fun i hi => by
    unfold swN
    by_cases e1 : i = a
    · rw [if_pos e1, if_pos e1]; exact h.rg b hb
    · rw [if_neg e1, if_neg e1]
      by_cases e2 : i = b
      · rw [if_pos e2, if_pos e2]; exact h.rg a ha
      · rw [if_neg e2, if_neg e2]; exact h.rg i hi
  lX := h.lX
  lg := h.lg
  below := (h.below.setCell (p := ⟨g, a, none⟩) h.lg _).setCell (p := ⟨g, b, none⟩) h.lg _
  ex := fun b' o v he => cell_other (cell_other (h.ex b' o v he) (.inl (h.en b' o v he).1)) (.inl (h.en b' o v he).1)
  en := fun b' o v he => ⟨(h.en b' o v he).1, (h.en b' o v he).2.1, fun i hi => by
    unfold swN
    by_cases e1 : i = a
    · rw [if_pos e1]; exact (h.en b' o v he).2.2 b hb
    · rw [if_neg e1]
      by_cases e2 : i = b
      · rw [if_pos e2]; exact (h.en b' o v he).2.2 a ha
      · rw [if_neg e2]; exact (h.en b' o v he).2.2 i hi⟩

/-- owned square rows, by their blocks -/
theorem OwR.blocks {lo hi : Nat} {w : World} {a : Option Addr} {N c : Nat} {f : Nat → Nat → Int} (h : OwR lo hi w (.slice a N c) (tab N f)) (h0 : 0 < N) :
    ∃ (g : Nat) (rb cp : Nat → Nat), a = some ⟨g, 0, none⟩ ∧ N ≤ c ∧ lo ≤ g ∧ g < w.heap.size ∧ (∀ i, i < N → w.cell? ⟨g, i, none⟩ = some (.slice (some ⟨rb i, 0, none⟩) N (cp i))) ∧ (∀ i, i < N → w.frozen? ⟨g, i, none⟩ = false) ∧
      (∀ i j, i < N → j < N → w.cell? ⟨rb i, j, none⟩ = some (.int .i64 (f i j)) ∧ w.frozen? ⟨rb i, j, none⟩ = false) ∧ (∀ i l, i < N → l < N → i ≠ l → rb i ≠ rb l) ∧ (∀ i, i < N → rb i ≠ g ∧ lo ≤ rb i ∧ rb i < w.heap.size ∧ N ≤ cp i) := by
  obtain ⟨h1, hh, rvs, h3, hr, hd⟩ := h
  rw [tab_len] at h1 h3 hd
  obtain ⟨g, c', hv, hg, hgw⟩ := h3.form (by omega)
  simp only [Value.slice.injEq] at hv
  obtain ⟨rfl, _, rfl⟩ := hv
  have hcapc : N ≤ c := by
    obtain ⟨_, hx | ⟨g9, cap9, cur9, hv9, _, _, _, _, hn9, hc9⟩⟩ := h3
    · simp at hx
    · simp only [Value.slice.injEq] at hv9
      have e9 : c = cap9 := by omega
      rw [e9]; omega
  have hrow : ∀ i, i < N → ∃ b cb, rvs.getD i (.slice none 0 0) = .slice (some ⟨b, 0, none⟩) N cb ∧ lo ≤ b ∧ b < w.heap.size ∧ N ≤ cb ∧ ∀ j, j < N → w.cell? ⟨b, j, none⟩ = some (.int .i64 (f i j)) ∧ w.frozen? ⟨b, j, none⟩ = false := by
    intro i hi
    have ho := hr.own i (by rw [tab_len]; exact hi)
    obtain ⟨o1, o2, o3, o4⟩ := ho
    rw [tab_rlen f hi] at o3
    obtain ⟨b, cb, hrv, hb, hbw⟩ := o3.form (by omega)
    have hcap : N ≤ cb := by
      obtain ⟨_, hx | ⟨g9, cap9, cur9, hv9, _, _, _, _, hn9, hc9⟩⟩ := o3
      · rw [hrv] at hx; simp at hx
      · rw [hrv] at hv9
        simp only [Value.slice.injEq] at hv9
        have e9 : cb = cap9 := by omega
        rw [e9]; omega
    refine ⟨b, cb, hrv, hb, hbw, hcap, fun j hj => ?_⟩
    rw [hrv] at o3
    have hl : j < ((tab N f).getD i []).length := by rw [tab_rlen f hi]; exact hj
    refine ⟨?_, o3.frozenAt j⟩
    rw [o3.cellAt j (by omega), List.getElem?_map, List.getElem?_eq_getElem hl]
    have hgl : ((tab N f).getD i []).getD j 0 = ((tab N f).getD i [])[j] := by
      generalize (tab N f).getD i [] = ys at hl
      simp [List.getD, List.getElem?_eq_getElem hl]
    rw [tab_get f hi hj] at hgl
    rw [← hgl]; rfl
  have hrow' : ∀ i, ∃ bc : Nat × Nat, i < N → rvs.getD i (.slice none 0 0) = .slice (some ⟨bc.1, 0, none⟩) N bc.2 ∧ lo ≤ bc.1 ∧ bc.1 < w.heap.size ∧ N ≤ bc.2 ∧ ∀ j, j < N → w.cell? ⟨bc.1, j, none⟩ = some (.int .i64 (f i j)) ∧ w.frozen? ⟨bc.1, j, none⟩ = false := by
    intro i
    by_cases hi : i < N
    · obtain ⟨b, cb, hx⟩ := hrow i hi
      exact ⟨(b, cb), fun _ => hx⟩
    · exact ⟨(0, 0), fun h => absurd h hi⟩
  obtain ⟨F, hF⟩ := Classical.axiomOfChoice hrow'
  refine ⟨g, fun i => (F i).1, fun i => (F i).2, rfl, hcapc, hg, hgw, ?_, ?_, ?_, ?_, ?_⟩
  · intro i hi
    rw [h3.cellAt i (by omega)]
    have hl : i < rvs.length := by rw [hr.len, tab_len]; exact hi
    have := (hF i hi).1
    simp only [List.getD, List.getElem?_eq_getElem hl, Option.getD_some] at this
    rw [List.getElem?_eq_getElem hl, this]
  · intro i hi
    exact h3.frozenAt i
  · intro i j hi hj
    exact (hF i hi).2.2.2.2 j hj
  · intro i l hi hl hil e0
    have e : (F i).1 = (F l).1 := e0
    have hs := (hF i hi).1
    have ht := (hF l hl).1
    rcases Nat.lt_or_gt_of_ne hil with h9 | h9
    · have := hr.dj i l h9 (by rw [tab_len]; exact hl)
      rw [hs, ht] at this
      exact this _ rfl (by show some _ = some _; rw [e])
    · have := hr.dj l i h9 (by rw [tab_len]; exact hi)
      rw [hs, ht] at this
      exact this _ rfl (by show some _ = some _; rw [e])
  · intro i hi
    refine ⟨fun e0 => ?_, (hF i hi).2.1, (hF i hi).2.2.1, (hF i hi).2.2.2.1⟩
    have := hd i (by first | exact hi | (rw [tab_len]; exact hi))
    have e : (F i).1 = g := e0
    rw [(hF i hi).1] at this
    exact this g rfl (by show some _ = some g; rw [e])
end Go.Proofs.Ytnblhkhdilkbeaa
