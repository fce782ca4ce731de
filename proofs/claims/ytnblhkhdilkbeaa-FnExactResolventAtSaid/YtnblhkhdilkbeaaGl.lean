/- The memory of an elimination of rectangular rows; elimination modulo a prime, step by step. -/
import Derived.Test.YtnblhkhdilkbeaaGm
set_option linter.unusedSimpArgs false
set_option linter.unusedVariables false
set_option maxRecDepth 100000
namespace Go.Proofs.Ytnblhkhdilkbeaa
open Go.RowKit

def tabR (N M : Nat) (f : Nat → Nat → Int) : List (List Int) := (List.range N).map (fun i => (List.range M).map (f i))
theorem tabR_len (N M : Nat) (f : Nat → Nat → Int) : (tabR N M f).length = N := by simp [tabR]
theorem tabR_row {N M : Nat} (f : Nat → Nat → Int) {i : Nat} (h : i < N) : (tabR N M f).getD i [] = (List.range M).map (f i) := by simp [tabR, List.getD, h]
theorem tabR_rlen {N M : Nat} (f : Nat → Nat → Int) {i : Nat} (h : i < N) : ((tabR N M f).getD i []).length = M := by rw [tabR_row f h]; simp
theorem tabR_get {N M : Nat} (f : Nat → Nat → Int) {i j : Nat} (h : i < N) (hj : j < M) : ((tabR N M f).getD i []).getD j 0 = f i j := by rw [tabR_row f h]; simp [List.getD, hj]
theorem tabR_take {N M k : Nat} (f : Nat → Nat → Int) (h : k < N) : (tabR N M f).take (k+1) = (tabR N M f).take k ++ [(List.range M).map (f k)] := by
  unfold tabR
  rw [← List.map_take, ← List.map_take, List.take_range, List.take_range, Nat.min_eq_left (by omega), Nat.min_eq_left (by omega), List.range_succ, List.map_append]
  rfl

structure GL (B0 : Nat) (w0 : World) (g N M c : Nat) (rb cp : Nat → Nat) (f : Nat → Nat → Int) (W : World) : Prop where
  hd : ∀ i, i < N → W.cell? ⟨g, i, none⟩ = some (.slice (some ⟨rb i, 0, none⟩) M (cp i))
  hf : ∀ i, i < N → W.frozen? ⟨g, i, none⟩ = false
  at_ : ∀ i j, i < N → j < M → W.cell? ⟨rb i, j, none⟩ = some (.int .i64 (f i j))
  fz : ∀ i j, i < N → j < M → W.frozen? ⟨rb i, j, none⟩ = false
  inj : ∀ i l, i < N → l < N → i ≠ l → rb i ≠ rb l
  rg : ∀ i, i < N → rb i ≠ g ∧ B0 ≤ rb i ∧ M ≤ cp i
  lg : B0 ≤ g
  below : Below B0 w0 W
theorem GL.drewN {B0 : Nat} {w0 : World} {g N M c : Nat} {rb cp : Nat → Nat} {f : Nat → Nat → Int} {W : World} (h : GL B0 w0 g N M c rb cp f W) (n : Nat) : GL B0 w0 g N M c rb cp f (W.drewN n) :=
  ⟨h.hd, h.hf, h.at_, h.fz, h.inj, h.rg, h.lg, h.below.drewN n⟩
theorem GL.drew {B0 : Nat} {w0 : World} {g N M c : Nat} {rb cp : Nat → Nat} {f : Nat → Nat → Int} {W : World} (h : GL B0 w0 g N M c rb cp f W) : GL B0 w0 g N M c rb cp f W.drew :=
  ⟨h.hd, h.hf, h.at_, h.fz, h.inj, h.rg, h.lg, h.below.drew⟩
theorem GL.qt {B0 : Nat} {w0 : World} {g N M c : Nat} {rb cp : Nat → Nat} {f : Nat → Nat → Int} {W W' : World} (h : GL B0 w0 g N M c rb cp f W) (q : Qt W W') : GL B0 w0 g N M c rb cp f W' := by
  obtain ⟨m, rfl⟩ := q; exact h.drewN m
theorem GL.num {B0 : Nat} {w0 : World} {g N M c : Nat} {rb cp : Nat → Nat} {f : Nat → Nat → Int} {W : World} (h : GL B0 w0 g N M c rb cp f W) {i j : Nat} (hi : i < N) (hj : j < M) (x : Int) : GL B0 w0 g N M c rb cp (put f i j x) (W.setCell ⟨rb i, j, none⟩ (.int .i64 x)) where
  hd := fun l hl => cell_other (h.hd l hl) (.inl (fun e => (h.rg i hi).1 e.symm))
  hf := fun l hl => (World.frozen?_setCell _ _ _ _).trans (h.hf l hl)
  at_ := fun l q hl hq => by
    unfold put
    by_cases e : l = i ∧ q = j
    · obtain ⟨rfl, rfl⟩ := e
      rw [if_pos ⟨rfl, rfl⟩]
      exact World.cell?_setCell_same _ _ _ (h.at_ l q hl hq)
    · rw [if_neg e]
      refine cell_other (h.at_ l q hl hq) ?_
      by_cases e1 : l = i
      · exact .inr (fun e2 => e ⟨e1, e2⟩)
      · exact .inl (h.inj l i hl hi e1)
  fz := fun l q hl hq => (World.frozen?_setCell _ _ _ _).trans (h.fz l q hl hq)
  inj := h.inj
  rg := h.rg
  lg := h.lg
  below := h.below.setCell (p := ⟨rb i, j, none⟩) (h.rg i hi).2.1 _
theorem GL.swap {B0 : Nat} {w0 : World} {g N M c : Nat} {rb cp : Nat → Nat} {f : Nat → Nat → Int} {W : World} (h : GL B0 w0 g N M c rb cp f W) {a b : Nat} (ha : a < N) (hb : b < N) (hab : a ≠ b) :
    GL B0 w0 g N M c (swN rb a b) (swN cp a b) (swp f a b) ((W.setCell ⟨g, a, none⟩ (.slice (some ⟨rb b, 0, none⟩) M (cp b))).setCell ⟨g, b, none⟩ (.slice (some ⟨rb a, 0, none⟩) M (cp a))) where
  hd := fun l hl => by
    unfold swN
    by_cases e1 : l = a
    · subst e1
      rw [if_pos rfl, if_pos rfl]
      exact cell_other (World.cell?_setCell_same _ _ _ (h.hd l hl)) (.inr hab)
    · rw [if_neg e1, if_neg e1]
      by_cases e2 : l = b
      · subst e2
        rw [if_pos rfl, if_pos rfl]
        exact World.cell?_setCell_same _ _ _ (cell_other (h.hd l hl) (.inr e1))
      · rw [if_neg e2, if_neg e2]
        exact cell_other (cell_other (h.hd l hl) (.inr e1)) (.inr e2)
  hf := fun l hl => (World.frozen?_setCell _ _ _ _).trans ((World.frozen?_setCell _ _ _ _).trans (h.hf l hl))
  at_ := fun l q hl hq => by
    unfold swN swp
    by_cases e1 : l = a
    · rw [if_pos e1, if_pos e1]; exact cell_other (cell_other (h.at_ b q hb hq) (.inl (h.rg b hb).1)) (.inl (h.rg b hb).1)
    · rw [if_neg e1, if_neg e1]
      by_cases e2 : l = b
      · rw [if_pos e2, if_pos e2]; exact cell_other (cell_other (h.at_ a q ha hq) (.inl (h.rg a ha).1)) (.inl (h.rg a ha).1)
      · rw [if_neg e2, if_neg e2]; exact cell_other (cell_other (h.at_ l q hl hq) (.inl (h.rg l hl).1)) (.inl (h.rg l hl).1)
  fz := fun l q hl hq => by
    refine (World.frozen?_setCell _ _ _ _).trans ((World.frozen?_setCell _ _ _ _).trans ?_)
    unfold swN
    by_cases e1 : l = a
    · rw [if_pos e1]; exact h.fz b q hb hq
    · rw [if_neg e1]
      by_cases e2 : l = b
      · rw [if_pos e2]; exact h.fz a q ha hq
      · rw [if_neg e2]; exact h.fz l q hl hq
  inj := fun i l hi hl hil => by
    unfold swN
    by_cases e1 : i = a
    · rw [if_pos e1]
      by_cases e2 : l = a
      · omega
      · rw [if_neg e2]
        by_cases e3 : l = b
        · rw [if_pos e3]; exact h.inj b a hb ha (fun e => hab e.symm)
        · rw [if_neg e3]; exact h.inj b l hb hl (fun e => e3 e.symm)
    · rw [if_neg e1]
      by_cases e2 : i = b
      · rw [if_pos e2]
        by_cases e3 : l = a
        · rw [if_pos e3]; exact h.inj a b ha hb hab
        · rw [if_neg e3, if_neg (by omega)]; exact h.inj a l ha hl (fun e => e3 e.symm)
      · rw [if_neg e2]
        by_cases e3 : l = a
        · rw [if_pos e3]; exact h.inj i b hi hb e2
        · rw [if_neg e3]
          by_cases e4 : l = b
          · rw [if_pos e4]; exact h.inj i a hi ha e1
          · rw [if_neg e4]; exact h.inj i l hi hl hil
  rg := fun i hi => by
    unfold swN
    by_cases e1 : i = a
    · rw [if_pos e1, if_pos e1]; exact h.rg b hb
    · rw [if_neg e1, if_neg e1]
      by_cases e2 : i = b
      · rw [if_pos e2, if_pos e2]; exact h.rg a ha
      · rw [if_neg e2, if_neg e2]; exact h.rg i hi
  lg := h.lg
  below := (h.below.setCell (p := ⟨g, a, none⟩) h.lg _).setCell (p := ⟨g, b, none⟩) h.lg _

/-- owned square rows, by their blocks -/
theorem OwR.blocksR {lo hi : Nat} {w : World} {a : Option Addr} {N M c : Nat} {f : Nat → Nat → Int} (h : OwR lo hi w (.slice a N c) (tabR N M f)) (h0 : 0 < N) (hM : 0 < M) :
    ∃ (g : Nat) (rb cp : Nat → Nat), a = some ⟨g, 0, none⟩ ∧ N ≤ c ∧ lo ≤ g ∧ g < w.heap.size ∧ (∀ i, i < N → w.cell? ⟨g, i, none⟩ = some (.slice (some ⟨rb i, 0, none⟩) M (cp i))) ∧ (∀ i, i < N → w.frozen? ⟨g, i, none⟩ = false) ∧
      (∀ i j, i < N → j < M → w.cell? ⟨rb i, j, none⟩ = some (.int .i64 (f i j)) ∧ w.frozen? ⟨rb i, j, none⟩ = false) ∧ (∀ i l, i < N → l < N → i ≠ l → rb i ≠ rb l) ∧ (∀ i, i < N → rb i ≠ g ∧ lo ≤ rb i ∧ rb i < w.heap.size ∧ M ≤ cp i) := by
  obtain ⟨h1, hh, rvs, h3, hr, hd⟩ := h
  rw [tabR_len] at h1 h3 hd
  obtain ⟨g, c', hv, hg, hgw⟩ := h3.form (by omega)
  simp only [Value.slice.injEq] at hv
  obtain ⟨rfl, _, rfl⟩ := hv
  have hcapc : N ≤ c := by
    obtain ⟨_, hx | ⟨g9, cap9, cur9, hv9, _, _, _, _, hn9, hc9⟩⟩ := h3
    · simp at hx
    · simp only [Value.slice.injEq] at hv9
      have e9 : c = cap9 := by omega
      rw [e9]; omega
  have hrow : ∀ i, i < N → ∃ b cb, rvs.getD i (.slice none 0 0) = .slice (some ⟨b, 0, none⟩) M cb ∧ lo ≤ b ∧ b < w.heap.size ∧ M ≤ cb ∧ ∀ j, j < M → w.cell? ⟨b, j, none⟩ = some (.int .i64 (f i j)) ∧ w.frozen? ⟨b, j, none⟩ = false := by
    intro i hi
    have ho := hr.own i (by rw [tabR_len]; exact hi)
    obtain ⟨o1, o2, o3, o4⟩ := ho
    rw [tabR_rlen f hi] at o3
    obtain ⟨b, cb, hrv, hb, hbw⟩ := o3.form (by omega)
    have hcap : M ≤ cb := by
      obtain ⟨_, hx | ⟨g9, cap9, cur9, hv9, _, _, _, _, hn9, hc9⟩⟩ := o3
      · rw [hrv] at hx; simp at hx
      · rw [hrv] at hv9
        simp only [Value.slice.injEq] at hv9
        have e9 : cb = cap9 := by omega
        rw [e9]; omega
    refine ⟨b, cb, hrv, hb, hbw, hcap, fun j hj => ?_⟩
    rw [hrv] at o3
    have hl : j < ((tabR N M f).getD i []).length := by rw [tabR_rlen f hi]; exact hj
    refine ⟨?_, o3.frozenAt j⟩
    rw [o3.cellAt j (by omega), List.getElem?_map, List.getElem?_eq_getElem hl]
    have hgl : ((tabR N M f).getD i []).getD j 0 = ((tabR N M f).getD i [])[j] := by
      generalize (tabR N M f).getD i [] = ys at hl
      simp [List.getD, List.getElem?_eq_getElem hl]
    rw [tabR_get f hi hj] at hgl
    rw [← hgl]; rfl
  have hrow' : ∀ i, ∃ bc : Nat × Nat, i < N → rvs.getD i (.slice none 0 0) = .slice (some ⟨bc.1, 0, none⟩) M bc.2 ∧ lo ≤ bc.1 ∧ bc.1 < w.heap.size ∧ M ≤ bc.2 ∧ ∀ j, j < M → w.cell? ⟨bc.1, j, none⟩ = some (.int .i64 (f i j)) ∧ w.frozen? ⟨bc.1, j, none⟩ = false := by
    intro i
    by_cases hi : i < N
    · obtain ⟨b, cb, hx⟩ := hrow i hi
      exact ⟨(b, cb), fun _ => hx⟩
    · exact ⟨(0, 0), fun h => absurd h hi⟩
  obtain ⟨F, hF⟩ := Classical.axiomOfChoice hrow'
  refine ⟨g, fun i => (F i).1, fun i => (F i).2, rfl, hcapc, hg, hgw, ?_, ?_, ?_, ?_, ?_⟩
  · intro i hi
    rw [h3.cellAt i (by omega)]
    have hl : i < rvs.length := by rw [hr.len, tabR_len]; exact hi
    have := (hF i hi).1
    simp only [List.getD, List.getElem?_eq_getElem hl, Option.getD_some] at this
    rw [List.getElem?_eq_getElem hl, this]
  · intro i hi
    exact h3.frozenAt i
  · intro i j hi hj
    exact (hF i hi).2.2.2.2 j hj
  · intro i l hi hl hil e0
    have e : (F i).1 = (F l).1 := e0
    have hs := (hF i hi).1
    have ht := (hF l hl).1
    rcases Nat.lt_or_gt_of_ne hil with h9 | h9
    · have := hr.dj i l h9 (by rw [tabR_len]; exact hl)
      rw [hs, ht] at this
      exact this _ rfl (by show some _ = some _; rw [e])
    · have := hr.dj l i h9 (by rw [tabR_len]; exact hi)
      rw [hs, ht] at this
      exact this _ rfl (by show some _ = some _; rw [e])
  · intro i hi
    refine ⟨fun e0 => ?_, (hF i hi).2.1, (hF i hi).2.2.1, (hF i hi).2.2.2.1⟩
    have := hd i (by first | exact hi | (rw [tabR_len]; exact hi))
    have e : (F i).1 = g := e0
    rw [(hF i hi).1] at this
    exact this g rfl (by show some _ = some g; rw [e])

structure GaI (p : Int) (A f : Nat → Nat → Int) (N M c : Nat) (d : Int) : Prop where
  unit : ∀ i l, i < N → l < c → f i l = if i = l then 1 else 0
  dets : ∀ cs : List Nat, (∀ l, l ∈ cs → l < M) → cq p (dt (tp A N) cs) (d * dt (tp f N) cs)
  rng : ∀ i j, i < N → j < M → 0 ≤ f i j ∧ f i j < p
  drg : 0 ≤ d ∧ d < p
theorem gi_start {p : Int} {A : Nat → Nat → Int} {N M : Nat} (hp : 2 ≤ p) (h : ∀ i j, i < N → j < M → 0 ≤ A i j ∧ A i j < p) : GaI p A A N M 0 1 :=
  ⟨fun i l _ h => by omega, fun cs _ => by rw [Int.one_mul]; exact cq_refl p _, h, by omega⟩
theorem swp_comm (f : Nat → Nat → Int) (a b : Nat) : swp f a b = swp f b a := by
  funext i
  unfold swp
  by_cases h1 : i = a
  · by_cases h2 : i = b
    · rw [if_pos h1, if_pos h2, ← h1, ← h2]
    · rw [if_pos h1, if_neg h2, if_pos h1]
  · by_cases h2 : i = b
    · rw [if_neg h1, if_pos h2, if_pos h2]
    · rw [if_neg h1, if_neg h2, if_neg h2, if_neg h1]
theorem gi_swap {p : Int} {A f : Nat → Nat → Int} {N M c q : Nat} {d : Int} (hp : 2 ≤ p) (h : GaI p A f N M c d) (hq : c < q) (hqN : q < N) : GaI p A (swp f q c) N M c ((-d) % p) := by
  refine ⟨fun i l hi hl => ?_, fun cs hcs => ?_, fun i j hi hj => ?_, ⟨Int.emod_nonneg _ (by omega), Int.emod_lt_of_pos _ (by omega)⟩⟩
  · unfold swp
    by_cases e1 : i = q
    · rw [if_pos e1, h.unit c l (by omega) hl, if_neg (by omega), if_neg (by omega)]
    · rw [if_neg e1]
      by_cases e2 : i = c
      · rw [if_pos e2, h.unit q l hqN hl, if_neg (by omega), if_neg (by omega)]
      · rw [if_neg e2]; exact h.unit i l hi hl
  · rw [swp_comm, swp_dt f c q N hq hqN]
    refine cq_trans (h.dets cs hcs) ?_
    have : cq p ((-d) % p * -dt (tp f N) cs) (-d * -dt (tp f N) cs) := cq_mul (cq_emod p _) (cq_refl p _)
    rw [Int.neg_mul_neg] at this
    exact cq_symm this
  · unfold swp
    by_cases e1 : i = q
    · rw [if_pos e1]; exact h.rng c j (by omega) hj
    · rw [if_neg e1]
      by_cases e2 : i = c
      · rw [if_pos e2]; exact h.rng q j hqN hj
      · rw [if_neg e2]; exact h.rng i j hi hj
def mulC (f : Nat → Nat → Int) (v p : Int) (c m : Nat) : Nat → Nat → Int := fun i j => if i = c ∧ j < m then f i j * v % p else f i j
theorem mulC_0 (f : Nat → Nat → Int) (v p : Int) (c : Nat) : mulC f v p c 0 = f := by funext i j; unfold mulC; rw [if_neg (by omega)]
theorem mulC_at (f : Nat → Nat → Int) (v p : Int) (c m : Nat) : mulC f v p c m c m = f c m := by unfold mulC; rw [if_neg (by omega)]
theorem mulC_put (f : Nat → Nat → Int) (v p : Int) (c m : Nat) : put (mulC f v p c m) c m (f c m * v % p) = mulC f v p c (m + 1) := by
  funext i j
  unfold put mulC
  by_cases h : i = c ∧ j = m
  · obtain ⟨rfl, rfl⟩ := h
    rw [if_pos ⟨rfl, rfl⟩, if_pos ⟨rfl, by omega⟩]
  · rw [if_neg h]
    have : (i = c ∧ j < m) ↔ (i = c ∧ j < m + 1) := by omega
    simp only [this]
def elC (f : Nat → Nat → Int) (p : Int) (c M i m : Nat) : Nat → Nat → Int := fun a b => if a ≠ c ∧ b < M ∧ (a < i ∨ (a = i ∧ b < m)) then (f a b - f a c * f c b) % p else f a b
theorem elC_0 (f : Nat → Nat → Int) (p : Int) (c M : Nat) : elC f p c M 0 0 = f := by funext a b; unfold elC; rw [if_neg (by omega)]
theorem elC_at (f : Nat → Nat → Int) (p : Int) (c M i m : Nat) : elC f p c M i m i m = f i m := by unfold elC; rw [if_neg (by omega)]
theorem elC_row (f : Nat → Nat → Int) (p : Int) (c M i b : Nat) : elC f p c M i 0 i b = f i b := by unfold elC; rw [if_neg (by omega)]
theorem elC_c (f : Nat → Nat → Int) (p : Int) (c M i m b : Nat) : elC f p c M i m c b = f c b := by unfold elC; rw [if_neg (by omega)]
theorem elC_put (f : Nat → Nat → Int) (p : Int) {c M i m : Nat} (hic : i ≠ c) (hm : m < M) : put (elC f p c M i m) i m ((f i m - f i c * f c m) % p) = elC f p c M i (m + 1) := by
  funext a b
  unfold put elC
  by_cases h : a = i ∧ b = m
  · obtain ⟨rfl, rfl⟩ := h
    rw [if_pos ⟨rfl, rfl⟩, if_pos ⟨hic, hm, .inr ⟨rfl, by omega⟩⟩]
  · rw [if_neg h]
    have : (a ≠ c ∧ b < M ∧ (a < i ∨ (a = i ∧ b < m))) ↔ (a ≠ c ∧ b < M ∧ (a < i ∨ (a = i ∧ b < m + 1))) := by omega
    simp only [this]
theorem elC_next (f : Nat → Nat → Int) (p : Int) {c M i : Nat} : elC f p c M i M = elC f p c M (i + 1) 0 := by
  funext a b
  unfold elC
  have : (a ≠ c ∧ b < M ∧ (a < i ∨ (a = i ∧ b < M))) ↔ (a ≠ c ∧ b < M ∧ (a < i + 1 ∨ (a = i + 1 ∧ b < 0))) := by omega
  simp only [this]
theorem elC_skip (f : Nat → Nat → Int) (p : Int) {c M : Nat} : elC f p c M c 0 = elC f p c M (c + 1) 0 := by
  funext a b
  unfold elC
  have : (a ≠ c ∧ b < M ∧ (a < c ∨ (a = c ∧ b < 0))) ↔ (a ≠ c ∧ b < M ∧ (a < c + 1 ∨ (a = c + 1 ∧ b < 0))) := by omega
  simp only [this]
theorem gi_next {p : Int} {A f : Nat → Nat → Int} {N M c : Nat} {d v : Int} (hp : 2 ≤ p) (h : GaI p A f N M c d) (hc : c < N) (hcM : c < M) (hv : (v * f c c) % p = 1) :
    GaI p A (elC (mulC f v p c M) p c M N 0) N M (c + 1) (d * f c c % p) ∧ (∀ i j, i < N → j < M → 0 ≤ mulC f v p c M i j ∧ mulC f v p c M i j < p) := by
  have hr1 : ∀ i j, i < N → j < M → 0 ≤ mulC f v p c M i j ∧ mulC f v p c M i j < p := by
    intro i j hi hj
    unfold mulC
    split
    · exact ⟨Int.emod_nonneg _ (by omega), Int.emod_lt_of_pos _ (by omega)⟩
    · exact h.rng i j hi hj
  have hcc : mulC f v p c M c c = 1 := by
    unfold mulC; rw [if_pos ⟨rfl, hcM⟩, Int.mul_comm]; exact hv
  have hlow : ∀ i l, i < N → l < c → mulC f v p c M i l = if i = l then 1 else 0 := by
    intro i l hi hl
    unfold mulC
    by_cases e : i = c
    · subst e
      rw [if_pos ⟨rfl, by omega⟩, h.unit i l hi hl, if_neg (by omega)]; simp
    · rw [if_neg (fun x => e x.1)]; exact h.unit i l hi hl
  have hd1 : ∀ cs : List Nat, (∀ l, l ∈ cs → l < M) → cq p (dt (tp A N) cs) (d * f c c % p * dt (tp (mulC f v p c M) N) cs) := by
    intro cs hcs
    have h1 := ga_scale p f (mulC f v p c M) N c v hc (fun i hi hic => by funext j; unfold mulC; rw [if_neg (fun x => hic x.1)]) cs (fun l hl => by
      unfold mulC; rw [if_pos ⟨rfl, hcs l hl⟩, Int.mul_comm v]; exact cq_emod p _)
    refine cq_trans (h.dets cs hcs) ?_
    have h2 : cq p (d * f c c % p * dt (tp (mulC f v p c M) N) cs) (d * f c c * (v * dt (tp f N) cs)) := cq_mul (cq_emod p _) h1
    have e : d * f c c * (v * dt (tp f N) cs) = (v * f c c) * (d * dt (tp f N) cs) := by
      rw [Int.mul_comm d (f c c), Int.mul_comm v (f c c), Int.mul_assoc (f c c) d, Int.mul_assoc (f c c) v, Int.mul_left_comm d v]
    rw [e] at h2
    have h3 : cq p ((v * f c c) * (d * dt (tp f N) cs)) (1 * (d * dt (tp f N) cs)) := cq_mul (by rw [cq_iff, hv, Int.emod_eq_of_lt (by omega) (by omega)]) (cq_refl p _)
    rw [Int.one_mul] at h3
    exact cq_symm (cq_trans h2 h3)
  refine ⟨?_, hr1⟩
  have hel : ∀ i, i ≤ N → ∀ cs : List Nat, (∀ l, l ∈ cs → l < M) → cq p (dt (tp (elC (mulC f v p c M) p c M i 0) N) cs) (dt (tp (mulC f v p c M) N) cs) := by
    intro i
    induction i with
    | zero => intro _ cs _; rw [elC_0]; exact cq_refl p _
    | succ i ih =>
      intro hi cs hcs
      refine cq_trans ?_ (ih (by omega) cs hcs)
      by_cases e : i = c
      · subst e
        rw [← elC_skip]; exact cq_refl p _
      · refine ga_add p _ _ N i c (-(mulC f v p c M i c)) (by omega) hc (fun x => e x.symm) (fun a ha hai => ?_) cs (fun l hl => ?_)
        · funext b
          unfold elC
          have : (a ≠ c ∧ b < M ∧ (a < i + 1 ∨ (a = i + 1 ∧ b < 0))) ↔ (a ≠ c ∧ b < M ∧ (a < i ∨ (a = i ∧ b < 0))) := by omega
          simp only [this]
        · rw [elC_row, elC_c]
          unfold elC
          rw [if_pos ⟨e, hcs l hl, .inl (by omega)⟩]
          have e3 : ∀ x y z : Int, x + -y * z = x - y * z := fun x y z => by rw [Int.neg_mul]; omega
          rw [e3]; exact cq_emod p _
  refine ⟨fun i l hi hl => ?_, fun cs hcs => cq_trans (hd1 cs hcs) (cq_mul (cq_refl p _) (cq_symm (hel N (Nat.le_refl _) cs hcs))), fun i j hi hj => ?_, ⟨Int.emod_nonneg _ (by omega), Int.emod_lt_of_pos _ (by omega)⟩⟩
  · unfold elC
    by_cases e : i = c
    · subst e
      rw [if_neg (fun x => x.1 rfl)]
      by_cases e2 : l = i
      · subst e2; rw [hcc, if_pos rfl]
      · rw [hlow i l hi (by omega)]
    · rw [if_pos ⟨e, by omega, .inl hi⟩]
      by_cases e2 : l = c
      · subst e2
        rw [hcc, if_neg e, Int.mul_one, Int.sub_self]; simp
      · rw [hlow i l hi (by omega), hlow c l hc (by omega), if_neg (show ¬ c = l by omega), Int.mul_zero, Int.sub_zero]
        split
        · exact Int.emod_eq_of_lt (by omega) (by omega)
        · simp
  · unfold elC
    split
    · exact ⟨Int.emod_nonneg _ (by omega), Int.emod_lt_of_pos _ (by omega)⟩
    · exact hr1 i j hi hj
theorem gi_none {p : Int} {A f : Nat → Nat → Int} {N M c : Nat} {d : Int} (h : GaI p A f N M c d) (hc : c < N) (hNM : N ≤ M) (hz : ∀ i, c ≤ i → i < N → f i c = 0) : dt (tp A N) (List.range N) % p = 0 := by
  have h1 := h.dets (List.range N) (fun l hl => by have : l < N := by simpa using hl
                                                   omega)
  rw [ga_none f N c hc h.unit hz, Int.mul_zero] at h1
  rw [cq_iff] at h1; rw [h1]; simp
theorem gi_end {p : Int} {A f : Nat → Nat → Int} {N M : Nat} {d : Int} (h : GaI p A f N M N d) (hNM : N ≤ M) : d = dt (tp A N) (List.range N) % p := by
  have h1 := h.dets (List.range N) (fun l hl => by have : l < N := by simpa using hl
                                                   omega)
  rw [dt_unit f N N (Nat.le_refl _) h.unit, Int.mul_one, cq_iff] at h1
  rw [h1, Int.emod_eq_of_lt h.drg.1 h.drg.2]
theorem gi_cramer {p : Int} {A f : Nat → Nat → Int} {N M : Nat} {d : Int} (h : GaI p A f N M N d) (hNM : N ≤ M) (e z : Nat) (he : e < N) (hz : N ≤ z) (hzM : z < M) : cq p (dt (tp A N) ((List.range N).map (fun c => if c = e then z else c))) (d * f e z) := by
  have h1 := h.dets ((List.range N).map (fun c => if c = e then z else c)) (fun l hl => by
    obtain ⟨c, hc, rfl⟩ := List.mem_map.1 hl
    have : c < N := by simpa using hc
    split <;> omega)
  rw [dt_cramer f N e z he hz h.unit] at h1
  exact h1
end Go.Proofs.Ytnblhkhdilkbeaa
