/- Parts of graphs: labels by merging, and by rounds of taking the lesser one: they are the same. -/
import Derived.Test.YtgcidkcedfliiaaBase
set_option linter.unusedSimpArgs false
set_option linter.unusedVariables false
namespace Go.Proofs.Ytgcidkcedfliiaa

def lab (L : List Nat) (v : Nat) : Nat := L.getD v 0
def mergeN (L : List Nat) (e : Nat × Nat) : List Nat := L.map (fun z => if z = max (lab L e.1) (lab L e.2) then min (lab L e.1) (lab L e.2) else z)
def relaxN (F : List Nat) (e : Nat × Nat) : List Nat := (F.set e.1 (min (lab F e.1) (lab F e.2))).set e.2 (min (lab F e.1) (lab F e.2))
def labelsN (s : Nat) (es : List (Nat × Nat)) : List Nat := es.foldl mergeN (List.range s)
def roundN (es : List (Nat × Nat)) (F : List Nat) : List Nat := es.foldl relaxN F
def roundsN (es : List (Nat × Nat)) : Nat → List Nat → List Nat
  | 0, F => F
  | r + 1, F => roundN es (roundsN es r F)

theorem lab_map {L : List Nat} {f : Nat → Nat} {v : Nat} (h : v < L.length) : lab (L.map f) v = f (lab L v) := by simp [lab, List.getD, List.getElem?_eq_getElem h]
theorem lab_set {L : List Nat} {a v m : Nat} (h : a < L.length) : lab (L.set a m) v = if v = a then m else lab L v := by
  unfold lab
  by_cases e : v = a
  · subst e; simp [List.getD, h]
  · rw [if_neg e]; simp [List.getD, List.getElem?_set, Ne.symm e]
theorem lab_range {s v : Nat} (h : v < s) : lab (List.range s) v = v := by simp [lab, List.getD, h]

/-- the labels L of s vertices, where the edges P have been merged -/
structure LabI (s : Nat) (P : List (Nat × Nat)) (L : List Nat) : Prop where
  len : L.length = s
  inb : ∀ e, e ∈ P → e.1 < s ∧ e.2 < s
  le : ∀ v, v < s → lab L v ≤ v
  idem : ∀ v, v < s → lab L (lab L v) = lab L v
  edge : ∀ e, e ∈ P → lab L e.1 = lab L e.2
  close : ∀ C : Nat → Prop, (∀ e, e ∈ P → (C e.1 ↔ C e.2)) → ∀ v, v < s → (C v ↔ C (lab L v))

theorem LabI.start (s : Nat) : LabI s [] (List.range s) :=
  ⟨by simp, fun e he => by simp at he, fun v hv => by rw [lab_range hv]; exact Nat.le_refl _, fun v hv => by rw [lab_range hv, lab_range hv], fun e he => by simp at he, fun C _ v hv => by rw [lab_range hv]⟩

theorem LabI.step {s : Nat} {P : List (Nat × Nat)} {L : List Nat} (h : LabI s P L) {e : Nat × Nat} (h1 : e.1 < s) (h2 : e.2 < s) : LabI s (P ++ [e]) (mergeN L e) := by
  have hl := h.len
  have hx := h.idem e.1 h1
  have hy := h.idem e.2 h2
  have hxl := h.le e.1 h1
  have hyl := h.le e.2 h2
  have key : ∀ v, v < s → lab (mergeN L e) v = if lab L v = max (lab L e.1) (lab L e.2) then min (lab L e.1) (lab L e.2) else lab L v := fun v hv => lab_map (by omega)
  have hlo : lab L (min (lab L e.1) (lab L e.2)) = min (lab L e.1) (lab L e.2) := by
    rcases Nat.le_total (lab L e.1) (lab L e.2) with q | q
    · rw [Nat.min_eq_left q]; exact hx
    · rw [Nat.min_eq_right q]; exact hy
  have hlos : min (lab L e.1) (lab L e.2) < s := by omega
  refine ⟨by simp [mergeN, hl], fun f hf => ?_, fun v hv => ?_, fun v hv => ?_, fun f hf => ?_, fun C hC v hv => ?_⟩
  · rw [List.mem_append] at hf
    rcases hf with hf | hf
    · exact h.inb f hf
    · simp at hf; subst hf; exact ⟨h1, h2⟩
  · have := h.le v hv
    rw [key v hv]; split <;> omega
  · have hv1 := h.le v hv
    rw [key v hv]
    split
    · rw [key _ hlos, hlo]; split <;> omega
    · rename_i hne
      rw [key _ (by omega), h.idem v hv, if_neg hne]
  · rw [List.mem_append] at hf
    rcases hf with hf | hf
    · obtain ⟨i1, i2⟩ := h.inb f hf
      rw [key _ i1, key _ i2, h.edge f hf]
    · simp at hf
      subst hf
      rw [key _ h1, key _ h2]
      split <;> split <;> omega
  · have hP : ∀ f, f ∈ P → (C f.1 ↔ C f.2) := fun f hf => hC f (by simp [hf])
    have he : C e.1 ↔ C e.2 := hC e (by simp)
    have c1 := h.close C hP e.1 h1
    have c2 := h.close C hP e.2 h2
    have cv := h.close C hP v hv
    have hml : C (max (lab L e.1) (lab L e.2)) ↔ C (min (lab L e.1) (lab L e.2)) := by
      rcases Nat.le_total (lab L e.1) (lab L e.2) with q | q
      · rw [Nat.max_eq_right q, Nat.min_eq_left q]; exact c2.symm.trans (he.symm.trans c1)
      · rw [Nat.max_eq_left q, Nat.min_eq_right q]; exact c1.symm.trans (he.trans c2)
    rw [key v hv]
    split
    · rename_i hq
      rw [cv, hq]; exact hml
    · exact cv

theorem LabI.fold {s : Nat} : ∀ (es P : List (Nat × Nat)) (L : List Nat), LabI s P L → (∀ e ∈ es, e.1 < s ∧ e.2 < s) → LabI s (P ++ es) (es.foldl mergeN L)
  | [], P, L, h, _ => by simpa using h
  | e :: r, P, L, h, hb => by
    have hb1 := hb e (by simp)
    have := LabI.fold r (P ++ [e]) (mergeN L e) (h.step hb1.1 hb1.2) (fun f hf => hb f (by simp [hf]))
    simpa using this
theorem labelsI {s : Nat} {es : List (Nat × Nat)} (hb : ∀ e ∈ es, e.1 < s ∧ e.2 < s) : LabI s es (labelsN s es) := by
  have := LabI.fold es [] _ (LabI.start s) hb
  simpa [labelsN] using this

/-- numbers on their way down to the labels -/
structure DownI (s : Nat) (L F : List Nat) : Prop where
  len : F.length = s
  le : ∀ v, v < s → lab F v ≤ v
  same : ∀ v, v < s → lab L (lab F v) = lab L v
theorem DownI.ge {s : Nat} {P : List (Nat × Nat)} {L F : List Nat} (hL : LabI s P L) (h : DownI s L F) {v : Nat} (hv : v < s) : lab L v ≤ lab F v := by
  have h1 := h.le v hv
  have h2 := hL.le (lab F v) (by omega)
  rw [h.same v hv] at h2; exact h2

theorem lab_relax {F : List Nat} {e : Nat × Nat} {v s : Nat} (hl : F.length = s) (h1 : e.1 < s) (h2 : e.2 < s) : lab (relaxN F e) v = if v = e.2 ∨ v = e.1 then min (lab F e.1) (lab F e.2) else lab F v := by
  unfold relaxN
  rw [lab_set (by rw [List.length_set]; omega), lab_set (by omega)]
  by_cases q : v = e.2
  · rw [if_pos q, if_pos (.inl q)]
  · rw [if_neg q]
    by_cases q2 : v = e.1
    · rw [if_pos q2, if_pos (.inr q2)]
    · rw [if_neg q2, if_neg (by omega)]

theorem DownI.relax {s : Nat} {P : List (Nat × Nat)} {L F : List Nat} (hL : LabI s P L) (h : DownI s L F) {e : Nat × Nat} (he : e ∈ P) : DownI s L (relaxN F e) ∧ ∀ v, v < s → lab (relaxN F e) v ≤ lab F v := by
  obtain ⟨h1, h2⟩ := hL.inb e he
  have hed := hL.edge e he
  have s1 := h.same e.1 h1
  have s2 := h.same e.2 h2
  have l1 := h.le e.1 h1
  have l2 := h.le e.2 h2
  have hm : lab L (min (lab F e.1) (lab F e.2)) = lab L e.1 := by
    rcases Nat.le_total (lab F e.1) (lab F e.2) with q | q
    · rw [Nat.min_eq_left q]; exact s1
    · rw [Nat.min_eq_right q, s2, hed]
  refine ⟨⟨by simp [relaxN, h.len], fun v hv => ?_, fun v hv => ?_⟩, fun v hv => ?_⟩
  · rw [lab_relax h.len h1 h2]
    have := h.le v hv
    split
    · rename_i q
      rcases q with rfl | rfl <;> omega
    · exact this
  · rw [lab_relax h.len h1 h2]
    split
    · rename_i q
      rcases q with rfl | rfl
      · rw [hm, hed]
      · exact hm
    · exact h.same v hv
  · rw [lab_relax h.len h1 h2]
    split
    · rename_i q
      rcases q with rfl | rfl <;> omega
    · exact Nat.le_refl _

theorem DownI.round {s : Nat} {P : List (Nat × Nat)} {L : List Nat} (hL : LabI s P L) : ∀ (es : List (Nat × Nat)) (F : List Nat), (∀ e ∈ es, e ∈ P) → DownI s L F →
    DownI s L (roundN es F) ∧ (∀ v, v < s → lab (roundN es F) v ≤ lab F v) ∧ ∀ e ∈ es, (lab F e.1 = lab L e.1 ∨ lab F e.2 = lab L e.2) → lab (roundN es F) e.1 = lab L e.1 ∧ lab (roundN es F) e.2 = lab L e.2
  | [], F, _, h => ⟨h, fun v _ => Nat.le_refl _, fun e he => by simp at he⟩
  | e :: r, F, hm, h => by
    have he := hm e (by simp)
    obtain ⟨g1, g2⟩ := h.relax hL he
    obtain ⟨i1, i2, i3⟩ := DownI.round hL r (relaxN F e) (fun f hf => hm f (by simp [hf])) g1
    have e0 : roundN (e :: r) F = roundN r (relaxN F e) := rfl
    rw [e0]
    refine ⟨i1, fun v hv => Nat.le_trans (i2 v hv) (g2 v hv), fun f hf hq => ?_⟩
    obtain ⟨b1, b2⟩ := hL.inb f (hm f hf)
    have keep : ∀ v, v < s → lab (relaxN F e) v = lab L v → lab (roundN r (relaxN F e)) v = lab L v := fun v hv hq => by
      have q1 := i2 v hv
      have q2 := i1.ge hL hv
      omega
    rw [List.mem_cons] at hf
    rcases hf with rfl | hf
    · have hr : ∀ v, v = f.2 ∨ v = f.1 → lab (relaxN F f) v = min (lab F f.1) (lab F f.2) := fun v hv => by rw [lab_relax h.len b1 b2, if_pos hv]
      have a1 := h.ge hL b1
      have a2 := h.ge hL b2
      have hed := hL.edge f he
      exact ⟨keep _ b1 (by rw [hr _ (.inr rfl)]; omega), keep _ b2 (by rw [hr _ (.inl rfl)]; omega)⟩
    · have a1 := g2 f.1 b1
      have a2 := g2 f.2 b2
      have c1 := g1.ge hL b1
      have c2 := g1.ge hL b2
      exact i3 f hf (hq.imp (fun q => by omega) (fun q => by omega))

theorem count_lt {s : Nat} {p q : Nat → Bool} (h : ∀ v, v < s → p v = true → q v = true) (hx : ∃ v, v < s ∧ p v = false ∧ q v = true) : (List.range s).countP p < (List.range s).countP q := by
  induction s with
  | zero => obtain ⟨v, hv, _⟩ := hx; omega
  | succ s ih =>
    rw [List.range_succ, List.countP_append, List.countP_append]
    have hm : (List.range s).countP p ≤ (List.range s).countP q := List.countP_mono_left (fun v hv hp => h v (by have := List.mem_range.1 hv; omega) hp)
    have hs : ([s].countP p) ≤ ([s].countP q) := List.countP_mono_left (fun v hv hp => h v (by simp at hv; omega) hp)
    obtain ⟨v, hv, h1, h2⟩ := hx
    by_cases e : v = s
    · subst e
      have e1 : [v].countP p = 0 := by simp [h1]
      have e2 : [v].countP q = 1 := by simp [h2]
      omega
    · have := ih (fun v hv hp => h v (by omega) hp) ⟨v, by omega, h1, h2⟩
      omega

theorem rounds_down {s : Nat} {es : List (Nat × Nat)} {L F : List Nat} (hL : LabI s es L) (h : DownI s L F) : ∀ r, DownI s L (roundsN es r F)
  | 0 => h
  | r + 1 => (DownI.round hL es _ (fun e he => he) (rounds_down hL h r)).1

/-- of each root as many as rounds, and one, have come down, if not all -/
theorem rounds_count {s : Nat} {es : List (Nat × Nat)} {L F : List Nat} (hL : LabI s es L) (h : DownI s L F) {m : Nat} (hm : m < s) (hr : lab L m = m) : ∀ r, (∀ v, v < s → lab L v = m → lab (roundsN es r F) v = m) ∨ r + 1 ≤ (List.range s).countP (fun v => lab (roundsN es r F) v == m)
  | 0 => by
    right
    have h1 := h.le m hm
    have h2 := h.ge hL hm
    have h3 : lab (roundsN es 0 F) m = m := by show lab F m = m; omega
    refine List.countP_pos_iff.2 ⟨m, List.mem_range.2 hm, by simp [h3]⟩
  | r + 1 => by
    have hd := rounds_down hL h r
    obtain ⟨i1, i2, i3⟩ := DownI.round hL es _ (fun e he => he) hd
    have keep : ∀ v, v < s → lab (roundsN es r F) v = m → lab (roundsN es (r+1) F) v = m := fun v hv hq => by
      have q1 : lab (roundsN es (r+1) F) v ≤ _ := i2 v hv
      have q2 := i1.ge hL hv
      have q3 := hd.same v hv
      rw [hq, hr] at q3
      have q4 : lab (roundsN es (r+1) F) v = lab (roundN es (roundsN es r F)) v := rfl
      omega
    rcases rounds_count hL h hm hr r with ih | ih
    · left; exact fun v hv hq => keep v hv (ih v hv hq)
    · by_cases hc : ∀ e ∈ es, (lab (roundsN es r F) e.1 = m ↔ lab (roundsN es r F) e.2 = m)
      · left
        intro v hv hq
        have hcl := (hL.close (fun v => lab (roundsN es r F) v = m) hc v hv)
        rw [hq] at hcl
        refine keep v hv (hcl.2 ?_)
        have h1 := hd.le m hm
        have h2 := hd.ge hL hm
        omega
      · right
        have : ∃ e, e ∈ es ∧ ¬ (lab (roundsN es r F) e.1 = m ↔ lab (roundsN es r F) e.2 = m) := Classical.byContradiction fun hn => hc (fun e he => Classical.byContradiction fun hn2 => hn ⟨e, he, hn2⟩)
        obtain ⟨e, he, hne⟩ := this
        obtain ⟨b1, b2⟩ := hL.inb e he
        have hed := hL.edge e he
        have s1 := hd.same e.1 b1
        have s2 := hd.same e.2 b2
        have hlt : (List.range s).countP (fun v => lab (roundsN es r F) v == m) < (List.range s).countP (fun v => lab (roundsN es (r+1) F) v == m) := by
          refine count_lt (fun v hv hp => ?_) ?_
          · simp only [beq_iff_eq] at hp ⊢; exact keep v hv hp
          · by_cases q1 : lab (roundsN es r F) e.1 = m
            · have q2 : ¬ lab (roundsN es r F) e.2 = m := fun q2 => hne ⟨fun _ => q2, fun _ => q1⟩
              rw [q1, hr] at s1
              have := i3 e he (.inl (by rw [q1]; exact s1))
              refine ⟨e.2, b2, by simpa using q2, ?_⟩
              have q4 : lab (roundsN es (r+1) F) e.2 = lab (roundN es (roundsN es r F)) e.2 := rfl
              simp only [beq_iff_eq]; omega
            · have q2 : lab (roundsN es r F) e.2 = m := Classical.byContradiction fun q2 => hne ⟨fun q => absurd q q1, fun q => absurd q q2⟩
              rw [q2, hr] at s2
              have := i3 e he (.inr (by rw [q2]; exact s2))
              refine ⟨e.1, b1, by simpa using q1, ?_⟩
              have q4 : lab (roundsN es (r+1) F) e.1 = lab (roundN es (roundsN es r F)) e.1 := rfl
              simp only [beq_iff_eq]; omega
        omega

theorem DownI.start {s : Nat} {P : List (Nat × Nat)} {L : List Nat} (hL : LabI s P L) : DownI s L (List.range s) :=
  ⟨by simp, fun v hv => by rw [lab_range hv]; exact Nat.le_refl _, fun v hv => by rw [lab_range hv]⟩

theorem rounds_labels {s : Nat} {es : List (Nat × Nat)} (hb : ∀ e ∈ es, e.1 < s ∧ e.2 < s) : roundsN es s (List.range s) = labelsN s es := by
  have hL := labelsI hb
  have hd := rounds_down hL (DownI.start hL) s
  apply List.ext_getElem
  · rw [hd.len, hL.len]
  · intro v h1 h2
    rw [hd.len] at h1
    have e1 : (roundsN es s (List.range s))[v]'(by rw [hd.len]; exact h1) = lab (roundsN es s (List.range s)) v := by simp [lab, List.getD, List.getElem?_eq_getElem (show v < (roundsN es s (List.range s)).length by rw [hd.len]; exact h1)]
    have e2 : (labelsN s es)[v] = lab (labelsN s es) v := by simp [lab, List.getD, List.getElem?_eq_getElem h2]
    rw [e1, e2]
    have hlv := hL.le v h1
    have hroot := hL.idem v h1
    rcases rounds_count hL (DownI.start hL) (m := lab (labelsN s es) v) (by omega) hroot s with q | q
    · exact q v h1 rfl
    · have := List.countP_le_length (p := fun w => lab (roundsN es s (List.range s)) w == lab (labelsN s es) v) (l := List.range s)
      rw [List.length_range] at this
      omega

end Go.Proofs.Ytgcidkcedfliiaa
