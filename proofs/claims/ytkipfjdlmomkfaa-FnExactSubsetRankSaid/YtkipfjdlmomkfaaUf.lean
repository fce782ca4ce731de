/- Parts by nodes with pointers: plain mathematics, and the way up. -/
import Derived.Test.YtkipfjdlmomkfaaPartsEq
set_option linter.unusedSimpArgs false
set_option linter.unusedVariables false
set_option maxRecDepth 100000
namespace Go.Proofs.Ytkipfjdlmomkfaa
open Go.RowKit

theorem filter_drop (p : Nat → Bool) (x : Nat) : ∀ n, ((List.range n).filter (fun v => p v && !(v == x))).length + (if x < n ∧ p x = true then 1 else 0) = ((List.range n).filter p).length
  | 0 => by simp
  | n + 1 => by
    have ih := filter_drop p x n
    rw [List.range_succ, List.filter_append, List.filter_append, List.length_append, List.length_append]
    by_cases hx : n = x
    · subst hx
      have h0 : ¬ (n < n ∧ p n = true) := by omega
      rw [if_neg h0] at ih
      cases hp : p n <;> simp [hp] <;> omega
    · have h1 : (n == x) = false := by simpa using hx
      have h2 : (x < n + 1 ∧ p x = true) ↔ (x < n ∧ p x = true) := ⟨fun h => ⟨by omega, h.2⟩, fun h => ⟨by omega, h.2⟩⟩
      simp only [h2]
      cases hp : p n
      · rw [show [n].filter p = [] by simp [hp], show [n].filter (fun v => p v && !(v == x)) = [] by simp [hp]]
        simpa only [List.length_nil, Nat.add_zero] using ih
      · rw [show [n].filter p = [n] by simp [hp], show [n].filter (fun v => p v && !(v == x)) = [n] by simp [hp, h1]]
        simp only [List.length_singleton]
        omega
theorem merge_same {L : List Nat} {e : Nat × Nat} (h : lab L e.1 = lab L e.2) : mergeN L e = L := by
  unfold mergeN
  rw [h, Nat.max_self, Nat.min_self]
  conv => rhs; rw [← List.map_id L]
  refine List.map_congr_left fun z _ => ?_
  split
  · rename_i hz; rw [hz]; rfl
  · rfl
theorem lab_merge {L : List Nat} {e : Nat × Nat} {v : Nat} (hv : v < L.length) : lab (mergeN L e) v = if lab L v = max (lab L e.1) (lab L e.2) then min (lab L e.1) (lab L e.2) else lab L v := lab_map hv
theorem roots_merge {s : Nat} {P : List (Nat × Nat)} {L : List Nat} (h : LabI s P L) {e : Nat × Nat} (h1 : e.1 < s) (h2 : e.2 < s) (hne : lab L e.1 ≠ lab L e.2) : (rootsN (mergeN L e) s).length + 1 = (rootsN L s).length := by
  have i1 := h.idem e.1 h1
  have i2 := h.idem e.2 h2
  have l1 := h.le e.1 h1
  have l2 := h.le e.2 h2
  obtain ⟨hi, ehi⟩ : ∃ hi, hi = max (lab L e.1) (lab L e.2) := ⟨_, rfl⟩
  obtain ⟨lo, elo⟩ : ∃ lo, lo = min (lab L e.1) (lab L e.2) := ⟨_, rfl⟩
  have hh : lab L hi = hi := by
    rw [ehi]
    rcases Nat.le_total (lab L e.1) (lab L e.2) with hle | hle
    · rw [Nat.max_eq_right hle]; exact i2
    · rw [Nat.max_eq_left hle]; exact i1
  have hl : lab L lo = lo := by
    rw [elo]
    rcases Nat.le_total (lab L e.1) (lab L e.2) with hle | hle
    · rw [Nat.min_eq_left hle]; exact i1
    · rw [Nat.min_eq_right hle]; exact i2
  have hlt : hi < s := by omega
  have hnl : lo ≠ hi := by omega
  have hf := filter_drop (fun v => lab L v == v) hi s
  rw [if_pos ⟨hlt, by simpa using hh⟩] at hf
  unfold rootsN
  rw [← hf]
  congr 2
  refine List.filter_congr fun v hv => ?_
  have hv' : v < L.length := by rw [h.len]; simpa using hv
  rw [lab_merge hv', ← ehi, ← elo]
  by_cases hvh : lab L v = hi
  · rw [if_pos hvh, hvh]
    have e1 : (lo == v) = false := by
      simp only [beq_eq_false_iff_ne, ne_eq]
      intro hc; subst hc; omega
    rw [e1]
    by_cases e2 : v = hi
    · subst e2; simp
    · have : (hi == v) = false := by simpa using fun h => e2 h.symm
      rw [this]; simp
  · rw [if_neg hvh]
    by_cases e2 : lab L v = v
    · have : (v == hi) = false := by simp; omega
      simp [e2, this]
    · have : (lab L v == v) = false := by simpa using e2
      rw [this]; simp

/-- the ways up and the labels tell the same parts -/
structure UfI (s : Nat) (up : Nat → Option Nat) (rt dp : Nat → Nat) (L : List Nat) : Prop where
  top : ∀ i, i < s → up i = none → rt i = i
  way : ∀ i j, i < s → up i = some j → j < s ∧ rt j = rt i ∧ dp j < dp i
  root : ∀ i, i < s → rt i < s ∧ up (rt i) = none
  same : ∀ i j, i < s → j < s → (rt i = rt j ↔ lab L i = lab L j)
theorem UfI.start (s : Nat) : UfI s (fun _ => none) (fun i => i) (fun _ => 0) (List.range s) :=
  ⟨fun _ _ _ => rfl, fun _ _ _ h => by simp at h, fun i hi => ⟨hi, rfl⟩, fun i j hi hj => by rw [lab_range hi, lab_range hj]⟩
theorem UfI.idem {s : Nat} {up : Nat → Option Nat} {rt dp : Nat → Nat} {L : List Nat} (h : UfI s up rt dp L) {i : Nat} (hi : i < s) : rt (rt i) = rt i := h.top _ (h.root i hi).1 (h.root i hi).2
theorem UfI.join {s : Nat} {up : Nat → Option Nat} {rt dp : Nat → Nat} {L : List Nat} (h : UfI s up rt dp L) (hl : L.length = s) {e : Nat × Nat} (h1 : e.1 < s) (h2 : e.2 < s) (hne : rt e.1 ≠ rt e.2) :
    UfI s (fun i => if i = rt e.2 then some (rt e.1) else up i) (fun i => if rt i = rt e.2 then rt e.1 else rt i) (fun i => if rt i = rt e.2 then dp i + dp (rt e.1) + 1 else dp i) (mergeN L e) := by
  have r1 := h.root e.1 h1
  have r2 := h.root e.2 h2
  have d1 := h.idem h1
  have d2 := h.idem h2
  refine ⟨fun i hi hu => ?_, fun i j hi hu => ?_, fun i hi => ?_, fun i j hi hj => ?_⟩
  · by_cases e0 : i = rt e.2
    · simp [e0] at hu
    · rw [if_neg e0] at hu
      have := h.top i hi hu
      rw [this, if_neg e0]
  · by_cases e0 : i = rt e.2
    · rw [if_pos e0] at hu
      simp only [Option.some.injEq] at hu
      subst e0
      subst hu
      rw [d1, d2]
      simp only [if_neg hne, if_true]
      exact ⟨r1.1, trivial, by omega⟩
    · rw [if_neg e0] at hu
      obtain ⟨a1, a2, a3⟩ := h.way i j hi hu
      rw [a2]
      refine ⟨a1, rfl, ?_⟩
      split <;> omega
  · have ri := h.root i hi
    split
    · first | exact ⟨r1.1, r1.2⟩ | exact ⟨r1.1, by rw [if_neg hne]; exact r1.2⟩
    · rename_i hc
      first | exact ⟨ri.1, ri.2⟩ | exact ⟨ri.1, by rw [if_neg hc]; exact ri.2⟩
  · have s1 := h.same i j hi hj
    have s2 := h.same i e.1 hi h1
    have s3 := h.same i e.2 hi h2
    have s4 := h.same j e.1 hj h1
    have s5 := h.same j e.2 hj h2
    have s6 := h.same e.1 e.2 h1 h2
    rw [lab_merge (by omega), lab_merge (by omega)]
    generalize lab L i = li at *
    generalize lab L j = lj at *
    generalize lab L e.1 = l1 at *
    generalize lab L e.2 = l2 at *
    generalize rt i = ri at *
    generalize rt j = rj at *
    generalize rt e.1 = t1 at *
    generalize rt e.2 = t2 at *
    have hll : l1 ≠ l2 := fun hc => hne (s6.2 hc)
    clear r1 r2 d1 d2 h
    repeat' split
    all_goals omega

/-- the nodes in memory -/
def nodeV (b : Nat) : Option Nat → Value
  | none => .pointer none
  | some j => .pointer (some ⟨b, j, none⟩)
structure UfB (w : World) (b S : Nat) (up : Nat → Option Nat) : Prop where
  lt : b < w.heap.size
  cell : ∀ i, i < S → w.cell? ⟨b, i, none⟩ = some (nodeV b (up i))
  free : ∀ i, i < S → w.frozen? ⟨b, i, none⟩ = false
  blk : ∃ ca ta, w.heap[b]? = some (.cells ca ta (0, 0))
theorem UfB.chg {w w' : World} {b S lo hi : Nat} {up : Nat → Option Nat} (h : UfB w b S up) (hc : Chg lo hi w w') (hb : b < lo ∨ hi ≤ b) : UfB w' b S up := by
  refine ⟨Nat.lt_of_lt_of_le h.lt hc.size, fun i hi' => hc.cell (h.cell i hi') hb, fun i hi' => hc.frozen h.lt hb (h.free i hi'), ?_⟩
  rw [hc.block b h.lt hb]
  exact h.blk
def ptrIx : Value → Nat
  | .pointer (some a) => a.off
  | _ => 0

set_option maxHeartbeats 1600000 in
theorem nodeRoot {b S : Nat} {up : Nat → Option Nat} {rt dp : Nat → Nat} {L : List Nat} (hu : UfI S up rt dp L) (w : World) (h : UfB w b S up) (i : Nat) (hi : i < S) :
    Calls Try.prog 99 #[.pointer (some ⟨b, i, none⟩)] w fun e w' => e = .returned (.pointer (some ⟨b, rt i, none⟩)) ∧ Qt w w' := by
  have HU := Lib.hid hu
  have HC := Lib.hid h.cell
  obtain ⟨R, hR⟩ : ∃ R, R = rt i := ⟨_, rfl⟩
  rw [← hR]
  have HR := Lib.hid hR.symm
  clear hu h hR
  go_enter Try.func99, Try.ntmps99
  go_wp2
  go_loopw [0] (fun v wr => ∃ k : Nat, k < S ∧ v = .pointer (some ⟨b, k, none⟩) ∧ rt k = R ∧ Qt w wr) (fun v _ => dp (ptrIx v))
  case atStart => exact ⟨i, hi, rfl, HR.out, Qt.refl _⟩
  case round =>
    obtain ⟨k, hk, rfl, hrt, hq⟩ := hrel
    have c0 := hq.cell (HC.out k hk)
    cases hup : up k with
    | none =>
      rw [hup] at c0
      have hkr : k = R := by rw [← hrt]; exact (HU.out.top k hk hup).symm
      have HKR := Lib.hid hkr
      clear hrt hup hkr
      unfold nodeV at c0
      go_wp2
      go_ret
      exact ⟨by rw [HKR.out]; rfl, hq⟩
    | some j =>
      rw [hup] at c0
      obtain ⟨a1, a2, a3⟩ := HU.out.way k j hk hup
      have HA := Lib.hid (⟨a1, by rw [a2]; exact hrt, a3⟩ : j < S ∧ rt j = R ∧ dp j < dp k)
      clear hrt hup a1 a2 a3
      unfold nodeV at c0
      go_wp2
      go_roundw
      case rel => exact ⟨j, HA.out.1, rfl, HA.out.2.1, hq⟩
      case measure => exact HA.out.2.2

end Go.Proofs.Ytkipfjdlmomkfaa
