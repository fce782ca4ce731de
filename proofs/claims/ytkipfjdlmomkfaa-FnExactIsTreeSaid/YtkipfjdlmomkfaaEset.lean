/- Sets of edges: edgeSetOf. -/
import Derived.Test.YtkipfjdlmomkfaaUf
import Derived.Deep.RegionHeld3
import Derived.Lib.Builder
import Derived.StillTailTactics
set_option linter.unusedSimpArgs false
set_option linter.unusedVariables false
set_option maxRecDepth 100000
namespace Go.Proofs.Ytkipfjdlmomkfaa
open Go.RowKit

theorem Try.info103 : (Try.prog.info? 103).map (fun i => (i.zero, i.size, i.bytes)) = some (some (.agg #[.pointer none]), 1, 8) := by kernel_rfl

theorem Try.underlying101 : Try.prog.underlying 101 = some (.pointer 103) := by kernel_rfl
theorem ptr_same (a : Addr) (w : World) : Sem.run Try.prog (binOp BinOp.neq 101 (.pointer (some a)) (.pointer (some a))) w = .ok (.bool false) w := by
  obtain ⟨i0, hi', z0, z1, z2⟩ := info_parts Try.info103
  exact Lib.run_neq_ptr_same w a Try.underlying101 hi'
theorem ptr_other {w : World} {b S i j : Nat} {up : Nat → Option Nat} (h : UfB w b S up) (hne : i ≠ j) : Sem.run Try.prog (binOp BinOp.neq 101 (.pointer (some ⟨b, i, none⟩)) (.pointer (some ⟨b, j, none⟩))) w = .ok (.bool true) w := by
  obtain ⟨i0, hi', z0, z1, z2⟩ := info_parts Try.info103
  obtain ⟨ca, ta, hb⟩ := h.blk
  have hsz : i0.size ≠ 0 := by rw [z1]; decide
  have hab : (⟨b, i, none⟩ : Addr) ≠ ⟨b, j, none⟩ := by simp [hne]
  have h' : ∀ d : Nat, (Op.equalIn (d + 1) 101 (.pointer (some ⟨b, i, none⟩)) (.pointer (some ⟨b, j, none⟩))).run Try.prog w = .ok false w := fun d => by
    simp [Op.equalIn, run_underlying Try.underlying101, sizeOf, typeInfo, hi', hsz, run_sameAddr_other w hab hb hb]
  simp only [binOp]
  simp [Op.equal, Op.maxDepth, h' 9999]

theorem makeN (n : Nat) (hn : n ≤ 1000) : ∃ Ob : Obj, ∀ w : World, (Instr.makeSlice 72 (.int .i64 (n : Int)) (.int .i64 (n : Int))).run Try.prog w = .ok (.slice (some ⟨w.heap.size, 0, none⟩) n n) (w.alloc Ob) ∧
    UfB (w.alloc Ob) w.heap.size n (fun _ => none) := by
  obtain ⟨i0, hi', z0, z1, z2⟩ := info_parts Try.info103
  refine ⟨.cells (madeCells (Value.agg #[.pointer none]).cells (n * i0.size)) 103, fun w => ?_⟩
  have h1 := run_make (P := Try.prog) w 72 103 i0 (.agg #[.pointer none]) Try.underlying72 hi' z0 .i64 .i64 (n : Int) (n : Int) (by omega) (Int.le_refl _) (by rw [z2]; omega) (by omega)
  rw [Int.toNat_natCast] at h1
  refine ⟨h1, ?_⟩
  obtain ⟨w', h2, h3, _⟩ := run_make_full (P := Try.prog) w w.heap.size 72 103 i0 (.agg #[.pointer none]) 1 Try.underlying72 hi' z0 z1 .i64 .i64 n (by rw [z2]; omega) (by unfold maxLen; omega) (Nat.le_refl _)
  rw [h1] at h2
  simp only [Result.ok.injEq, true_and] at h2
  rw [h2]
  rw [Nat.mul_one] at h3
  have hce : (Value.agg #[.pointer none]).cells = #[.pointer none] := by rfl
  rw [hce, toList_madeCells_one] at h3
  have hblk : ∃ ca ta, w'.heap[w.heap.size]? = some (.cells ca ta (0, 0)) := by
    rcases h3.2 with ⟨hv, _⟩ | ⟨g, cp, cur, hv, _, hg, _⟩
    · simp at hv
    · simp only [Value.slice.injEq, Option.some.injEq, Addr.mk.injEq] at hv
      obtain ⟨⟨rfl, _⟩, _⟩ := hv
      exact ⟨cur, _, hg⟩
  refine ⟨by rw [← h2]; simp, fun i hi => ?_, fun i hi => h3.frozenAt i, hblk⟩
  rw [h3.cellAt i (by omega)]
  simp [nodeV, hi]

theorem UfB.below {w w' : World} {b S : Nat} {up : Nat → Option Nat} (h : UfB w b S up) (hb : Below w.heap.size w w') : UfB w' b S up := h.chg (hb.chg 0 0) (.inr (Nat.zero_le _))
theorem UfB.put {w : World} {b S r1 r2 : Nat} {up : Nat → Option Nat} (h : UfB w b S up) (h2 : r2 < S) : UfB (w.setCell ⟨b, r2, none⟩ (.pointer (some ⟨b, r1, none⟩))) b S (fun i => if i = r2 then some r1 else up i) := by
  have hblk : ∃ ca ta, (w.setCell ⟨b, r2, none⟩ (.pointer (some ⟨b, r1, none⟩))).heap[b]? = some (.cells ca ta (0, 0)) := by
    obtain ⟨ca, ta, hb⟩ := h.blk
    exact ⟨ca.setIfInBounds r2 (.pointer (some ⟨b, r1, none⟩)), ta, by simp [World.setCell, Array.getElem?_modify, hb]⟩
  refine ⟨by simpa [World.setCell] using h.lt, fun i hi => ?_, fun i hi => by rw [World.frozen?_setCell]; exact h.free i hi, hblk⟩
  by_cases e : i = r2
  · subst e
    rw [if_pos rfl, World.cell?_setCell_same _ _ _ (h.cell i hi)]
    rfl
  · rw [if_neg e, World.cell?_setCell_other _ _ _ _ (by simp <;> omega)]
    exact h.cell i hi
/-- a block of three cells -/
structure Box3 (w : World) (x : Nat) (v0 v1 v2 : Value) : Prop where
  lt : x < w.heap.size
  c0 : w.cell? ⟨x, 0, none⟩ = some v0
  c1 : w.cell? ⟨x, 1, none⟩ = some v1
  c2 : w.cell? ⟨x, 2, none⟩ = some v2
  f0 : w.frozen? ⟨x, 0, none⟩ = false
  f1 : w.frozen? ⟨x, 1, none⟩ = false
  f2 : w.frozen? ⟨x, 2, none⟩ = false
theorem Box3.chg {w w' : World} {x lo hi : Nat} {v0 v1 v2 : Value} (h : Box3 w x v0 v1 v2) (hc : Chg lo hi w w') (hb : x < lo ∨ hi ≤ x) : Box3 w' x v0 v1 v2 :=
  ⟨Nat.lt_of_lt_of_le h.lt hc.size, hc.cell h.c0 hb, hc.cell h.c1 hb, hc.cell h.c2 hb, hc.frozen h.lt hb h.f0, hc.frozen h.lt hb h.f1, hc.frozen h.lt hb h.f2⟩
theorem Box3.below {w w' : World} {x : Nat} {v0 v1 v2 : Value} (h : Box3 w x v0 v1 v2) (hb : Below w.heap.size w w') : Box3 w' x v0 v1 v2 := h.chg (hb.chg 0 0) (.inr (Nat.zero_le _))
theorem nodeRootQ {b S : Nat} {up : Nat → Option Nat} {rt dp : Nat → Nat} {L : List Nat} (hu : UfI S up rt dp L) (W : World) (h : UfB W b S up) (i : Nat) (hi : i < S) (w : World) (hq : Qt W w) :
    Calls Try.prog 99 #[.pointer (some ⟨b, i, none⟩)] w fun e w' => e = .returned (.pointer (some ⟨b, rt i, none⟩)) ∧ Qt w w' := nodeRoot hu w (h.below hq.below) i hi

theorem RdI.cellsD {lo hi : Nat} {w : World} {a : Option Addr} {n c : Nat} {xs : List Int} (h : RdI lo hi w (.slice a n c) xs) (hn : xs.length = n) : ∀ j, j < n → ∃ b off, a = some ⟨b, off, none⟩ ∧ w.cell? ⟨b, off + j, none⟩ = some (.int .i64 (xs.getD j 0)) := by
  intro j hj
  obtain ⟨_, _, ⟨a', c', rfl, _⟩ | ⟨b, off, c', hv, _, _, _, hc⟩⟩ := h
  · simp at hn; omega
  · simp only [Value.slice.injEq] at hv
    obtain ⟨rfl, _, _⟩ := hv
    exact ⟨b, off, rfl, hc j (by omega)⟩
theorem Box3.put3 {w : World} {x : Nat} {v0 v1 v2 : Value} (h : Box3 w x v0 v1 v2) (u0 u1 u2 : Value) : Box3 (((w.setCell ⟨x, 0, none⟩ u0).setCell ⟨x, 1, none⟩ u1).setCell ⟨x, 2, none⟩ u2) x u0 u1 u2 := by
  obtain ⟨lt, c0, c1, c2, f0, f1, f2⟩ := h
  have e0 : (w.setCell ⟨x, 0, none⟩ u0).cell? ⟨x, 1, none⟩ = some v1 := by rw [World.cell?_setCell_other _ _ _ _ (by simp)]; exact c1
  have e1 : ((w.setCell ⟨x, 0, none⟩ u0).setCell ⟨x, 1, none⟩ u1).cell? ⟨x, 2, none⟩ = some v2 := by rw [World.cell?_setCell_other _ _ _ _ (by simp), World.cell?_setCell_other _ _ _ _ (by simp)]; exact c2
  refine ⟨by simpa [World.setCell] using lt, ?_, ?_, World.cell?_setCell_same _ _ _ e1, ?_, ?_, ?_⟩
  · rw [World.cell?_setCell_other _ _ _ _ (by simp), World.cell?_setCell_other _ _ _ _ (by simp)]; exact World.cell?_setCell_same _ _ _ c0
  · rw [World.cell?_setCell_other _ _ _ _ (by simp)]; exact World.cell?_setCell_same _ _ _ e0
  all_goals (rw [World.frozen?_setCell, World.frozen?_setCell, World.frozen?_setCell]; assumption)
theorem chg3 (w : World) (b : Nat) (v0 v1 v2 : Value) : Chg b (b+1) w (((w.setCell ⟨b, 0, none⟩ v0).setCell ⟨b, 1, none⟩ v1).setCell ⟨b, 2, none⟩ v2) := by
  repeat (refine Chg.setCell ?_ (by constructor <;> simp) _)
  exact Chg.refl _ _ _

/-- what the loop over a subset keeps -/
structure EsI (S : Nat) (a : Option Addr) (n c : Nat) (a1 : Option Addr) (n1 c1 B0 b x y : Nat) (w : World) (up : Nat → Option Nat) (P : Int) (W : World) : Prop where
  nodes : UfB W b S up
  box : Box3 W x (.slice a1 n1 c1) (.slice (some ⟨b, 0, none⟩) S S) (.int .i64 P)
  out : Box3 W y (.slice none 0 0) (.slice none 0 0) (.int .i64 0)
  k1 : W.cell? ⟨B0, 1, none⟩ = some (.slice a n c)
  below : Below B0 w W
  ne : b ≠ x
  by0 : B0 < y
  yb : y < b
  yx : y < x
theorem EsI.next {S : Nat} {a : Option Addr} {n c : Nat} {a1 : Option Addr} {n1 c1 B0 b x y : Nat} {w : World} {up : Nat → Option Nat} {P : Int} {W W' : World} (h : EsI S a n c a1 n1 c1 B0 b x y w up P W) (hb : Below W.heap.size W W') : EsI S a n c a1 n1 c1 B0 b x y w up P W' := by
  have h1 := h.by0
  have h2 := h.out.lt
  exact ⟨h.nodes.below hb, h.box.below hb, h.out.below hb, hb.keep h.k1, h.below.trans (hb.mono (by omega)), h.ne, h.by0, h.yb, h.yx⟩
theorem EsI.node {S : Nat} {a : Option Addr} {n c : Nat} {a1 : Option Addr} {n1 c1 B0 b x y : Nat} {w : World} {up : Nat → Option Nat} {P : Int} {W : World} (h : EsI S a n c a1 n1 c1 B0 b x y w up P W) {r1 r2 : Nat} (h2 : r2 < S) : EsI S a n c a1 n1 c1 B0 b x y w (fun i => if i = r2 then some r1 else up i) P (W.setCell ⟨b, r2, none⟩ (.pointer (some ⟨b, r1, none⟩))) := by
  have e1 := h.by0
  have e2 := h.yb
  have e3 := h.yx
  have e4 := h.ne
  have hc : Chg b (b + 1) W (W.setCell ⟨b, r2, none⟩ (.pointer (some ⟨b, r1, none⟩))) := (Chg.refl b (b + 1) W).setCell (p := ⟨b, r2, none⟩) ⟨Nat.le_refl _, Nat.lt_succ_self _⟩ _
  exact ⟨h.nodes.put h2, h.box.chg hc (by omega), h.out.chg hc (by omega), hc.cell h.k1 (.inl (by show B0 < b; omega)), h.below.setCell (p := ⟨b, r2, none⟩) (by show B0 ≤ b; omega) _, h.ne, h.by0, h.yb, h.yx⟩
theorem Box3.put2 {w : World} {x : Nat} {v0 v1 v2 : Value} (h : Box3 w x v0 v1 v2) (v : Value) : Box3 (w.setCell ⟨x, 2, none⟩ v) x v0 v1 v := by
  obtain ⟨lt, c0, c1, c2, f0, f1, f2⟩ := h
  exact ⟨by simpa [World.setCell] using lt, by rw [World.cell?_setCell_other _ _ _ _ (by simp)]; exact c0, by rw [World.cell?_setCell_other _ _ _ _ (by simp)]; exact c1, World.cell?_setCell_same _ _ _ c2, by rw [World.frozen?_setCell]; exact f0, by rw [World.frozen?_setCell]; exact f1, by rw [World.frozen?_setCell]; exact f2⟩
theorem EsI.parts {S : Nat} {a : Option Addr} {n c : Nat} {a1 : Option Addr} {n1 c1 B0 b x y : Nat} {w : World} {up : Nat → Option Nat} {P : Int} {W : World} (h : EsI S a n c a1 n1 c1 B0 b x y w up P W) (P' : Int) : EsI S a n c a1 n1 c1 B0 b x y w up P' (W.setCell ⟨x, 2, none⟩ (.int .i64 P')) := by
  have e1 := h.by0
  have e2 := h.yb
  have e3 := h.yx
  have e4 := h.ne
  have hc : Chg x (x + 1) W (W.setCell ⟨x, 2, none⟩ (.int .i64 P')) := (Chg.refl x (x + 1) W).setCell (p := ⟨x, 2, none⟩) ⟨Nat.le_refl _, Nat.lt_succ_self _⟩ _
  exact ⟨h.nodes.chg hc (by omega), h.box.put2 _, h.out.chg hc (by omega), hc.cell h.k1 (.inl (by show B0 < x; omega)), h.below.setCell (p := ⟨x, 2, none⟩) (by show B0 ≤ x; omega) _, h.ne, h.by0, h.yb, h.yx⟩

/-- the edges of a subset, by their ends -/
def subE (xss : List (List Int)) (ws : List Int) : List (Nat × Nat) := ws.map (fun k => (nE xss).getD k.toNat (0, 0))
theorem subE_len (xss : List (List Int)) (ws : List Int) : (subE xss ws).length = ws.length := by simp [subE]
theorem labels_step {S : Nat} {es : List (Nat × Nat)} {k : Nat} (hk : k < es.length) : labelsN S (es.take (k + 1)) = mergeN (labelsN S (es.take k)) (es.getD k (0, 0)) := fold_snoc mergeN es (List.range S) k (0, 0) hk
theorem labels_I {S : Nat} {es : List (Nat × Nat)} (h : ∀ j, j < es.length → (es.getD j (0, 0)).1 < S ∧ (es.getD j (0, 0)).2 < S) (k : Nat) : LabI S (es.take k) (labelsN S (es.take k)) := by
  refine labelsI fun e he => ?_
  obtain ⟨j, hj, rfl⟩ := List.getElem_of_mem (List.mem_of_mem_take he)
  have := h j hj
  simpa [List.getD, List.getElem?_eq_getElem hj] using this

theorem roots_start (S : Nat) : (rootsN (labelsN S []) S).length = S := by
  have : rootsN (labelsN S []) S = List.range S := by
    unfold rootsN labelsN
    rw [List.filter_eq_self]
    intro v hv
    rw [List.foldl_nil, lab_range (by simpa using hv)]
    simp
  rw [this, List.length_range]

set_option maxHeartbeats 6400000 in
theorem edgeSetOf {lo hi lo1 hi1 : Nat} (S : Nat) (a : Option Addr) (n c : Nat) (xss : List (List Int)) (a1 : Option Addr) (n1 c1 : Nat) (ws : List Int) (w : World) (h : RdR lo hi w (.slice a n c) xss) (hn : xss.length = n) (hg : grB (S : Int) xss = true) (h1 : RdI lo1 hi1 w (.slice a1 n1 c1) ws) (hl : ws.length = n1) (hw : ∀ j, j < n1 → 0 ≤ ws.getD j 0 ∧ ws.getD j 0 < (n : Int)) :
    Calls Try.prog 63 #[.agg #[.int .i64 (S : Int), .slice a n c], .slice a1 n1 c1] w fun e w' => ∃ (b : Nat) (up : Nat → Option Nat) (rt dp : Nat → Nat), e = .returned (.agg #[.slice a1 n1 c1, .slice (some ⟨b, 0, none⟩) S S, .int .i64 ((rootsN (labelsN S (subE xss ws)) S).length : Int)]) ∧ UfB w' b S up ∧ UfI S up rt dp (labelsN S (subE xss ws)) ∧ w.heap.size ≤ b ∧ Below w.heap.size w w' := by
  have hg4 := grB_iff hg
  have hS8 : S ≤ 8 := by omega
  have hlen1 := h1.1
  rw [hl] at hlen1
  have HE := Lib.hid (show ∀ j, j < n1 → ∃ q A B : Nat, ws.getD j 0 = (q : Int) ∧ q < n ∧ (xss.getD q []).length = 2 ∧ (xss.getD q []).getD 0 0 = (A : Int) ∧ (xss.getD q []).getD 1 0 = (B : Int) ∧ A < S ∧ B < S ∧ (subE xss ws).getD j (0, 0) = (A, B) from fun j hj => by
    obtain ⟨h0, h1⟩ := hw j hj
    have h4 := hg4.2.2.2 (ws.getD j 0).toNat (by omega)
    refine ⟨(ws.getD j 0).toNat, ((xss.getD (ws.getD j 0).toNat []).getD 0 0).toNat, ((xss.getD (ws.getD j 0).toNat []).getD 1 0).toNat, by omega, by omega, h4.1, by omega, by omega, by omega, by omega, ?_⟩
    have e1 : (subE xss ws).getD j (0, 0) = (nE xss).getD (ws.getD j 0).toNat (0, 0) := by
      unfold subE
      simp [List.getD, List.getElem?_eq_getElem (show j < ws.length by omega)]
    have e2 := nE_get hg (k := (ws.getD j 0).toNat) (by omega)
    rw [pairs_getD] at e2
    rw [e1]
    exact Prod.ext e2.1 e2.2)
  have hsl : (subE xss ws).length = n1 := by rw [subE_len, hl]
  generalize subE xss ws = es at HE hsl ⊢
  have HLI := Lib.hid (labels_I (S := S) (es := es) (fun j hj => by
    obtain ⟨q, A, B, _, _, _, _, _, hA, hB, he⟩ := HE.out j (by omega)
    rw [he]; exact ⟨hA, hB⟩))
  have HSL := Lib.hid hsl
  have HTA := Lib.hid (show es.take n1 = es from List.take_of_length_le (by omega))
  have HN := Lib.hid hn
  have HL1 := Lib.hid hl
  have HR := Lib.hid h
  have HR1 := Lib.hid h1
  have hb0 : ∀ o o', Below w.heap.size w ((w.alloc o).alloc o') := fun o o' => ((Below.refl _ _).alloc (Nat.le_refl _) o).alloc (by simp) o'
  obtain ⟨Ob, hOb⟩ := makeN S (by omega)
  have hmk := fun W => (hOb W).1
  have HO := Lib.hid hOb
  clear hOb h h1 hn hl hg hg4 hw hsl
  have hA := hb0 (.cells #[.int .i64 (S : Int), .slice a n c] 28) (.cells #[.slice none 0 0, .slice none 0 0, .int .i64 0] 74)
  have k0 : ((w.alloc (.cells #[.int .i64 (S : Int), .slice a n c] 28)).alloc (.cells #[.slice none 0 0, .slice none 0 0, .int .i64 0] 74)).cell? ⟨w.heap.size, 0, none⟩ = some (.int .i64 (S : Int)) := by go_simp
  have k1 : ((w.alloc (.cells #[.int .i64 (S : Int), .slice a n c] 28)).alloc (.cells #[.slice none 0 0, .slice none 0 0, .int .i64 0] 74)).cell? ⟨w.heap.size, 1, none⟩ = some (.slice a n c) := by go_simp
  have hy : Box3 ((w.alloc (.cells #[.int .i64 (S : Int), .slice a n c] 28)).alloc (.cells #[.slice none 0 0, .slice none 0 0, .int .i64 0] 74)) (w.heap.size + 1) (.slice none 0 0) (.slice none 0 0) (.int .i64 0) := ⟨by simp, by go_simp, by go_simp, by go_simp, by go_simp, by go_simp, by go_simp⟩
  go_enter Try.func63, Try.ntmps63
  go_wp2_with fail
  generalize (w.alloc (.cells #[.int .i64 (S : Int), .slice a n c] 28)).alloc (.cells #[.slice none 0 0, .slice none 0 0, .int .i64 0] 74) = V at hA k0 k1 hy ⊢
  obtain ⟨y, hyw⟩ : ∃ y, y = w.heap.size + 1 := ⟨_, rfl⟩
  rw [← hyw] at hy ⊢
  have HY := Lib.hid (⟨hy, show w.heap.size < y by omega⟩ : _ ∧ _)
  clear hyw hy
  have kd0 := (Qt.refl V).drew.cell k0
  have kd1 := (Qt.refl V).drew.cell k1
  have hbA := (Below.refl V.heap.size V).alloc (Nat.le_refl _) Ob
  have ka0 := hbA.keep k0
  have ka1 := hbA.keep k1
  have ke0 := (Qt.refl (V.alloc Ob)).drew.cell ka0
  have ke1 := (Qt.refl (V.alloc Ob)).drew.cell ka1
  have hbB := hbA.alloc (by simp) (.cells #[.slice none 0 0, .slice none 0 0, .int .i64 0] 74)
  have hbC := (Below.refl V.heap.size V).alloc (Nat.le_refl _) (.cells #[.slice none 0 0, .slice none 0 0, .int .i64 0] 74)
  have hbD := hbC.alloc (by simp) Ob
  have kb0 := (Qt.refl _).drew.cell (hbB.keep k0)
  have kb1 := (Qt.refl _).drew.cell (hbB.keep k1)
  have kc0 := (Qt.refl _).drew.cell (hbC.keep k0)
  have kc1 := (Qt.refl _).drew.cell (hbC.keep k1)
  have kg0 := (Qt.refl _).drew.cell (hbD.keep k0)
  have kg1 := (Qt.refl _).drew.cell (hbD.keep k1)
  have HB4 := Lib.hid (⟨hA, k0, k1⟩ : _ ∧ _ ∧ _)
  clear hA hbA hbB hbC hbD
  go_region_held3 (fun W' => W'.cell? ⟨w.heap.size, 0, none⟩ = some (.int .i64 (S : Int)) ∧ W'.cell? ⟨w.heap.size, 1, none⟩ = some (.slice a n c))
    (first | (with_reducible exact ⟨k0, k1⟩) | (with_reducible exact ⟨kd0, kd1⟩) | (with_reducible exact ⟨ka0, ka1⟩) | (with_reducible exact ⟨ke0, ke1⟩) | (with_reducible exact ⟨kb0, kb1⟩) | (with_reducible exact ⟨kc0, kc1⟩) | (with_reducible exact ⟨kg0, kg1⟩) | (with_reducible exact ⟨(Qt.refl _).drew.cell (Below.keep (((Below.refl V.heap.size V).alloc (Nat.le_refl _) _).alloc (by simp) _) k0), (Qt.refl _).drew.cell (Below.keep (((Below.refl V.heap.size V).alloc (Nat.le_refl _) _).alloc (by simp) _) k1)⟩) | (trace_state; fail))
    (fail)
  all_goals clear kd0 kd1 ka0 ka1 ke0 ke1 kb0 kb1 kc0 kc1 kg0 kg1 hb0
  · have hE0 : EsI S a n c a1 n1 c1 w.heap.size (V.heap.size) (V.heap.size + 1) y w (fun _ => none) (S : Int) (((V.alloc (Ob)).alloc (.cells #[.slice a1 n1 c1, .slice (some ⟨V.heap.size, 0, none⟩) S S, .int .i64 (S : Int)] 74)).drew) := by
      obtain ⟨hA, _, k1⟩ := HB4.out
      obtain ⟨hy, hwy⟩ := HY.out
      have hyl := hy.lt
      have hbl := (((Below.refl V.heap.size V).alloc (Nat.le_refl _) (Ob)).alloc (by simp) (.cells #[.slice a1 n1 c1, .slice (some ⟨V.heap.size, 0, none⟩) S S, .int .i64 (S : Int)] 74)).qt (Qt.refl _).drew
      refine ⟨(((HO.out V).2.below ((Below.refl _ _).alloc (Nat.le_refl _) _)).below (Qt.refl _).drew.below), ⟨by simp, by go_simp, by go_simp, by go_simp, by go_simp, by go_simp, by go_simp⟩, hy.below hbl, hbl.keep k1, hA.next hbl, by omega, hwy, by omega, by omega⟩
    have HE0 := Lib.hid hE0
    obtain ⟨x, hx⟩ : ∃ x, x = V.heap.size + 1 := ⟨_, rfl⟩
    rw [← hx] at HE0 ⊢
    clear hE0 HO HB4 HY hmk k0 k1 hx
    obtain ⟨b, hb⟩ : ∃ b, b = V.heap.size := ⟨_, rfl⟩
    rw [← hb] at HE0 ⊢
    clear hb
    generalize ((V.alloc _).alloc _).drew = W0 at HE0 ⊢
    go_wp2_with fail
    go_loopw [19] (fun i wr => ∃ (k : Nat) (up : Nat → Option Nat) (rt dp : Nat → Nat), k ≤ n1 ∧ i = .int .i64 k ∧ EsI S a n c a1 n1 c1 w.heap.size b x y w up ((rootsN (labelsN S (es.take k)) S).length : Int) wr ∧ UfI S up rt dp (labelsN S (es.take k))) (fun i _ => n1 - (intOf i).toNat)
    case atStart => exact ⟨0, _, _, _, Nat.zero_le _, rfl, by rw [List.take_zero, roots_start]; exact HE0.out, by rw [List.take_zero]; exact UfI.start S⟩
    case round =>
      clear HE0
      obtain ⟨k, up, rt, dp, hk, rfl, hE, hU⟩ := hrel
      by_cases hlt : k < n1
      · obtain ⟨q, A, B, e1, e2, e3, e4, e5, hA, hB, e6⟩ := HE.out k hlt
        obtain ⟨sb, so, rfl, g1⟩ := (HR1.out.below hE.below).cellsD HL1.out k hlt
        rw [e1] at g1
        obtain ⟨rb, ro, rv, rfl, r0, rrd⟩ := (HR.out.below hE.below).at HN.out q e2
        obtain ⟨eb, eo, ec, rfl, d0, d1⟩ := rrd.two e3
        rw [e4] at d0
        rw [e5] at d1
        have x1 := hE.box.c1
        have k1 := hE.k1
        have hst := labels_step (S := S) (es := es) (k := k) (by rw [HSL.out]; exact hlt)
        have hli := HLI.out k
        rw [e6] at hst
        have HW := Lib.hid (⟨hE, hU, hst, hli⟩ : _ ∧ _ ∧ _ ∧ _)
        have hq0 : (0 : Int) ≤ (q : Int) := by omega
        have hq1 : (q : Int) < (n : Int) := by omega
        have hA0 : (0 : Int) ≤ (A : Int) := by omega
        have hA1 : (A : Int) < (S : Int) := by omega
        have hB0 : (0 : Int) ≤ (B : Int) := by omega
        have hB1 : (B : Int) < (S : Int) := by omega
        clear e1 e3 e4 e5 e6 rrd hE hU hst hli
        go_wp2_with fail
        go_quiet ((go_at_call 99; exact Calls.quiet_of (nodeRootQ HW.out.2.1 wr HW.out.1.nodes A hA _ ⟨_, rfl⟩)))
        obtain ⟨nq1, hnq1⟩ : ∃ N1, N1 = nq := ⟨_, rfl⟩
        rw [← hnq1]
        clear hnq1
        have hqd : Qt wr (wr.drewN nq1) := (Qt.refl wr).drewN nq1
        replace x1 := hqd.cell x1
        replace k1 := hqd.cell k1
        replace r0 := hqd.cell r0
        replace d1 := hqd.cell d1
        have HW2 := Lib.hid (HW.out.1.next hqd.below)
        clear g1 d0 hqd
        generalize wr.drewN nq1 = U at HW2 x1 k1 r0 d1 ⊢
        go_wp2_with fail
        go_quiet ((go_at_call 99; exact Calls.quiet_of (nodeRootQ HW.out.2.1 U HW2.out.nodes B hB _ ⟨_, rfl⟩)))
        have HW3 := Lib.hid (HW2.out.next ((Qt.refl U).drewN nq).below)
        clear x1 k1 r0 d1 HW2
        generalize U.drewN nq = Y at HW3 ⊢
        obtain ⟨_, hU, hst, hli⟩ := HW.out
        obtain ⟨hra, _⟩ := hU.root A hA
        obtain ⟨hrb, _⟩ := hU.root B hB
        have hsm := hU.same A B hA hB
        by_cases hr : rt A = rt B
        · have hL : labelsN S (es.take (k + 1)) = labelsN S (es.take k) := by rw [hst]; exact merge_same (hsm.1 hr)
          have HF := Lib.hid (⟨HW3.out, hU⟩ : _ ∧ _)
          rw [← hL] at HF
          rw [← hr]
          have hcmp := ptr_same ⟨b, rt A, none⟩ Y
          clear hL hU hst hli hra hrb hsm HW HW3 hr
          go_wp2
          go_roundw
          case rel => exact ⟨k+1, up, rt, dp, by omega, by go_num, HF.out⟩
          case measure => simp [intOf]; omega
        · have hne : lab (labelsN S (es.take k)) A ≠ lab (labelsN S (es.take k)) B := fun e => hr (hsm.2 e)
          have hrt := roots_merge hli (e := (A, B)) hA hB hne
          rw [← hst] at hrt
          have hj := hU.join hli.len (e := (A, B)) hA hB hr
          rw [← hst] at hj
          dsimp only at hj
          have hcmp := ptr_other HW3.out.nodes hr
          have n0 := HW3.out.nodes.cell (rt B) hrb
          have n1' := HW3.out.nodes.free (rt B) hrb
          have hE2 := HW3.out.node (r1 := rt A) (r2 := rt B) hrb
          have hPb := rootsN_le (labelsN S (es.take k)) S
          generalize (rootsN (labelsN S (es.take k)) S).length = P at *
          generalize hP' : (rootsN (labelsN S (es.take (k + 1))) S).length = P' at *
          have p2 := hE2.box.c2
          have p2f := hE2.box.f2
          have hE3 := hE2.parts (P' : Int)
          have hpp : (P : Int) - 1 = (P' : Int) := by omega
          have HF := Lib.hid (⟨hE3, hj⟩ : _ ∧ _)
          have HPZ := Lib.hid (show ((rootsN (labelsN S (es.take (k + 1))) S).length : Int) = (P' : Int) by rw [hP'])
          have t1 : IntKind.i64.wrap ((P : Int) - 1) = (P' : Int) := by rw [hpp]; exact IntWalk.i64_in _ (by omega)
          have t2 : wrap64 ((P : Int) - 1) = (P' : Int) := by rw [hpp]; exact IntWalk.wrap64_in _ (by clear t1; omega)
          clear hne hrt hj hE2 hE3 hpp hU hst hli hra hrb hsm HW HW3 hP'
          go_wp2
          go_roundw
          case rel => exact ⟨k+1, _, _, _, by omega, by go_num, by rw [HPZ.out]; exact HF.out.1, HF.out.2⟩
          case measure => simp [intOf]; omega
      · obtain rfl : k = n1 := by omega
        rw [HTA.out] at hE hU
        obtain ⟨hN, ⟨_, x0, x1, x2, _, _, _⟩, hY, _, hB, hne, hb0, hyb, hyx⟩ := hE
        have hch := chg3 wr y (.slice a1 k c1) (.slice (some ⟨b, 0, none⟩) S S) (.int .i64 ((rootsN (labelsN S es) S).length : Int))
        have hY2 := hY.put3 (.slice a1 k c1) (.slice (some ⟨b, 0, none⟩) S S) (.int .i64 ((rootsN (labelsN S es) S).length : Int))
        have y0 := hY.c0
        have y1 := hY.c1
        have y2 := hY.c2
        have g0 := hY.f0
        have g1 := hY.f1
        have g2 := hY.f2
        have hyl := hY.lt
        have HF := Lib.hid (⟨hN.chg hch (by omega), hU, hB.chgn hch (by omega) (by omega), hY2⟩ : _ ∧ _ ∧ _ ∧ _)
        have hwb : w.heap.size ≤ b := by omega
        clear hN hU hB hch hY2 hY
        go_wp2
        obtain ⟨q1, q2, q3, q4⟩ := HF.out
        obtain ⟨_, s0, s1, s2, _, _, _⟩ := q4
        refine bodyPost_ret (v := .agg #[.slice a1 k c1, .slice (some ⟨b, 0, none⟩) S S, .int .i64 ((rootsN (labelsN S es) S).length : Int)]) (by simp [results, Try.results63, go_sem, s0, s1, s2]) rfl ⟨b, up, rt, dp, rfl, q1, q2, hwb, q3⟩
  · have hE0 : EsI S a n c a1 n1 c1 w.heap.size (V.heap.size + 1) (V.heap.size) y w (fun _ => none) (S : Int) (((V.alloc (.cells #[.slice a1 n1 c1, .slice (some ⟨V.heap.size + 1, 0, none⟩) S S, .int .i64 (S : Int)] 74)).alloc (Ob)).drew) := by
      obtain ⟨hA, _, k1⟩ := HB4.out
      obtain ⟨hy, hwy⟩ := HY.out
      have hyl := hy.lt
      have hbl := (((Below.refl V.heap.size V).alloc (Nat.le_refl _) (.cells #[.slice a1 n1 c1, .slice (some ⟨V.heap.size + 1, 0, none⟩) S S, .int .i64 (S : Int)] 74)).alloc (by simp) (Ob)).qt (Qt.refl _).drew
      refine ⟨((by have h := (HO.out (V.alloc (.cells #[.slice a1 n1 c1, .slice (some ⟨V.heap.size + 1, 0, none⟩) S S, .int .i64 (S : Int)] 74))).2; simpa using h : UfB ((V.alloc (.cells #[.slice a1 n1 c1, .slice (some ⟨V.heap.size + 1, 0, none⟩) S S, .int .i64 (S : Int)] 74)).alloc Ob) (V.heap.size + 1) S (fun _ => none)).below (Qt.refl _).drew.below), (Box3.below (Box3.below (⟨by simp, by go_simp, by go_simp, by go_simp, by go_simp, by go_simp, by go_simp⟩ : Box3 (V.alloc (.cells #[.slice a1 n1 c1, .slice (some ⟨V.heap.size + 1, 0, none⟩) S S, .int .i64 (S : Int)] 74)) V.heap.size (.slice a1 n1 c1) (.slice (some ⟨V.heap.size + 1, 0, none⟩) S S) (.int .i64 (S : Int))) ((Below.refl _ _).alloc (Nat.le_refl _) Ob)) (Qt.refl _).drew.below), hy.below hbl, hbl.keep k1, hA.next hbl, by omega, hwy, by omega, by omega⟩
    have HE0 := Lib.hid hE0
    obtain ⟨b, hb⟩ : ∃ b, b = V.heap.size + 1 := ⟨_, rfl⟩
    rw [← hb] at HE0 ⊢
    clear hE0 HO HB4 HY hmk k0 k1 hb
    obtain ⟨x, hx⟩ : ∃ x, x = V.heap.size := ⟨_, rfl⟩
    rw [← hx] at HE0 ⊢
    clear hx
    generalize ((V.alloc _).alloc _).drew = W0 at HE0 ⊢
    go_wp2_with fail
    go_loopw [19] (fun i wr => ∃ (k : Nat) (up : Nat → Option Nat) (rt dp : Nat → Nat), k ≤ n1 ∧ i = .int .i64 k ∧ EsI S a n c a1 n1 c1 w.heap.size b x y w up ((rootsN (labelsN S (es.take k)) S).length : Int) wr ∧ UfI S up rt dp (labelsN S (es.take k))) (fun i _ => n1 - (intOf i).toNat)
    case atStart => exact ⟨0, _, _, _, Nat.zero_le _, rfl, by rw [List.take_zero, roots_start]; exact HE0.out, by rw [List.take_zero]; exact UfI.start S⟩
    case round =>
      clear HE0
      obtain ⟨k, up, rt, dp, hk, rfl, hE, hU⟩ := hrel
      by_cases hlt : k < n1
      · obtain ⟨q, A, B, e1, e2, e3, e4, e5, hA, hB, e6⟩ := HE.out k hlt
        obtain ⟨sb, so, rfl, g1⟩ := (HR1.out.below hE.below).cellsD HL1.out k hlt
        rw [e1] at g1
        obtain ⟨rb, ro, rv, rfl, r0, rrd⟩ := (HR.out.below hE.below).at HN.out q e2
        obtain ⟨eb, eo, ec, rfl, d0, d1⟩ := rrd.two e3
        rw [e4] at d0
        rw [e5] at d1
        have x1 := hE.box.c1
        have k1 := hE.k1
        have hst := labels_step (S := S) (es := es) (k := k) (by rw [HSL.out]; exact hlt)
        have hli := HLI.out k
        rw [e6] at hst
        have HW := Lib.hid (⟨hE, hU, hst, hli⟩ : _ ∧ _ ∧ _ ∧ _)
        have hq0 : (0 : Int) ≤ (q : Int) := by omega
        have hq1 : (q : Int) < (n : Int) := by omega
        have hA0 : (0 : Int) ≤ (A : Int) := by omega
        have hA1 : (A : Int) < (S : Int) := by omega
        have hB0 : (0 : Int) ≤ (B : Int) := by omega
        have hB1 : (B : Int) < (S : Int) := by omega
        clear e1 e3 e4 e5 e6 rrd hE hU hst hli
        go_wp2_with fail
        go_quiet ((go_at_call 99; exact Calls.quiet_of (nodeRootQ HW.out.2.1 wr HW.out.1.nodes A hA _ ⟨_, rfl⟩)))
        obtain ⟨nq1, hnq1⟩ : ∃ N1, N1 = nq := ⟨_, rfl⟩
        rw [← hnq1]
        clear hnq1
        have hqd : Qt wr (wr.drewN nq1) := (Qt.refl wr).drewN nq1
        replace x1 := hqd.cell x1
        replace k1 := hqd.cell k1
        replace r0 := hqd.cell r0
        replace d1 := hqd.cell d1
        have HW2 := Lib.hid (HW.out.1.next hqd.below)
        clear g1 d0 hqd
        generalize wr.drewN nq1 = U at HW2 x1 k1 r0 d1 ⊢
        go_wp2_with fail
        go_quiet ((go_at_call 99; exact Calls.quiet_of (nodeRootQ HW.out.2.1 U HW2.out.nodes B hB _ ⟨_, rfl⟩)))
        have HW3 := Lib.hid (HW2.out.next ((Qt.refl U).drewN nq).below)
        clear x1 k1 r0 d1 HW2
        generalize U.drewN nq = Y at HW3 ⊢
        obtain ⟨_, hU, hst, hli⟩ := HW.out
        obtain ⟨hra, _⟩ := hU.root A hA
        obtain ⟨hrb, _⟩ := hU.root B hB
        have hsm := hU.same A B hA hB
        by_cases hr : rt A = rt B
        · have hL : labelsN S (es.take (k + 1)) = labelsN S (es.take k) := by rw [hst]; exact merge_same (hsm.1 hr)
          have HF := Lib.hid (⟨HW3.out, hU⟩ : _ ∧ _)
          rw [← hL] at HF
          rw [← hr]
          have hcmp := ptr_same ⟨b, rt A, none⟩ Y
          clear hL hU hst hli hra hrb hsm HW HW3 hr
          go_wp2
          go_roundw
          case rel => exact ⟨k+1, up, rt, dp, by omega, by go_num, HF.out⟩
          case measure => simp [intOf]; omega
        · have hne : lab (labelsN S (es.take k)) A ≠ lab (labelsN S (es.take k)) B := fun e => hr (hsm.2 e)
          have hrt := roots_merge hli (e := (A, B)) hA hB hne
          rw [← hst] at hrt
          have hj := hU.join hli.len (e := (A, B)) hA hB hr
          rw [← hst] at hj
          dsimp only at hj
          have hcmp := ptr_other HW3.out.nodes hr
          have n0 := HW3.out.nodes.cell (rt B) hrb
          have n1' := HW3.out.nodes.free (rt B) hrb
          have hE2 := HW3.out.node (r1 := rt A) (r2 := rt B) hrb
          have hPb := rootsN_le (labelsN S (es.take k)) S
          generalize (rootsN (labelsN S (es.take k)) S).length = P at *
          generalize hP' : (rootsN (labelsN S (es.take (k + 1))) S).length = P' at *
          have p2 := hE2.box.c2
          have p2f := hE2.box.f2
          have hE3 := hE2.parts (P' : Int)
          have hpp : (P : Int) - 1 = (P' : Int) := by omega
          have HF := Lib.hid (⟨hE3, hj⟩ : _ ∧ _)
          have HPZ := Lib.hid (show ((rootsN (labelsN S (es.take (k + 1))) S).length : Int) = (P' : Int) by rw [hP'])
          have t1 : IntKind.i64.wrap ((P : Int) - 1) = (P' : Int) := by rw [hpp]; exact IntWalk.i64_in _ (by omega)
          have t2 : wrap64 ((P : Int) - 1) = (P' : Int) := by rw [hpp]; exact IntWalk.wrap64_in _ (by clear t1; omega)
          clear hne hrt hj hE2 hE3 hpp hU hst hli hra hrb hsm HW HW3 hP'
          go_wp2
          go_roundw
          case rel => exact ⟨k+1, _, _, _, by omega, by go_num, by rw [HPZ.out]; exact HF.out.1, HF.out.2⟩
          case measure => simp [intOf]; omega
      · obtain rfl : k = n1 := by omega
        rw [HTA.out] at hE hU
        obtain ⟨hN, ⟨_, x0, x1, x2, _, _, _⟩, hY, _, hB, hne, hb0, hyb, hyx⟩ := hE
        have hch := chg3 wr y (.slice a1 k c1) (.slice (some ⟨b, 0, none⟩) S S) (.int .i64 ((rootsN (labelsN S es) S).length : Int))
        have hY2 := hY.put3 (.slice a1 k c1) (.slice (some ⟨b, 0, none⟩) S S) (.int .i64 ((rootsN (labelsN S es) S).length : Int))
        have y0 := hY.c0
        have y1 := hY.c1
        have y2 := hY.c2
        have g0 := hY.f0
        have g1 := hY.f1
        have g2 := hY.f2
        have hyl := hY.lt
        have HF := Lib.hid (⟨hN.chg hch (by omega), hU, hB.chgn hch (by omega) (by omega), hY2⟩ : _ ∧ _ ∧ _ ∧ _)
        have hwb : w.heap.size ≤ b := by omega
        clear hN hU hB hch hY2 hY
        go_wp2
        obtain ⟨q1, q2, q3, q4⟩ := HF.out
        obtain ⟨_, s0, s1, s2, _, _, _⟩ := q4
        refine bodyPost_ret (v := .agg #[.slice a1 k c1, .slice (some ⟨b, 0, none⟩) S S, .int .i64 ((rootsN (labelsN S es) S).length : Int)]) (by simp [results, Try.results63, go_sem, s0, s1, s2]) rfl ⟨b, up, rt, dp, rfl, q1, q2, hwb, q3⟩

end Go.Proofs.Ytkipfjdlmomkfaa
