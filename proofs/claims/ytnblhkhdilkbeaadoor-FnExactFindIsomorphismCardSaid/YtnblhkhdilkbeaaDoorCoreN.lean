/- Merged: GoP, GoR, GoE, GoF, GoI (the plain kit of these proofs). -/
import Derived.Test.YtnblhkhdilkbeaaDoorCoreM
import Derived.Test.YtnblhkhdilkbeaaDoorIsP
import Derived.Test.YtnblhkhdilkbeaaDoorCoreR
import Derived.Test.YtnblhkhdilkbeaaDoorRfo
import Derived.Test.YtnblhkhdilkbeaaDoorRtn
import Derived.Test.YtnblhkhdilkbeaaDoorApk
import Derived.Deep.RegionHeld3
set_option linter.unusedSimpArgs false
set_option linter.unusedVariables false
/- The program's search for isomorphisms: plain mathematics and what memory keeps. -/
set_option maxRecDepth 100000
namespace Go.Proofs.YtnblhkhdilkbeaaDoor
open Go Go.RowKit

def isoL (S : Nat) (f h : Nat → Nat → Int) : Nat → List Int → List (List Int)
  | 0, l => [l]
  | m + 1, l => (List.range S).flatMap (fun x => if fitB f h l x = true then isoL S f h m (l ++ [(x : Int)]) else [])
theorem cnG_sum {fit : Nat → Bool} {rec : Nat → Int × List Int} {S : Nat} {g : Nat → Nat} (hg : ∀ x, x < S → ((g x : Nat) : Int) = if fit x = true then (rec x).1 else 0) : ∀ (r : Nat) (c : Int) (f : List Int), r ≤ S → (cnG fit rec true S r c f).1 = c + (((List.range' (S - r) r).map g).sum : Nat)
  | 0, c, f, _ => by unfold cnG; simp
  | r + 1, c, f, hr => by
    have e1 : List.range' (S - (r + 1)) (r + 1) = (S - (r + 1)) :: List.range' (S - r) r := by
      rw [List.range'_succ, show S - (r + 1) + 1 = S - r by omega]
    have e2 := hg (S - (r + 1)) (by omega)
    rw [e1, List.map_cons, List.sum_cons]
    unfold cnG
    by_cases hf : fit (S - (r + 1)) = true
    · rw [if_pos hf, if_neg (fun e => by simp at e), cnG_sum hg r _ _ (by omega)]
      rw [if_pos hf] at e2
      push_cast
      omega
    · rw [if_neg hf, cnG_sum hg r _ _ (by omega)]
      rw [if_neg hf] at e2
      push_cast
      omega
theorem isoL_len (S : Nat) (f h : Nat → Nat → Int) : ∀ (m : Nat) (l : List Int), ((isoL S f h m l).length : Int) = (cntL S f h true m l).1
  | 0, l => by simp [isoL, cntL]
  | m + 1, l => by
    unfold cntL
    rw [cnG_sum (g := fun x => (if fitB f h l x = true then isoL S f h m (l ++ [(x : Int)]) else []).length) (fun x _ => by
      by_cases hf : fitB f h l x = true
      · simp only [if_pos hf]; exact isoL_len S f h m _
      · simp only [if_neg hf]; rfl) S 0 [] (Nat.le_refl _), Nat.sub_self, ← List.range_eq_range']
    rw [show isoL S f h (m + 1) l = (List.range S).flatMap (fun x => if fitB f h l x = true then isoL S f h m (l ++ [(x : Int)]) else []) from rfl, List.length_flatMap]
    simp
theorem fit_kl {f h : Nat → Nat → Int} {l : List Int} {n x : Nat} (hl : l.length = n) (hm : memB l x = false) : fitB f h l x = klB f h (fun j => ((l ++ [(x : Int)]).getD j 0).toNat) n := by
  subst hl
  have hA : (l ++ [(x : Int)]).getD l.length 0 = (x : Int) := by simp [List.getD, List.getElem?_append]
  have hB : ∀ i, i < l.length → (l ++ [(x : Int)]).getD i 0 = l.getD i 0 := fun i hi => by simp [List.getD, List.getElem?_append, hi]
  by_cases hall : ∀ v, v < l.length + 1 → f l.length v = h ((l ++ [(x : Int)]).getD l.length 0).toNat ((l ++ [(x : Int)]).getD v 0).toNat
  · rw [klB_yes hall]
    have h0 := hall l.length (by omega)
    rw [hA, Int.toNat_natCast] at h0
    refine fitB_yes h0 (fun i hi => ⟨fun e => ?_, ?_⟩)
    · rw [memB_yes hi e] at hm; cases hm
    · have h1 := hall i (by omega)
      rw [hA, hB i hi, Int.toNat_natCast] at h1
      exact h1
  · obtain ⟨v, hv⟩ := Classical.not_forall.1 hall
    obtain ⟨hv, hne⟩ := Classical.not_imp.1 hv
    rw [klB_no hv hne]
    by_cases e : v = l.length
    · subst e
      rw [hA, Int.toNat_natCast] at hne
      exact fitB_no1 hne
    · rw [hA, hB v (by omega), Int.toNat_natCast] at hne
      exact fitB_no2 (i := v) (by omega) (.inr hne)
theorem fit_mem {f h : Nat → Nat → Int} {l : List Int} {x : Nat} (hm : memB l x = true) : fitB f h l x = false := by
  obtain ⟨i, hi, e⟩ := List.any_eq_true.1 hm
  exact fitB_no2 (List.mem_range.1 hi) (.inl (by simpa using e))

/-- cells stay but for the block T and the one that is named -/
structure KeepX (T : Nat) (ow : Option Nat) (A B : World) : Prop where
  size : A.heap.size ≤ B.heap.size
  cells : ∀ k o, k ≠ T → ow ≠ some k → A.heap[k]? = some o → o.isCells = true → B.heap[k]? = some o
theorem KeepX.refl (T : Nat) (ow : Option Nat) (A : World) : KeepX T ow A A := ⟨Nat.le_refl _, fun _ _ _ _ h _ => h⟩
theorem KeepX.trans {T : Nat} {ow : Option Nat} {A B C : World} (h : KeepX T ow A B) (k : KeepX T ow B C) : KeepX T ow A C := ⟨Nat.le_trans h.size k.size, fun b o h1 h2 h3 h4 => k.cells b o h1 h2 (h.cells b o h1 h2 h3 h4) h4⟩
theorem KeepX.any {T : Nat} {ow : Option Nat} {A B : World} (h : KeepX T none A B) : KeepX T ow A B := ⟨h.size, fun b o h1 _ h3 h4 => h.cells b o h1 (by simp) h3 h4⟩
theorem KeepX.of_below {T : Nat} {ow : Option Nat} {A B : World} (h : Below A.heap.size A B) : KeepX T ow A B := ⟨h.size, fun b o _ _ h3 _ => (h.block b (Array.getElem?_eq_some_iff.1 h3).1).trans h3⟩
theorem KeepX.of_grown {T : Nat} {ow : Option Nat} {A B : World} (h : A.grownBy B ow) : KeepX T ow A B := by
  obtain ⟨_, _, _, hs, hb⟩ := h
  exact ⟨hs, fun b o _ h2 h3 _ => (hb b (Array.getElem?_eq_some_iff.1 h3).1 (fun e => h2 e.symm)).trans h3⟩
theorem KeepX.cell {T : Nat} {ow : Option Nat} {A B : World} (h : KeepX T ow A B) {p : Addr} {v : Value} (hc : A.cell? p = some v) (h1 : p.block ≠ T) (h2 : ow ≠ some p.block) : B.cell? p = some v := by
  have hlt := World.block_lt_of_cell? A p hc
  have hg : A.heap[p.block]? = some A.heap[p.block] := Array.getElem?_eq_getElem hlt
  have hi : (A.heap[p.block]).isCells = true := by
    cases hk : (A.heap[p.block]).isCells with
    | true => rfl
    | false => exact absurd rfl (cell_block hg hk hc)
  exact (World.cell?_of_block ((h.cells _ _ h1 h2 hg hi).trans hg.symm)).trans hc
theorem KeepX.owns {T : Nat} {ow : Option Nat} {A B : World} (h : KeepX T ow A B) {base e size n : Nat} {v : Value} {xs : List Value} (ho : A.ownsRow base e size v n xs) (h1 : ∀ k, v.ownBlock = some k → k ≠ T ∧ ow ≠ some k) : B.ownsRow base e size v n xs := by
  refine ⟨ho.1, ?_⟩
  rcases ho.2 with hn | ⟨g, cap, cur, rfl, hb, hgg, rest⟩
  · exact .inl hn
  · obtain ⟨e1, e2⟩ := h1 g rfl
    exact .inr ⟨g, cap, cur, rfl, hb, h.cells g _ e1 e2 hgg rfl, rest⟩
theorem yieldAt_wide {n n' : Nat} {P : Program} {l : Nat} {args : Array Value} {W : World} {R : Ending → World → Prop} (h : YieldAt Fence.wide n P l args W R) : YieldAt Fence.wide n' P l args W R := by
  obtain ⟨fn, tmps, assign, body, hy, hR⟩ := h
  exact ⟨fn, tmps, assign, body, hy, hR.1, fun c cs _ => hR.2 c cs (room_wide _)⟩

end Go.Proofs.YtnblhkhdilkbeaaDoor

/- The program's search for isomorphisms: goOn calls itself and yields. -/
set_option maxRecDepth 100000
namespace Go.Proofs.YtnblhkhdilkbeaaDoor
open Go Go.RowKit

/-- what a round of the range is told of its map: an address, a capacity, a list -/
def GdM (S B1 : Nat) (x : Nat × Nat × List Int) (W : World) : Prop := x.2.2.length = S ∧ B1 ≤ x.1 ∧ (∀ j, j < S → W.cell? ⟨x.1, j, none⟩ = some (.int .i64 (x.2.2.getD j 0))) ∧ W.ownsRow B1 2 1 (.slice (some ⟨x.1, 0, none⟩) S x.2.1) S (x.2.2.map (Value.int .i64))
theorem ownsRow_lo {w : World} {B B' e size n : Nat} {v : Value} {xs : List Value} (h : w.ownsRow B e size v n xs) (hB : B' ≤ B) : w.ownsRow B' e size v n xs :=
  ⟨h.1, h.2.imp id (fun ⟨g, cap, cur, e1, hb, r⟩ => ⟨g, cap, cur, e1, Nat.le_trans hB hb, r⟩)⟩
theorem ownsRow_put {V : World} {B e size n l : Nat} {v : Value} {xs : List Value} {o : Obj} (o' : Obj) (h1 : V.heap[l]? = some o) (h2 : o.isCells = false) (h : V.ownsRow B e size v n xs) : (V.putObj l o').ownsRow B e size v n xs := by
  refine ⟨h.1, ?_⟩
  rcases h.2 with hn | ⟨g, cap, cur, rfl, hb, hgg, rest⟩
  · exact .inl hn
  · refine .inr ⟨g, cap, cur, rfl, hb, ?_, rest⟩
    have hgl : g ≠ l := fun e9 => by subst e9; rw [h1] at hgg; cases hgg; cases h2
    exact (World.putObj_heap_other hgl).trans hgg
theorem GdM.put {S B1 : Nat} {x : Nat × Nat × List Int} {V : World} {l : Nat} {o : Obj} (o' : Obj) (h1 : V.heap[l]? = some o) (h2 : o.isCells = false) (h : GdM S B1 x V) : GdM S B1 x (V.putObj l o') :=
  ⟨h.1, h.2.1, fun j hj => cell_put o' h1 h2 (h.2.2.1 j hj), ownsRow_put o' h1 h2 h.2.2.2⟩
theorem GdM.lo {S B1 B2 : Nat} {x : Nat × Nat × List Int} {V : World} (h : GdM S B1 x V) (hB : B2 ≤ B1) : GdM S B2 x V := ⟨h.1, Nat.le_trans hB h.2.1, h.2.2.1, ownsRow_lo h.2.2.2 hB⟩
def encM (S : Nat) (x : Nat × Nat × List Int) : Array Value := #[.slice (some ⟨x.1, 0, none⟩) S x.2.1]
def EntB (S n : Nat) (l : List Int) : Prop := l.length = n ∧ ∀ i, i < n → 0 ≤ l.getD i 0 ∧ l.getD i 0 < (S : Int)
theorem EntB.snoc {S n x : Nat} {l : List Int} (h : EntB S n l) (hx : x < S) : EntB S (n + 1) (l ++ [(x : Int)]) := by
  refine ⟨by rw [List.length_append, h.1]; rfl, fun i hi => ?_⟩
  by_cases e : i < n
  · have e2 : (l ++ [(x : Int)]).getD i 0 = l.getD i 0 := by simp [List.getD, List.getElem?_append, h.1, e]
    rw [e2]; exact h.2 i e
  · obtain rfl : i = n := by omega
    have e2 : (l ++ [(x : Int)]).getD i 0 = x := by simp [List.getD, List.getElem?_append, h.1]
    rw [e2]; omega
theorem EntB.i64 {S n : Nat} {l : List Int} (h : EntB S n l) (hS : S ≤ 8) : ∀ x ∈ l, I64 x := fun x hx => by
  obtain ⟨j, hj, rfl⟩ := List.getElem_of_mem hx
  have := h.2 j (by rw [← h.1]; exact hj)
  rw [List.getD_eq_getElem?_getD, List.getElem?_eq_getElem hj, Option.getD_some] at this
  unfold I64; omega

theorem own_take {w : World} {lo : Nat} {e : TypeId} {g n c : Nat} {xs : List Value} {y : Value} (h : w.ownsRow lo e 1 (.slice (some ⟨g, 0, none⟩) (n + 1) c) (n + 1) (xs ++ [y])) (hl : xs.length = n) : w.ownsRow lo e 1 (.slice (some ⟨g, 0, none⟩) n c) n xs := by
  refine ⟨by omega, ?_⟩
  rcases h.2 with ⟨h', _⟩ | ⟨g', cap', cur, h', hb, hg, hnc, hm, hs, ht⟩
  · simp at h'
  · simp only [Value.slice.injEq, Option.some.injEq, Addr.mk.injEq, and_true, true_and] at h'
    obtain ⟨rfl, rfl⟩ := h'
    refine .inr ⟨g, c, cur, rfl, hb, hg, by omega, hm, hs, ?_⟩
    have h2 := congrArg (List.take (n * 1)) ht
    have h3 : (xs ++ [y]).take (n * 1) = xs := by rw [Nat.mul_one, ← hl]; exact List.take_left' rfl
    rw [List.take_take, Nat.min_eq_left (by omega), h3] at h2
    exact h2
theorem own_shapeV {w : World} {lo n size : Nat} {e : TypeId} {v : Value} {xs : List Value} (h : w.ownsRow lo e size v n xs) : ∃ a c, v = .slice a n c := by
  rcases h.2 with ⟨rfl, rfl⟩ | ⟨g, cap, cur, rfl, _⟩
  · exact ⟨_, _, rfl⟩
  · exact ⟨_, _, rfl⟩
theorem AppK.back {T B1 n c : Nat} {a : Option Addr} {v2 : Value} {w1 w2 : World} {o : Obj} {xs : List Value} {y : Value} {t : TypeId} (hT : T < B1) (h : AppK (w1.alloc o) w2 (.slice a n c) v2 n 1) (o1 : w1.ownsRow B1 t 1 (.slice a n c) n xs) (o2 : w2.ownsRow B1 t 1 v2 (n + 1) (xs ++ [y])) :
    KeepX T (Value.slice a n c).ownBlock w1 w2 ∧ (∃ row, (w1.alloc o).grownBy w2 row ∧ ∀ r, row = some r → B1 ≤ r) ∧
      ∀ C, KeepX T v2.ownBlock w2 C → C.ownsRow B1 t 1 v2 (n + 1) (xs ++ [y]) → KeepX T (Value.slice a n c).ownBlock w1 C ∧ C.ownsRow B1 t 1 (.slice a n c) n xs := by
  have hb : Below w1.heap.size w1 (w1.alloc o) := (Below.refl _ _).alloc (Nat.le_refl _) o
  have hl : xs.length = n := by have := o1.1; omega
  rcases h with ⟨g, cap, e1, e2, hg⟩ | ⟨hg, hnew⟩
  · simp only [Value.slice.injEq, true_and] at e1
    obtain ⟨rfl, rfl⟩ := e1
    subst e2
    have k1 : KeepX T (some g) w1 w2 := (KeepX.of_below hb).trans (KeepX.of_grown hg)
    refine ⟨k1, ⟨some g, hg, fun r e => by cases e; exact (o1.lt g rfl).1⟩, fun C hk hC => ⟨k1.trans hk, own_take hC hl⟩⟩
  · have k1 : KeepX T none w1 w2 := (KeepX.of_below hb).trans (KeepX.of_grown hg)
    have hsz : (w1.alloc o).heap.size = w1.heap.size + 1 := World.size_alloc _ _
    refine ⟨k1.any, ⟨none, hg, fun r e => by cases e⟩, fun C hk hC => ⟨⟨Nat.le_trans k1.size hk.size, fun k ob h1 h2 h3 h4 => ?_⟩, ?_⟩⟩
    · refine hk.cells k ob h1 (fun e => ?_) (k1.cells k ob h1 (by simp) h3 h4) h4
      have := hnew k e
      have := (Array.getElem?_eq_some_iff.1 h3).1
      omega
    · refine hk.owns (k1.owns o1 (fun k e => ⟨by have := (o1.lt k e).1; omega, by simp⟩)) (fun k e => ⟨by have := (o1.lt k e).1; omega, fun e9 => ?_⟩)
      have := hnew k e9
      have := (o1.lt k e).2
      omega
theorem isoF_s {S : Nat} {f h : Nat → Nat → Int} {m x : Nat} {l : List Int} (F : Nat → List (List Int)) : (List.range (x + 1)).flatMap F = (List.range x).flatMap F ++ F x := by simp [List.range_succ]

/-- the next of the list L, and how it lies in memory -/
def GdN (S B1 : Nat) (L : List (List Int)) (pre : List (Nat × Nat × List Int)) (x : Nat × Nat × List Int) (W : World) : Prop := GdM S B1 x W ∧ ∃ tl, pre.map (fun y => y.2.2) ++ (x.2.2 :: tl) = L
theorem GdN.put {S B1 : Nat} {L : List (List Int)} {pre : List (Nat × Nat × List Int)} {x : Nat × Nat × List Int} {V : World} {l : Nat} {o : Obj} (o' : Obj) (h1 : V.heap[l]? = some o) (h2 : o.isCells = false) (h : GdN S B1 L pre x V) : GdN S B1 L pre x (V.putObj l o') := ⟨h.1.put o' h1 h2, h.2⟩
theorem GdN.lo {S B1 B2 : Nat} {L : List (List Int)} {pre : List (Nat × Nat × List Int)} {x : Nat × Nat × List Int} {V : World} (h : GdN S B1 L pre x V) (hB : B2 ≤ B1) : GdN S B2 L pre x V := ⟨h.1.lo hB, h.2⟩
theorem flat_split {β : Type} (F : Nat → List β) (x : Nat) : ∀ (S : Nat), x < S → ∃ rest, (List.range S).flatMap F = (List.range x).flatMap F ++ (F x ++ rest)
  | 0, h => by omega
  | S + 1, h => by
    by_cases e : x = S
    · subst e; exact ⟨[], by simp [List.range_succ]⟩
    · obtain ⟨r, hr⟩ := flat_split F x S (by omega)
      exact ⟨r ++ F S, by rw [List.range_succ, List.flatMap_append, hr]; simp [List.append_assoc]⟩

/-- what the search leaves -/
def GoPost (S : Nat) (f h : Nat → Nat → Int) (T B1 : Nat) (J : List (Nat × Nat × List Int) → World → Prop) (Jx : World → Prop) (m n : Nat) (l : List Int) (v : Value) (pre : List (Nat × Nat × List Int)) (W : World) (e : Ending) (V : World) : Prop :=
  (∃ els : List (Nat × Nat × List Int), els.map (fun x => x.2.2) = isoL S f h m l ∧ J (pre ++ els) V ∧ e = .returned (.bool true) ∧ KeepX T v.ownBlock W V ∧ V.ownsRow B1 2 1 v n (l.map (Value.int .i64))) ∨ (e = .returned (.bool false) ∧ Jx V)

set_option maxHeartbeats 6400000 in
theorem goOnR (N : Nat) (S : Nat) (hS : 1 ≤ S ∧ S ≤ 8) (f h : Nat → Nat → Int) (T B1 l q1 q2 q3 q4 : Nat) (hT : T < B1) (E : World → Prop) (hE : ∀ A B, E A → (∀ k o, k < B1 → k ≠ T → A.heap[k]? = some o → o.isCells = true → B.heap[k]? = some o) → E B)
    (hfit : ∀ (W : World) (g c n : Nat) (lst : List Int), E W → EntB S (n + 1) lst → n < S → (∀ j, j < n + 1 → W.cell? ⟨g, j, none⟩ = some (.int .i64 (lst.getD j 0))) →
      Calls Tryd.prog 68 #[.slice (some ⟨g, 0, none⟩) (n + 1) c, .pointer (some ⟨q1, 0, none⟩), .pointer (some ⟨q2, 0, none⟩), .pointer (some ⟨q3, 0, none⟩), .pointer (some ⟨q4, 0, none⟩)] W fun e W' => e = .returned (.bool (klB f h (fun j => (lst.getD j 0).toNat) n)) ∧ Below W.heap.size W W')
    (J : List (Nat × Nat × List Int) → World → Prop) (Jx : World → Prop) (hJ : HoldsBelow B1 J) (L : List (List Int))
    (hY : ∀ pre x V, J pre V → GdN S B1 L pre x V → YieldAt Fence.wide N Tryd.prog l (encM S x) V fun e V' => (e = .returned (.bool true) ∧ J (pre ++ [x]) V' ∧ KeepX T none V V') ∨ (e = .returned (.bool false) ∧ Jx V')) :
    ∀ (m n : Nat) (lst : List Int) (v : Value) (pre : List (Nat × Nat × List Int)) (W : World), EntB S n lst → n + m = S → B1 ≤ W.heap.size → E W → W.ownsRow B1 2 1 v n (lst.map (Value.int .i64)) → J pre W → (∃ tl, pre.map (fun y => y.2.2) ++ (isoL S f h m lst ++ tl) = L) →
      CallsIn Fence.wide (N + 1) Tryd.prog 87 #[.agg #[.int .i64 (S : Int), .func (.func 68) #[] #[.pointer (some ⟨q1, 0, none⟩), .pointer (some ⟨q2, 0, none⟩), .pointer (some ⟨q3, 0, none⟩), .pointer (some ⟨q4, 0, none⟩)]], v, .func (.yield l) #[] #[]] W (GoPost S f h T B1 J Jx m n lst v pre W)
  | 0, n, lst, v, pre, W, hl, hm, hB1, hEW, hown, hJW, hnx => by
    obtain rfl : n = S := by omega
    rcases hown.2 with ⟨_, hn0⟩ | ⟨g, cap, cur, rfl, hb, hg, hnc, hcm, hcs, htk⟩
    · omega
    have hgl : g < W.heap.size := (hown.lt g rfl).2
    have hbA : ∀ o, Below W.heap.size W (W.alloc o) := fun o => (Below.refl _ _).alloc (Nat.le_refl _) o
    have HO := Lib.hid (⟨hown, hb, hJW, hl, hEW⟩ : _ ∧ _ ∧ _ ∧ _ ∧ _)
    have HY := Lib.hid hY
    have HJ := Lib.hid hJ
    have HNX := Lib.hid hnx
    clear hown hEW hJW hY hJ hE hfit hl hg hcs htk hnx
    refine callsIn_of_wp Tryd.func87 rfl trivial ?_ rfl
    simp only [Tryd.ntmps87, List.size_toArray, List.length_cons, List.length_nil, Nat.reduceAdd, Nat.reduceSub, Array.replicate_succ, Array.replicate_zero, List.push_toArray, List.append_toArray, List.nil_append, List.cons_append]
    have hF : Fence.wide.fn 99 := trivial
    obtain ⟨V, hV⟩ : ∃ V, V = W.alloc (.cells #[.int .i64 (n : Int), .func (.func 68) #[] #[.pointer (some ⟨q1, 0, none⟩), .pointer (some ⟨q2, 0, none⟩), .pointer (some ⟨q3, 0, none⟩), .pointer (some ⟨q4, 0, none⟩)]] 94) := ⟨_, rfl⟩
    have hbV : Below W.heap.size W V := by rw [hV]; exact hbA _
    have HCL := Lib.hid (slClone n cap ⟨g, 0, none⟩ lst V (by omega) HO.out.2.2.2.1.1 (fun j u hj => by
      have hjl : j < n := by have := (List.getElem?_eq_some_iff.1 hj).1; rw [List.length_map, HO.out.2.2.2.1.1] at this; exact this
      have ea : (({ block := g, off := 0 } : Addr).add j) = ⟨g, 0 + j, none⟩ := by simp [Addr.add]; intro h; omega
      rw [ea, Nat.zero_add]
      exact hbV.keep ((HO.out.1.cellAt j (by omega)).trans hj)))
    have HVV := Lib.hid (⟨hV, hbV⟩ : _ ∧ _)
    clear hV hbV hbA
    gi_wp2
    rw [← HVV.out.1]
    refine CallsIn.mono (callsIn_wide.2 HCL.out) ?_
    rintro e w1 ⟨v1, rfl, o1, b1⟩
    have hb1 : Below W.heap.size W w1 := HVV.out.2.next b1
    have hV1 : B1 ≤ V.heap.size := Nat.le_trans hB1 HVV.out.2.size
    have HF : Hid ((∃ g1 c1, v1 = .slice (some ⟨g1, 0, none⟩) n c1 ∧ GdM n B1 (g1, c1, lst) w1) ∧ J pre w1 ∧ KeepX T none W w1) := Lib.hid (by
      refine ⟨?_, HJ.out _ _ _ none HO.out.2.2.1 (grown_none hb1) (fun r e => by cases e), KeepX.of_below hb1⟩
      rcases o1.2 with ⟨_, hn0⟩ | ⟨g1, cap1, cur1, rfl, hb1', _⟩
      · omega
      · refine ⟨g1, cap1, rfl, HO.out.2.2.2.1.1, Nat.le_trans hV1 hb1', fun j hj => (o1.cellAt j (by omega)).trans ?_, ownsRow_lo o1 hV1⟩
        have hjl : j < lst.length := by rw [HO.out.2.2.2.1.1]; exact hj
        rw [List.getElem?_map, List.getElem?_eq_getElem hjl]
        simp [List.getD, List.getElem?_eq_getElem hjl])
    clear o1 b1 hb1 HVV HCL
    obtain ⟨⟨g1, c1, rfl, hgd⟩, hJ1, hk1⟩ := HF.out
    obtain ⟨fn, tmps, assign, body, hy, hR⟩ := yieldAt_wide (n' := N) (HY.out pre (g1, c1, lst) w1 hJ1 ⟨hgd, HNX.out⟩)
    unfold encM at hy
    dsimp only at hy hR
    have HK1 := Lib.hid hk1
    clear HF hgd hJ1 hk1
    gi_wp2
    refine RoundIn.mono hR ?_
    rintro e W3 (⟨rfl, hJ3, hKp⟩ | ⟨rfl, hJx3⟩)
    · have HG := Lib.hid (show GoPost n f h T B1 J Jx 0 n lst (.slice (some ⟨g, 0, none⟩) n cap) pre W (.returned (.bool true)) W3 from
        .inl ⟨[(g1, c1, lst)], by simp [isoL], hJ3, rfl, (HK1.out.trans hKp).any, (HK1.out.trans hKp).owns HO.out.1 (fun k hk => by injection hk with hk; subst hk; have := HO.out.2.1; exact ⟨by dsimp only; omega, by simp⟩)⟩)
      clear hJ3 hKp hy hR
      gi_wp2
      go_ret
      exact HG.out
    · have HG := Lib.hid (show GoPost n f h T B1 J Jx 0 n lst (.slice (some ⟨g, 0, none⟩) n cap) pre W (.returned (.bool false)) W3 from .inr ⟨rfl, hJx3⟩)
      clear hJx3 hy hR
      gi_wp2
      go_ret
      exact HG.out
  | m + 1, n, lst, v, pre, W, hl, hm, hB1, hEW, hown, hJW, hnx => by
    obtain ⟨i0, hi', z0, z1, z2⟩ := info_parts Tryd.info2
    obtain ⟨a, c, rfl⟩ := own_shapeV hown
    have hne : ((n : Int) == (S : Int)) = false := by
      have : (n : Int) ≠ (S : Int) := by omega
      simpa using this
    have hnS : n < S := by omega
    have hbA : ∀ o, Below W.heap.size W (W.alloc o) := fun o => (Below.refl _ _).alloc (Nat.le_refl _) o
    obtain ⟨V, hV⟩ : ∃ V, V = W.alloc (.cells #[.int .i64 (S : Int), .func (.func 68) #[] #[.pointer (some ⟨q1, 0, none⟩), .pointer (some ⟨q2, 0, none⟩), .pointer (some ⟨q3, 0, none⟩), .pointer (some ⟨q4, 0, none⟩)]] 94) := ⟨_, rfl⟩
    have hbV : Below W.heap.size W V := by rw [hV]; exact hbA _
    have kb0 : V.cell? ⟨W.heap.size, 0, none⟩ = some (.int .i64 (S : Int)) := by rw [hV]; go_simp
    have kb1 : V.cell? ⟨W.heap.size, 1, none⟩ = some (.func (.func 68) #[] #[.pointer (some ⟨q1, 0, none⟩), .pointer (some ⟨q2, 0, none⟩), .pointer (some ⟨q3, 0, none⟩), .pointer (some ⟨q4, 0, none⟩)]) := by rw [hV]; go_simp
    have HWO := Lib.hid (⟨hown.lt, Nat.lt_of_lt_of_le hT hB1⟩ : _ ∧ T < W.heap.size)
    have HEK := Lib.hid (fun (wr : World) (hk : KeepX T (Value.slice a n c).ownBlock V wr) => (⟨hE V wr (hE W V hEW (fun k o h1 h2 h3 _ => (hbV.block k (by omega)).trans h3)) (fun k o h1 h2 h3 h4 => hk.cells k o h2 (fun e => by have := (hown.lt k e).1; omega) h3 h4), hk.cell kb0 (by have := HWO.out.2; dsimp only; omega) (fun e => by have := (HWO.out.1 _ e).2; dsimp only at this; omega), hk.cell kb1 (by have := HWO.out.2; dsimp only; omega) (fun e => by have := (HWO.out.1 _ e).2; dsimp only at this; omega)⟩ : E wr ∧ _ ∧ _))
    have HFIN := Lib.hid (fun (wr : World) (hk : KeepX T (Value.slice a n c).ownBlock V wr) => (KeepX.of_below hbV).trans hk)
    have HS0 := Lib.hid (⟨hJ _ _ _ none hJW (grown_none hbV) (fun r e => by cases e), KeepX.refl T (Value.slice a n c).ownBlock V, ownsRow_chg hown (hbV.chg 0 0) (fun _ _ => .inr (Nat.zero_le _))⟩ : J pre V ∧ _ ∧ _)
    have HL := Lib.hid hl
    have HJ := Lib.hid hJ
    have HFT := Lib.hid hfit
    have HIH := Lib.hid (goOnR N S hS f h T B1 l q1 q2 q3 q4 hT E hE hfit J Jx hJ L hY m)
    have HVV := Lib.hid hV
    have hVB : B1 ≤ V.heap.size := Nat.le_trans hB1 hbV.size
    have HFO := Lib.hid (show isoL S f h (m + 1) lst = (List.range S).flatMap (fun x => if fitB f h lst x = true then isoL S f h m (lst ++ [(x : Int)]) else []) from rfl)
    have HNX := Lib.hid hnx
    clear hl hJ hY hfit hE hown hEW hJW hbA hbV hV hnx
    refine callsIn_of_wp Tryd.func87 rfl trivial ?_ rfl
    simp only [Tryd.ntmps87, List.size_toArray, List.length_cons, List.length_nil, Nat.reduceAdd, Nat.reduceSub, Array.replicate_succ, Array.replicate_zero, List.push_toArray, List.append_toArray, List.nil_append, List.cons_append]
    have hF1 : Fence.wide.fn 100 := trivial
    have hF2 : Fence.wide.fn 68 := trivial
    have hF3 : Fence.wide.fn 87 := trivial
    gi_wp2
    rw [← HVV.out]
    gi_loopw [20] (fun i wr => ∃ (x : Nat) (els : List (Nat × Nat × List Int)), x ≤ S ∧ i = .int .i64 (x : Int) ∧ Hid (els.map (fun y => y.2.2) = (List.range x).flatMap (fun x => if fitB f h lst x = true then isoL S f h m (lst ++ [(x : Int)]) else [])) ∧ J (pre ++ els) wr ∧ KeepX T (Value.slice a n c).ownBlock V wr ∧ wr.ownsRow B1 2 1 (.slice a n c) n (lst.map (Value.int .i64))) (fun i _ => S - (intOf i).toNat)
    case atStart => exact ⟨0, [], Nat.zero_le _, rfl, Lib.hid (by simp), by rw [List.append_nil]; exact HS0.out.1, HS0.out.2.1, HS0.out.2.2⟩
    case round =>
      clear HS0 kb0 kb1
      obtain ⟨x, els, hx, rfl, HM, hJr, hkr, hor⟩ := hrel
      obtain ⟨hEr, kb0, kb1⟩ := HEK.out wr hkr
      by_cases hlt : x < S
      · have HR := Lib.hid (⟨hJr, hkr, hor⟩ : _ ∧ _ ∧ _)
        have hlst : OwI B1 wr.heap.size wr (.slice a n c) lst := OwI.mk hor (by omega) (HL.out.i64 hS.2)
        have HCT := Lib.hid (slContains a n c lst x wr hlst.rd HL.out.1)
        have hxI : (x : Int) < (S : Int) := by omega
        have HM1 := Lib.hid (show ∀ els2 : List (Nat × Nat × List Int), els2.map (fun y => y.2.2) = (if fitB f h lst x = true then isoL S f h m (lst ++ [(x : Int)]) else []) → (els ++ els2).map (fun y => y.2.2) = (List.range (x + 1)).flatMap (fun x => if fitB f h lst x = true then isoL S f h m (lst ++ [(x : Int)]) else []) from fun els2 h2 => by
          rw [List.range_succ, List.flatMap_append, List.map_append, HM.out, h2]; simp)
        have HM2 := Lib.hid (show fitB f h lst x = true → ∃ tl, (pre ++ els).map (fun y => y.2.2) ++ (isoL S f h m (lst ++ [(x : Int)]) ++ tl) = L from fun hft => by
          obtain ⟨tl, htl⟩ := HNX.out
          obtain ⟨rest, hrest⟩ := flat_split (fun x => if fitB f h lst x = true then isoL S f h m (lst ++ [(x : Int)]) else []) x S hlt
          have e0 : (if fitB f h lst x = true then isoL S f h m (lst ++ [(x : Int)]) else []) = isoL S f h m (lst ++ [(x : Int)]) := if_pos hft
          refine ⟨rest ++ tl, ?_⟩
          rw [List.map_append, HM.out, ← htl, HFO.out, hrest]
          rw [e0]
          simp only [List.append_assoc])
        clear hJr hkr hor hEr hlst HM
        gi_wp2
        refine CallsIn.mono (callsIn_wide.2 HCT.out) ?_
        cases hmb : memB lst x with
        | true =>
          rintro e w1 ⟨rfl, q1'⟩
          have HN := Lib.hid (show Hid (els.map (fun y => y.2.2) = (List.range (x + 1)).flatMap (fun x => if fitB f h lst x = true then isoL S f h m (lst ++ [(x : Int)]) else [])) ∧ J (pre ++ els) w1 ∧ KeepX T (Value.slice a n c).ownBlock V w1 ∧ w1.ownsRow B1 2 1 (.slice a n c) n (lst.map (Value.int .i64)) from
            ⟨Lib.hid (by have := HM1.out [] (by rw [fit_mem hmb, if_neg (by simp)]; rfl); rwa [List.append_nil] at this), HJ.out _ _ _ none HR.out.1 (grown_none q1'.below) (fun r e => by cases e), HR.out.2.1.trans (KeepX.of_below q1'.below), ownsRow_chg HR.out.2.2 (q1'.below.chg 0 0) (fun _ _ => .inr (Nat.zero_le _))⟩)
          clear HM1 HM2 HCT HR q1' hmb
          gi_wp2
          go_roundw
          case rel => exact ⟨x+1, els, by omega, by go_num, HN.out⟩
          case measure => simp [intOf]; omega
        | false =>
          rintro e w1 ⟨rfl, q1'⟩
          have hJ1 := HJ.out _ _ _ none HR.out.1 (grown_none q1'.below) (fun r e => by cases e)
          have hk1 := HR.out.2.1.trans (KeepX.of_below q1'.below)
          have ho1 := ownsRow_chg HR.out.2.2 (q1'.below.chg 0 0) (fun _ _ => .inr (Nat.zero_le _))
          have HS1 := Lib.hid (⟨hJ1, hk1, ho1⟩ : _ ∧ _ ∧ _)
          have hv1 : B1 ≤ w1.heap.size := Nat.le_trans hVB hk1.size
          have HKL := Lib.hid (fit_kl (f := f) (h := h) HL.out.1 hmb)
          clear hJ1 hk1 HR HCT q1' hmb kb0 kb1
          gi_wp2_with (gi_at_builtin; refine wpListIn_append_keep _ rfl _ _ 25 rfl B1 2 i0 (.int .i64 0) 1 8 Tryd.underlying25 hi' z0 z1 z2 rfl (by decide) _ _ _ rfl (ho1.alloc _) ⟨w1.heap.size, 0, none⟩ 1 1 [.int .i64 (x : Int)] rfl rfl ?d1 ?d2 (by decide) ?d3 ?d4 ?d5 ?_)
          case d1 => exact news_one _ _ _
          case d2 => intro u hu; simp at hu; subst hu; rfl
          case d3 => unfold maxLen; omega
          case d4 => omega
          case d5 => simp; omega
          intro v2 w2 own2 hap
          obtain ⟨hk12, ⟨row, hgr, hrow⟩, hback⟩ := hap.back hT HS1.out.2.2 own2
          have hJ2 := HJ.out _ _ _ row (HJ.out _ _ _ none HS1.out.1 (World.grownBy_alloc w1 _ none) (fun r e => by cases e)) hgr hrow
          obtain ⟨hE2, kb0, kb1⟩ := HEK.out w2 (HS1.out.2.1.trans hk12)
          have hs2 : w1.heap.size ≤ w2.heap.size := hk12.size
          obtain ⟨g2, c2, rfl⟩ : ∃ g2 c2, v2 = .slice (some ⟨g2, 0, none⟩) (n + 1) c2 := by
            rcases own2.2 with ⟨_, h0⟩ | ⟨g2, cap2, cur2, rfl, _⟩
            · omega
            · exact ⟨g2, cap2, rfl⟩
          have hEN := HL.out.snoc hlt
          have HFC := Lib.hid (HFT.out w2 g2 c2 n (lst ++ [(x : Int)]) hE2 hEN hnS (fun j hj => (own2.cellAt j (by omega)).trans (by
            have hjl : j < (lst ++ [(x : Int)]).length := by rw [hEN.1]; exact hj
            rw [show lst.map (Value.int .i64) ++ [.int .i64 (x : Int)] = (lst ++ [(x : Int)]).map (Value.int .i64) by rw [List.map_append]; rfl, List.getElem?_map, List.getElem?_eq_getElem hjl]
            simp [List.getD, List.getElem?_eq_getElem hjl])))
          rw [← HKL.out] at HFC
          have HS2 := Lib.hid (⟨hJ2, own2, hback, hE2, HS1.out.2.1⟩ : _ ∧ _ ∧ _ ∧ _ ∧ _)
          have HEN := Lib.hid hEN
          clear hap hk12 hgr hrow hback hJ2 own2 hE2 ho1 HS1 HKL hEN
          gi_wp2
          refine CallsIn.mono (callsIn_wide.2 HFC.out) ?_
          cases hft : fitB f h lst x with
          | false =>
            rintro e w3 ⟨rfl, b3⟩
            obtain ⟨hJ2, own2, hback, hE2, hk1⟩ := HS2.out
            obtain ⟨hk13, ho3⟩ := hback w3 (KeepX.of_below b3) (ownsRow_chg own2 (b3.chg 0 0) (fun _ _ => .inr (Nat.zero_le _)))
            have HN := Lib.hid (show Hid (els.map (fun y => y.2.2) = (List.range (x + 1)).flatMap (fun x => if fitB f h lst x = true then isoL S f h m (lst ++ [(x : Int)]) else [])) ∧ J (pre ++ els) w3 ∧ KeepX T (Value.slice a n c).ownBlock V w3 ∧ w3.ownsRow B1 2 1 (.slice a n c) n (lst.map (Value.int .i64)) from
              ⟨Lib.hid (by have := HM1.out [] (by rw [hft, if_neg (by simp)]; rfl); rwa [List.append_nil] at this), HJ.out _ _ _ none hJ2 (grown_none b3) (fun r e => by cases e), hk1.trans hk13, ho3⟩)
            clear HM1 HFC HS2 hJ2 own2 hback hE2 hk1 hk13 ho3 b3 hft kb0 kb1
            gi_wp2
            go_roundw
            case rel => exact ⟨x+1, els, by omega, by go_num, HN.out⟩
            case measure => simp [intOf]; omega
          | true =>
            rintro e w3 ⟨rfl, b3⟩
            obtain ⟨hJ2, own2, hback, hE2, hk1⟩ := HS2.out
            have own3 := ownsRow_chg own2 (b3.chg 0 0) (fun _ _ => .inr (Nat.zero_le _))
            have hk23 : KeepX T (Value.slice (some ⟨g2, 0, none⟩) (n + 1) c2).ownBlock w2 w3 := KeepX.of_below b3
            have hE3 : E w3 := (HEK.out w3 (hk1.trans (hback w3 hk23 own3).1)).1
            have HRC := Lib.hid (callsIn_wide.1 (HIH.out (n + 1) (lst ++ [(x : Int)]) (.slice (some ⟨g2, 0, none⟩) (n + 1) c2) (pre ++ els) w3 HEN.out (by omega) (by have := b3.size; omega) hE3 (by rw [List.map_append]; exact own3) (HJ.out _ _ _ none hJ2 (grown_none b3) (fun r e => by cases e)) (HM2.out hft)))
            have HS3 := Lib.hid (⟨hback, hk1, hk23⟩ : _ ∧ _ ∧ _)
            replace kb0 := b3.keep kb0
            replace kb1 := b3.keep kb1
            clear HFC HS2 hJ2 own2 hback hE2 hk1 own3 hk23 hE3 b3
            gi_wp2
            refine CallsIn.mono (callsIn_wide.2 HRC.out) ?_
            rintro e w4 (⟨els2, hm2, hJ4, rfl, hk4, ho4⟩ | ⟨rfl, hJx4⟩)
            · rw [List.map_append] at ho4
              obtain ⟨hk14, ho4'⟩ := HS3.out.1 w4 (HS3.out.2.2.trans hk4) ho4
              have HN := Lib.hid (show Hid ((els ++ els2).map (fun y => y.2.2) = (List.range (x + 1)).flatMap (fun x => if fitB f h lst x = true then isoL S f h m (lst ++ [(x : Int)]) else [])) ∧ J (pre ++ (els ++ els2)) w4 ∧ KeepX T (Value.slice a n c).ownBlock V w4 ∧ w4.ownsRow B1 2 1 (.slice a n c) n (lst.map (Value.int .i64)) from
                ⟨Lib.hid (HM1.out els2 (by rw [hft, if_pos rfl]; exact hm2)), by rw [← List.append_assoc]; exact hJ4, HS3.out.2.1.trans hk14, ho4'⟩)
              clear HM1 HRC HS3 hJ4 hk4 ho4 hk14 ho4' hm2 hft kb0 kb1
              gi_wp2
              go_roundw
              case rel => exact ⟨x+1, els ++ els2, by omega, by go_num, HN.out⟩
              case measure => simp [intOf]; omega
            · have HG := Lib.hid (show GoPost S f h T B1 J Jx (m + 1) n lst (.slice a n c) pre W (.returned (.bool false)) w4 from .inr ⟨rfl, hJx4⟩)
              clear hJx4 HRC HS3 HM1 kb0 kb1
              gi_wp2
              go_ret
              exact HG.out
      · obtain rfl : x = S := by omega
        have HG := Lib.hid (show GoPost x f h T B1 J Jx (m + 1) n lst (.slice a n c) pre W (.returned (.bool true)) wr from .inl ⟨els, by rw [HM.out, HFO.out], hJr, rfl, HFIN.out wr hkr, hor⟩)
        clear hJr hkr hor hEr HM
        gi_wp2
        go_ret
        exact HG.out

end Go.Proofs.YtnblhkhdilkbeaaDoor

/- What the search's test reads, and the test. -/
set_option maxRecDepth 100000
namespace Go.Proofs.YtnblhkhdilkbeaaDoor
open Go Go.RowKit

theorem RdI.keepc {lo hi : Nat} {w w' : World} {v : Value} {xs : List Int} (h : RdI lo hi w v xs) (hk : ∀ (p : Addr) (v : Value), lo ≤ p.block → p.block < hi → w.cell? p = some v → w'.cell? p = some v) : RdI lo hi w' v xs := by
  obtain ⟨h1, h2, h⟩ := h
  refine ⟨h1, h2, ?_⟩
  rcases h with h | ⟨b, off, cap, hv, h0, hlo, hhi, hc⟩
  · exact .inl h
  · exact .inr ⟨b, off, cap, hv, h0, hlo, hhi, fun j hj => hk _ _ hlo hhi (hc j hj)⟩
theorem RdR.keepc {lo hi : Nat} {w w' : World} {v : Value} {xss : List (List Int)} (h : RdR lo hi w v xss) (hk : ∀ (p : Addr) (v : Value), lo ≤ p.block → p.block < hi → w.cell? p = some v → w'.cell? p = some v) : RdR lo hi w' v xss := by
  obtain ⟨h1, h⟩ := h
  refine ⟨h1, ?_⟩
  rcases h with h | ⟨b, off, cap, hv, h0, hlo, hhi, hc⟩
  · exact .inl h
  · exact .inr ⟨b, off, cap, hv, h0, hlo, hhi, fun j hj => by
      obtain ⟨rv, e1, e2⟩ := hc j hj
      exact ⟨rv, hk _ _ hlo hhi e1, e2.keepc hk⟩⟩
/-- a cell stays where its object does -/
theorem cell_kept {A B : World} {p : Addr} {v : Value} (hc : A.cell? p = some v) (h : ∀ o, A.heap[p.block]? = some o → o.isCells = true → B.heap[p.block]? = some o) : B.cell? p = some v := by
  have hlt := World.block_lt_of_cell? A p hc
  have hg : A.heap[p.block]? = some A.heap[p.block] := Array.getElem?_eq_getElem hlt
  have hi : (A.heap[p.block]).isCells = true := by
    cases hk : (A.heap[p.block]).isCells with
    | true => rfl
    | false => exact absurd rfl (cell_block hg hk hc)
  exact (World.cell?_of_block ((h _ hg hi).trans hg.symm)).trans hc
/-- what the test reads: two sizes, two tables -/
structure EnvI (S : Nat) (f h : Nat → Nat → Int) (q1 q2 q3 q4 lo hi : Nat) (a : Option Addr) (c : Nat) (a1 : Option Addr) (c1 : Nat) (V : World) : Prop where
  s1 : V.cell? ⟨q1, 0, none⟩ = some (.int .i64 (S : Int))
  s2 : V.cell? ⟨q2, 0, none⟩ = some (.int .i64 (S : Int))
  t1 : V.cell? ⟨q3, 0, none⟩ = some (.slice a S c)
  t2 : V.cell? ⟨q4, 0, none⟩ = some (.slice a1 S c1)
  r1 : RdR lo hi V (.slice a S c) (tab S f)
  r2 : RdR lo hi V (.slice a1 S c1) (tab S h)
theorem EnvI.keep {S : Nat} {f h : Nat → Nat → Int} {q1 q2 q3 q4 lo hi : Nat} {a : Option Addr} {c : Nat} {a1 : Option Addr} {c1 : Nat} {A B : World} {T B0 : Nat} (hA : EnvI S f h q1 q2 q3 q4 lo hi a c a1 c1 A) (hT : T < lo) (hq : lo ≤ q1 ∧ q1 < B0 ∧ lo ≤ q2 ∧ q2 < B0 ∧ lo ≤ q3 ∧ q3 < B0 ∧ lo ≤ q4 ∧ q4 < B0) (hhi : hi ≤ B0)
    (hk : ∀ k o, k < B0 → k ≠ T → A.heap[k]? = some o → o.isCells = true → B.heap[k]? = some o) : EnvI S f h q1 q2 q3 q4 lo hi a c a1 c1 B := by
  have hc : ∀ (p : Addr) (v : Value), lo ≤ p.block → p.block < B0 → A.cell? p = some v → B.cell? p = some v := fun p v h1 h2 hv => cell_kept hv (fun o e1 e2 => hk _ o h2 (by omega) e1 e2)
  obtain ⟨p1, p2, p3, p4, p5, p6, p7, p8⟩ := hq
  exact ⟨hc _ _ p1 p2 hA.s1, hc _ _ p3 p4 hA.s2, hc _ _ p5 p6 hA.t1, hc _ _ p7 p8 hA.t2, hA.r1.keepc (fun p v h1 h2 => hc p v h1 (by omega)), hA.r2.keepc (fun p v h1 h2 => hc p v h1 (by omega))⟩

set_option maxHeartbeats 1600000 in
theorem fitRun {lo hi : Nat} (S : Nat) (hS : 1 ≤ S ∧ S ≤ 8) (f h : Nat → Nat → Int) (q1 q2 q3 q4 : Nat) (a : Option Addr) (c : Nat) (a1 : Option Addr) (c1 : Nat) (W : World) (g cg n : Nat) (lst : List Int) (hE : EnvI S f h q1 q2 q3 q4 lo hi a c a1 c1 W) (hl : EntB S (n + 1) lst) (hn : n < S) (hc : ∀ j, j < n + 1 → W.cell? ⟨g, j, none⟩ = some (.int .i64 (lst.getD j 0))) :
    Calls Tryd.prog 68 #[.slice (some ⟨g, 0, none⟩) (n + 1) cg, .pointer (some ⟨q1, 0, none⟩), .pointer (some ⟨q2, 0, none⟩), .pointer (some ⟨q3, 0, none⟩), .pointer (some ⟨q4, 0, none⟩)] W fun e W' => e = .returned (.bool (klB f h (fun j => (lst.getD j 0).toNat) n)) ∧ Below W.heap.size W W' := by
  have hlj : ∀ j, j < n + 1 → lst.getD j 0 = (((lst.getD j 0).toNat : Nat) : Int) := fun j hj => by have := hl.2 j hj; omega
  have HK := Lib.hid (keepsLast S n hn hS.2 f h a c a1 c1 g 0 cg (fun j => (lst.getD j 0).toNat) (fun j hj => by have := hl.2 j (by omega); omega) W hE.r1 hE.r2 (fun j hj => by rw [Nat.zero_add]; rw [← hlj j (by omega)]; exact hc j (by omega)))
  obtain ⟨s1, s2, t1, t2, _, _⟩ := hE
  have hb : ((S : Int) == (S : Int)) = true := by simp
  generalize klB f h (fun j => (lst.getD j 0).toNat) n = R at HK ⊢
  clear hl hc hlj
  go_enter Tryd.func68, Tryd.ntmps68
  go_wp2_with fail
  refine HK.out.mono ?_
  rintro e w1 ⟨rfl, q1'⟩
  have HF := Lib.hid q1'.below
  clear HK q1' s1 s2 t1 t2
  go_wp2
  go_ret
  exact ⟨rfl, HF.out⟩

end Go.Proofs.YtnblhkhdilkbeaaDoor

/- The program's iterator over isomorphisms, as the range over it sees it. -/
set_option maxRecDepth 100000
namespace Go.Proofs.YtnblhkhdilkbeaaDoor
open Go Go.RowKit

set_option maxHeartbeats 1600000 in
theorem foundRun (N : Nat) (S : Nat) (hS : 1 ≤ S ∧ S ≤ 8) (f h : Nat → Nat → Int) (T Bx q1 q2 q3 q4 : Nat) (w : World) (hT : T < w.heap.size) (E : World → Prop) (hE : ∀ A B, E A → (∀ k o, k < w.heap.size → k ≠ T → A.heap[k]? = some o → o.isCells = true → B.heap[k]? = some o) → E B)
    (hfit : ∀ (W : World) (g c n : Nat) (lst : List Int), E W → EntB S (n + 1) lst → n < S → (∀ j, j < n + 1 → W.cell? ⟨g, j, none⟩ = some (.int .i64 (lst.getD j 0))) →
      Calls Tryd.prog 68 #[.slice (some ⟨g, 0, none⟩) (n + 1) c, .pointer (some ⟨q1, 0, none⟩), .pointer (some ⟨q2, 0, none⟩), .pointer (some ⟨q3, 0, none⟩), .pointer (some ⟨q4, 0, none⟩)] W fun e W' => e = .returned (.bool (klB f h (fun j => (lst.getD j 0).toNat) n)) ∧ Below W.heap.size W W')
    (hEw : E w) (hb0 : w.cell? ⟨Bx, 0, none⟩ = some (.int .i64 (S : Int))) (hb1 : w.cell? ⟨Bx, 1, none⟩ = some (.func (.func 68) #[] #[.pointer (some ⟨q1, 0, none⟩), .pointer (some ⟨q2, 0, none⟩), .pointer (some ⟨q3, 0, none⟩), .pointer (some ⟨q4, 0, none⟩)])) :
    TellsOwn (GdN S w.heap.size (isoL S f h S [])) Fence.wide (N + 1) Tryd.prog 86 #[.pointer (some ⟨Bx, 0, none⟩)] (encM S) (KeepX T none) (fun xs => xs.map (fun x => x.2.2) = isoL S f h S []) w := by
  intro l J Jx W hW hJ hY h0
  have hwW := hW.size
  have k0 := hW.keep hb0
  have k1 := hW.keep hb1
  have hEW : E W := hE w W hEw (fun k o h1 _ h3 _ => (hW.block k h1).trans h3)
  have HR := Lib.hid (callsIn_wide.1 (goOnR N S hS f h T W.heap.size l q1 q2 q3 q4 (by omega) E (fun A B h1 h2 => hE A B h1 (fun k o h3 h4 h5 h6 => h2 k o (by omega) h4 h5 h6)) hfit J Jx hJ (isoL S f h S [])
    (fun pre x V hj hg => yieldAt_wide (hY pre x V hj (hg.lo hwW))) S 0 [] (.slice none 0 0) [] W ⟨rfl, fun i hi => by omega⟩ (by omega) (Nat.le_refl _) hEW (World.ownsRow_nil _ _ _ _) h0 ⟨[], by simp⟩))
  clear hJ hY h0 hEW hfit hE hEw hb0 hb1
  refine callsIn_of_wp Tryd.func86 rfl trivial ?_ rfl
  simp only [Tryd.ntmps86, List.size_toArray, List.length_cons, List.length_nil, Nat.reduceAdd, Nat.reduceSub, Array.replicate_succ, Array.replicate_zero, List.push_toArray, List.append_toArray, List.nil_append, List.cons_append]
  have hF : Fence.wide.fn 87 := trivial
  gi_wp2
  refine CallsIn.mono (callsIn_wide.2 HR.out) ?_
  rintro e V hp
  have HP : Hid ((∃ b : Bool, e = .returned (.bool b)) ∧ ((∃ xs : List (Nat × Nat × List Int), xs.map (fun x => x.2.2) = isoL S f h S [] ∧ J xs V) ∨ Jx V)) := Lib.hid (by
    rcases hp with ⟨els, h1, h2, h3, _⟩ | ⟨h3, h4⟩
    · exact ⟨⟨_, h3⟩, .inl ⟨els, h1, by rwa [List.nil_append] at h2⟩⟩
    · exact ⟨⟨_, h3⟩, .inr h4⟩)
  clear hp HR
  obtain ⟨⟨b, rfl⟩, hq⟩ := HP.out
  have HQ := Lib.hid hq
  clear HP hq
  gi_wp2
  go_end0
  exact ⟨⟨_, rfl⟩, HQ.out⟩

end Go.Proofs.YtnblhkhdilkbeaaDoor

/- The iterator over isomorphisms is made. -/
set_option maxRecDepth 100000
namespace Go.Proofs.YtnblhkhdilkbeaaDoor
open Go Go.RowKit

theorem RdI.wide {lo hi hi' : Nat} {w : World} {v : Value} {xs : List Int} (h : RdI lo hi w v xs) (hh : hi ≤ hi') : RdI lo hi' w v xs := by
  obtain ⟨h1, h2, h⟩ := h
  refine ⟨h1, h2, ?_⟩
  rcases h with h | ⟨b, off, cap, hv, h0, hlo, hhi, hc⟩
  · exact .inl h
  · exact .inr ⟨b, off, cap, hv, h0, hlo, by omega, hc⟩
theorem RdR.wide {lo hi hi' : Nat} {w : World} {v : Value} {xss : List (List Int)} (h : RdR lo hi w v xss) (hh : hi ≤ hi') : RdR lo hi' w v xss := by
  obtain ⟨h1, h⟩ := h
  refine ⟨h1, ?_⟩
  rcases h with h | ⟨b, off, cap, hv, h0, hlo, hhi, hc⟩
  · exact .inl h
  · exact .inr ⟨b, off, cap, hv, h0, hlo, by omega, fun j hj => by
      obtain ⟨rv, e1, e2⟩ := hc j hj
      exact ⟨rv, e1, e2.wide hh⟩⟩
theorem foundOf (S q1 q2 q3 q4 : Nat) (w : World) :
    Calls Tryd.prog 70 #[.agg #[.int .i64 (S : Int), .func (.func 68) #[] #[.pointer (some ⟨q1, 0, none⟩), .pointer (some ⟨q2, 0, none⟩), .pointer (some ⟨q3, 0, none⟩), .pointer (some ⟨q4, 0, none⟩)]]] w fun e w' => e = .returned (.func (.func 86) #[] #[.pointer (some ⟨w.heap.size, 0, none⟩)]) ∧ w' = w.alloc (.cells #[.int .i64 (S : Int), .func (.func 68) #[] #[.pointer (some ⟨q1, 0, none⟩), .pointer (some ⟨q2, 0, none⟩), .pointer (some ⟨q3, 0, none⟩), .pointer (some ⟨q4, 0, none⟩)]] 94) := by
  go_enter Tryd.func70, Tryd.ntmps70
  go_wp2
  go_ret
  exact ⟨rfl, rfl⟩

set_option maxHeartbeats 3200000 in
theorem isosOf {lo hi lo1 hi1 : Nat} (S : Nat) (a : Option Addr) (n c : Nat) (xss : List (List Int)) (a1 : Option Addr) (n1 c1 : Nat) (yss : List (List Int)) (w : World) (h : RdR lo hi w (.slice a n c) xss) (hn : xss.length = n) (h1 : RdR lo1 hi1 w (.slice a1 n1 c1) yss) (hn1 : yss.length = n1) (hg : grB (S : Int) xss = true) (hg1 : grB (S : Int) yss = true) :
    Calls Tryd.prog 55 #[.agg #[.int .i64 (S : Int), .slice a n c], .agg #[.int .i64 (S : Int), .slice a1 n1 c1]] w fun e w' => ∃ q1 q2 q3 q4 hi Bx a' c' a1' c1', e = .returned (.func (.func 86) #[] #[.pointer (some ⟨Bx, 0, none⟩)]) ∧ Below w.heap.size w w' ∧
      (w.heap.size ≤ q1 ∧ q1 < w'.heap.size ∧ w.heap.size ≤ q2 ∧ q2 < w'.heap.size ∧ w.heap.size ≤ q3 ∧ q3 < w'.heap.size ∧ w.heap.size ≤ q4 ∧ q4 < w'.heap.size) ∧ hi ≤ w'.heap.size ∧ EnvI S (adF xss) (adF yss) q1 q2 q3 q4 w.heap.size hi a' c' a1' c1' w' ∧
      w'.cell? ⟨Bx, 0, none⟩ = some (.int .i64 (S : Int)) ∧ w'.cell? ⟨Bx, 1, none⟩ = some (.func (.func 68) #[] #[.pointer (some ⟨q1, 0, none⟩), .pointer (some ⟨q2, 0, none⟩), .pointer (some ⟨q3, 0, none⟩), .pointer (some ⟨q4, 0, none⟩)]) := by
  have hb0 : ∀ o o', Below w.heap.size w ((w.alloc o).alloc o') := fun o o' => ((Below.refl _ _).alloc (Nat.le_refl _) o).alloc (by simp) o'
  have HA := Lib.hid (fun W (hB : Below w.heap.size w W) => show Calls Tryd.prog 67 #[.agg #[.int .i64 (S : Int), .slice a n c]] W fun e w' => ∃ a' c', e = .returned (.tuple #[.slice a' S c', .int .i64 0]) ∧ OwR W.heap.size w'.heap.size w' (.slice a' S c') (tab S (adF xss)) ∧ Below W.heap.size W w' by
    have := implAdj_yes S a n c xss W (h.below hB) hn hg
    rw [← hn] at this ⊢
    exact this)
  have HA1 := Lib.hid (fun W (hB : Below w.heap.size w W) => show Calls Tryd.prog 67 #[.agg #[.int .i64 (S : Int), .slice a1 n1 c1]] W fun e w' => ∃ a' c', e = .returned (.tuple #[.slice a' S c', .int .i64 0]) ∧ OwR W.heap.size w'.heap.size w' (.slice a' S c') (tab S (adF yss)) ∧ Below W.heap.size W w' by
    have := implAdj_yes S a1 n1 c1 yss W (h1.below hB) hn1 hg1
    rw [← hn1] at this ⊢
    exact this)
  generalize adF xss = f at HA ⊢
  generalize adF yss = g at HA1 ⊢
  clear h hn h1 hn1 hg hg1
  go_enter Tryd.func55, Tryd.ntmps55
  go_wp2_with fail
  refine calls_gen (fun W => Below w.heap.size w W ∧ W.cell? ⟨w.heap.size, 0, none⟩ = some (.int .i64 (S : Int)) ∧ W.cell? ⟨w.heap.size, 1, none⟩ = some (.slice a n c) ∧ W.cell? ⟨w.heap.size + 1, 0, none⟩ = some (.int .i64 (S : Int)) ∧ W.cell? ⟨w.heap.size + 1, 1, none⟩ = some (.slice a1 n1 c1)) ⟨hb0 _ _, by go_simp, by go_simp, by go_simp, by go_simp⟩ ?_
  rintro W ⟨hB, k0, k1, j0, j1⟩
  refine (HA.out W hB).mono ?_
  rintro e w1 ⟨a3, c3, rfl, o3, b3⟩
  have hsz : w.heap.size + 1 < w1.heap.size := Nat.lt_of_lt_of_le (World.block_lt_of_cell? W _ j0) b3.size
  have hwW := hB.size
  replace k0 := b3.keep k0
  replace j0 := b3.keep j0
  replace j1 := b3.keep j1
  have HB1 := Lib.hid (hB.next b3)
  have HR3 := Lib.hid ((o3.mono hwW (Nat.le_refl _)).rd)
  clear hB b3 o3 k1 HA
  go_wp2_with fail
  refine calls_gen (fun W' => Below w1.heap.size w1 W' ∧ W'.cell? ⟨w1.heap.size, 0, none⟩ = some (.slice a3 S c3)) ⟨(Below.refl _ _).alloc (Nat.le_refl _) _, by go_simp⟩ ?_
  rintro W2 ⟨hB2, m0⟩
  have HB2 := Lib.hid (HB1.out.next hB2)
  refine (HA1.out W2 HB2.out).mono ?_
  rintro e w4 ⟨a4, c4, rfl, o4, b4⟩
  replace k0 := b4.keep (hB2.keep k0)
  replace j0 := b4.keep (hB2.keep j0)
  replace m0 := b4.keep m0
  have hq3 : w1.heap.size < w4.heap.size := World.block_lt_of_cell? w4 _ m0
  have HR4 := Lib.hid ((o4.mono HB2.out.size (Nat.le_refl _)).rd)
  have HR3' := Lib.hid (RdR.wide ((HR3.out.below hB2).below b4) (Nat.le_of_lt hq3))
  have HB4 := Lib.hid (HB2.out.next b4)
  have hw1s := HB1.out.size
  clear hB2 b4 o4 j1 HA1 HB2 HR3 HB1
  obtain ⟨Q3, hQ3⟩ : ∃ Q, Q = w1.heap.size := ⟨_, rfl⟩
  rw [← hQ3] at m0 hq3 hw1s hsz ⊢
  clear hQ3
  have k0d := ((Below.refl w4.heap.size w4).alloc (Nat.le_refl _) (.cells #[.slice a4 S c4] 22)).keep k0
  go_wp2_with fail
  refine calls_gen (fun W' => Below w4.heap.size w4 W' ∧ W'.cell? ⟨w4.heap.size, 0, none⟩ = some (.slice a4 S c4)) ⟨(Below.refl _ _).alloc (Nat.le_refl _) _, by go_simp⟩ ?_
  clear k0d
  rintro W5 ⟨hB5, n0⟩
  have hq4 : w4.heap.size < W5.heap.size := World.block_lt_of_cell? W5 _ n0
  refine (foundOf S w.heap.size (w.heap.size + 1) Q3 w4.heap.size W5).mono ?_
  rintro e w6 ⟨rfl, hw6⟩
  have hb6 : Below W5.heap.size W5 w6 := by rw [hw6]; exact (Below.refl _ _).alloc (Nat.le_refl _) _
  have x0 : w6.cell? ⟨W5.heap.size, 0, none⟩ = some (.int .i64 (S : Int)) := by rw [hw6]; go_simp
  have x1 : w6.cell? ⟨W5.heap.size, 1, none⟩ = some (.func (.func 68) #[] #[.pointer (some ⟨w.heap.size, 0, none⟩), .pointer (some ⟨w.heap.size + 1, 0, none⟩), .pointer (some ⟨Q3, 0, none⟩), .pointer (some ⟨w4.heap.size, 0, none⟩)]) := by rw [hw6]; go_simp
  have hb46 := hB5.next hb6
  have hs6 := hb46.size
  have hs65 := hb6.size
  have HF := Lib.hid (show Below w.heap.size w w6 ∧ (w.heap.size ≤ w.heap.size ∧ w.heap.size < w6.heap.size ∧ w.heap.size ≤ w.heap.size + 1 ∧ w.heap.size + 1 < w6.heap.size ∧ w.heap.size ≤ Q3 ∧ Q3 < w6.heap.size ∧ w.heap.size ≤ w4.heap.size ∧ w4.heap.size < w6.heap.size) ∧ w4.heap.size ≤ w6.heap.size ∧ EnvI S f g w.heap.size (w.heap.size + 1) Q3 w4.heap.size w.heap.size w4.heap.size a3 c3 a4 c4 w6 ∧ _ ∧ _ from
    ⟨HB4.out.next hb46, ⟨Nat.le_refl _, by omega, by omega, by omega, by omega, by omega, by omega, by omega⟩, hs6, ⟨hb46.keep k0, hb46.keep j0, hb46.keep m0, hb6.keep n0, HR3'.out.below hb46, HR4.out.below hb46⟩, x0, x1⟩)
  clear hw6 hb6 x0 x1 hb46 hB5 HR3' HR4 HB4 k0 j0 m0 n0
  go_wp2
  go_ret
  exact ⟨_, _, _, _, _, _, _, _, _, _, rfl, HF.out⟩

end Go.Proofs.YtnblhkhdilkbeaaDoor
