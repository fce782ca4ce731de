/- Merged: Base, SlI, MarkI, SlR, SlR2, OwR, MarkR, Graph, HeldR, RowsMore, Base2, OwP, OwP2, IsGraph, IsGraph2, IsGraph3, Row, RowR, RowG (the plain kit of these proofs). -/
import Derived.Test.YtnblhkhdilkbeaaDoorRows
import Derived.WalkKit
import Derived.WalkSpells
import Derived.WalkLawsBesides
import Derived.ProofKit
import Derived.SizedLaws
import Derived.Lib.Hide
import Derived.Deep.QuietTactic
import Derived.BigQuiet
import Derived.Deep.AppendLies
import Derived.IntWalk
import Derived.OpenShut
import Derived.Deep.Matrix
import Derived.Lib.SmallJoins
set_option linter.unusedSimpArgs false
set_option linter.unusedVariables false
/- What the proofs of this seat share: draws; worlds that agree outside a range of blocks; a slice value reads as a list of numbers, or owns it. -/
namespace Go.RowKit
theorem Below.drewN {B : Nat} {a w : World} (h : Below B a w) (n : Nat) : Below B a (w.drewN n) := ⟨h.os, h.tape, h.output, h.size, h.block⟩
theorem Below.next {w w1 w2 : World} (h : Below w.heap.size w w1) (k : Below w1.heap.size w1 w2) : Below w.heap.size w w2 := h.trans (k.mono h.size)

/-- only draws lie between two worlds -/
def Qt (w w' : World) : Prop := ∃ m, w' = w.drewN m
theorem Qt.refl (w : World) : Qt w w := ⟨0, rfl⟩
theorem Qt.drew {w a : World} (h : Qt w a) : Qt w a.drew := by obtain ⟨m, rfl⟩ := h; exact ⟨m+1, rfl⟩
theorem Qt.drewN {w a : World} (h : Qt w a) (n : Nat) : Qt w (a.drewN n) := by obtain ⟨m, rfl⟩ := h; exact ⟨m+n, World.drewN_drewN _ _ _⟩
theorem Qt.trans {w a b : World} (h : Qt w a) (k : Qt a b) : Qt w b := by obtain ⟨m, rfl⟩ := h; obtain ⟨n, rfl⟩ := k; exact ⟨m+n, World.drewN_drewN _ _ _⟩
theorem Qt.below {w a : World} (h : Qt w a) : Below w.heap.size w a := by obtain ⟨m, rfl⟩ := h; exact ⟨rfl, rfl, rfl, Nat.le_refl _, fun _ _ => rfl⟩
theorem Below.qt {w w1 w2 : World} (h : Below w.heap.size w w1) (k : Qt w1 w2) : Below w.heap.size w w2 := h.next k.below

theorem Below.keep {W w1 : World} (h : Below W.heap.size W w1) {p : Addr} {v : Value} (hc : W.cell? p = some v) : w1.cell? p = some v := (h.cell (World.block_lt_of_cell? W p hc)).trans hc
theorem Below.keepf {W w1 : World} (h : Below W.heap.size W w1) {p : Addr} (hp : p.block < W.heap.size) {b : Bool} (hc : W.frozen? p = b) : w1.frozen? p = b := (h.frozen hp).trans hc
theorem calls_gen {P : Program} {f : FuncId} {args : Array Value} {W : World} {Q : Ending → World → Prop} (S : World → Prop) (h : S W) (k : ∀ W', S W' → Calls P f args W' Q) : Calls P f args W Q := k W h

/-- of the blocks that were there only those from lo up to hi may have turned -/
structure Chg (lo hi : Nat) (w w' : World) : Prop where
  os : w'.os = w.os
  tape : w'.tape = w.tape
  output : w'.output = w.output
  size : w.heap.size ≤ w'.heap.size
  block : ∀ k, k < w.heap.size → (k < lo ∨ hi ≤ k) → w'.heap[k]? = w.heap[k]?
theorem Chg.refl (lo hi : Nat) (w : World) : Chg lo hi w w := ⟨rfl, rfl, rfl, Nat.le_refl _, fun _ _ _ => rfl⟩
theorem Chg.trans {lo hi : Nat} {a b c : World} (h : Chg lo hi a b) (k : Chg lo hi b c) : Chg lo hi a c :=
  ⟨k.os.trans h.os, k.tape.trans h.tape, k.output.trans h.output, Nat.le_trans h.size k.size, fun i hi h' => (k.block i (Nat.lt_of_lt_of_le hi h.size) h').trans (h.block i hi h')⟩
theorem Chg.mono {lo hi lo' hi' : Nat} {w w' : World} (h : Chg lo hi w w') (h1 : lo' ≤ lo) (h2 : hi ≤ hi') : Chg lo' hi' w w' :=
  ⟨h.os, h.tape, h.output, h.size, fun k hk h' => h.block k hk (by omega)⟩
theorem Below.chg {w w' : World} (h : Below w.heap.size w w') (lo hi : Nat) : Chg lo hi w w' := ⟨h.os, h.tape, h.output, h.size, fun k hk _ => h.block k hk⟩
theorem Qt.chg {w w' : World} (h : Qt w w') (lo hi : Nat) : Chg lo hi w w' := h.below.chg lo hi
theorem Qt.cell {w w' : World} (h : Qt w w') {p : Addr} {v : Value} (hc : w.cell? p = some v) : w'.cell? p = some v := by obtain ⟨m, rfl⟩ := h; exact hc
theorem Chg.below {lo hi B : Nat} {w w' : World} (h : Chg lo hi w w') (h1 : B ≤ lo) (h2 : B ≤ w.heap.size) : Below B w w' :=
  ⟨h.os, h.tape, h.output, h.size, fun k hk => h.block k (by omega) (by omega)⟩
theorem Below.chgn {B lo hi : Nat} {w w1 w2 : World} (h : Below B w w1) (k : Chg lo hi w1 w2) (h1 : B ≤ lo) (h2 : B ≤ w1.heap.size) : Below B w w2 := h.trans (k.below h1 h2)
theorem Chg.grown {w w' : World} {lo hi : Nat} {row : Option Nat} (h : w.grownBy w' row) (hr : ∀ k, row = some k → lo ≤ k ∧ k < hi) : Chg lo hi w w' :=
  ⟨h.os, h.tape, h.output, h.size, fun k hk h' => h.block k hk (fun e => by have := hr k e.symm; omega)⟩
theorem Chg.setCell {lo hi : Nat} {a w : World} (h : Chg lo hi a w) {p : Addr} (hp : lo ≤ p.block ∧ p.block < hi) (u : Value) : Chg lo hi a (w.setCell p u) :=
  h.trans ⟨rfl, rfl, rfl, by simp [World.setCell], fun k hk h' => Below.heap_setCell _ _ _ _ (by omega)⟩
theorem Chg.cell {lo hi : Nat} {w w' : World} (h : Chg lo hi w w') {p : Addr} {v : Value} (hc : w.cell? p = some v) (hp : p.block < lo ∨ hi ≤ p.block) : w'.cell? p = some v :=
  (World.cell?_of_block (w := w) (h.block p.block (World.block_lt_of_cell? w p hc) hp)).trans hc

theorem ownsRow_chg {w w' : World} {lo hi B e size n : Nat} {v : Value} {xs : List Value} (h : w.ownsRow B e size v n xs) (hg : Chg lo hi w w') (hne : ∀ k, v.ownBlock = some k → k < lo ∨ hi ≤ k) : w'.ownsRow B e size v n xs := by
  refine ⟨h.1, ?_⟩
  rcases h.2 with hn | ⟨g, cap, cur, rfl, hb, hgg, rest⟩
  · exact .inl hn
  · refine .inr ⟨g, cap, cur, rfl, hb, ?_, rest⟩
    rw [hg.block g (Array.getElem?_eq_some_iff.1 hgg).1 (hne g rfl)]
    exact hgg
end Go.RowKit
namespace Go.Proofs.YtnblhkhdilkbeaaDoor
open Go.RowKit

theorem Tryd.info2 : (Tryd.prog.info? 2).map (fun i => (i.zero, i.size, i.bytes)) = some (some (.int .i64 0), 1, 8) := by kernel_rfl

def I64 (x : Int) : Prop := -9223372036854775808 ≤ x ∧ x ≤ 9223372036854775807

/-- the slice value v reads as the list xs; its block lies from lo up to hi -/
def RdI (lo hi : Nat) (w : World) (v : Value) (xs : List Int) : Prop :=
  xs.length ≤ 17592186044416 ∧ (∀ x ∈ xs, I64 x) ∧
  ((∃ a cap, xs = [] ∧ v = .slice a 0 cap) ∨
  (∃ b off cap, v = .slice (some ⟨b, off, none⟩) xs.length cap ∧ 0 < xs.length ∧ lo ≤ b ∧ b < hi ∧
    ∀ j, j < xs.length → w.cell? ⟨b, off + j, none⟩ = some (.int .i64 (xs.getD j 0))))

theorem RdI.chg {lo hi lo' hi' : Nat} {w w' : World} {v : Value} {xs : List Int} (h : RdI lo hi w v xs) (hb : Chg lo' hi' w w') (hs : hi ≤ lo' ∨ hi' ≤ lo) : RdI lo hi w' v xs := by
  obtain ⟨h1, h2, h⟩ := h
  refine ⟨h1, h2, ?_⟩
  rcases h with h | ⟨b, off, cap, hv, h0, hlo, hhi, hc⟩
  · exact .inl h
  · exact .inr ⟨b, off, cap, hv, h0, hlo, hhi, fun j hj => hb.cell (hc j hj) (show b < lo' ∨ hi' ≤ b by omega)⟩
theorem RdI.below {lo hi : Nat} {w w' : World} {v : Value} {xs : List Int} (h : RdI lo hi w v xs) (hb : Below w.heap.size w w') : RdI lo hi w' v xs := h.chg (hb.chg 0 0) (.inr (Nat.zero_le _))
theorem RdI.qt {lo hi : Nat} {w w' : World} {v : Value} {xs : List Int} (h : RdI lo hi w v xs) (hq : Qt w w') : RdI lo hi w' v xs := h.below hq.below
theorem RdI.shape {lo hi : Nat} {w : World} {v : Value} {xs : List Int} (h : RdI lo hi w v xs) : ∃ a cap, v = .slice a xs.length cap := by
  obtain ⟨_, _, ⟨a, cap, rfl, h⟩ | ⟨b, off, cap, h, _⟩⟩ := h
  · exact ⟨a, cap, h⟩
  · exact ⟨_, cap, h⟩

/-- the slice value v owns the list xs, in a block from lo up to hi -/
def OwI (lo hi : Nat) (w : World) (v : Value) (xs : List Int) : Prop :=
  xs.length ≤ 17592186044416 ∧ (∀ x ∈ xs, I64 x) ∧ w.ownsRow lo 2 1 v xs.length (xs.map (Value.int .i64)) ∧ (∀ k, v.ownBlock = some k → k < hi)

theorem OwI.mk {lo n : Nat} {w : World} {v : Value} {xs : List Int} (h : w.ownsRow lo 2 1 v n (xs.map (Value.int .i64))) (h1 : n ≤ 17592186044416) (h2 : ∀ x ∈ xs, I64 x) : OwI lo w.heap.size w v xs := by
  have hn : xs.length = n := by have := h.1; simpa using this
  subst hn
  exact ⟨h1, h2, h, fun k hk => (h.lt k hk).2⟩

theorem OwI.rd {lo hi : Nat} {w : World} {v : Value} {xs : List Int} (h : OwI lo hi w v xs) : RdI lo hi w v xs := by
  obtain ⟨h1, h2, h3, hh⟩ := h
  refine ⟨h1, h2, ?_⟩
  have h3' := h3
  obtain ⟨_, h4⟩ := h3
  rcases h4 with ⟨h4, h5⟩ | ⟨g, cap, cur, hv, hg, hhp, hn, hcap, hsz, ht⟩
  · exact .inl ⟨none, 0, List.length_eq_zero_iff.1 h5, h4⟩
  · by_cases h0 : xs.length = 0
    · exact .inl ⟨some ⟨g, 0, none⟩, cap, List.length_eq_zero_iff.1 h0, by rw [hv, h0]⟩
    · subst hv
      refine .inr ⟨g, 0, cap, rfl, by omega, hg, hh g rfl, fun j hj => ?_⟩
      rw [Nat.zero_add, h3'.cellAt j (by omega)]
      simp [List.getD, List.getElem?_eq_getElem hj]

theorem OwI.chg {lo hi lo' hi' : Nat} {w w' : World} {v : Value} {xs : List Int} (h : OwI lo hi w v xs) (hb : Chg lo' hi' w w') (hs : hi ≤ lo' ∨ hi' ≤ lo) : OwI lo hi w' v xs :=
  ⟨h.1, h.2.1, ownsRow_chg h.2.2.1 hb (fun k hk => by have h1 := h.2.2.2 k hk; have h2 := (h.2.2.1.lt k hk).1; omega), h.2.2.2⟩
theorem OwI.below {lo hi : Nat} {w w' : World} {v : Value} {xs : List Int} (h : OwI lo hi w v xs) (hb : Below w.heap.size w w') : OwI lo hi w' v xs := h.chg (hb.chg 0 0) (.inr (Nat.zero_le _))
theorem OwI.qt {lo hi : Nat} {w w' : World} {v : Value} {xs : List Int} (h : OwI lo hi w v xs) (hq : Qt w w') : OwI lo hi w' v xs := h.below hq.below

end Go.Proofs.YtnblhkhdilkbeaaDoor

/- The laws' helpers on lists of numbers: copies, equality. -/
namespace Go.Proofs.YtnblhkhdilkbeaaDoor
open Go.RowKit

def setTo (xs : List Int) (k n : Nat) : List Value := (xs.take k ++ List.replicate (n - k) 0).map (Value.int .i64)

theorem setTo_zero (xs : List Int) (n : Nat) : (madeCells #[Value.int .i64 0] n).toList = setTo xs 0 n := by
  simp [setTo, toList_madeCells_one]

theorem setTo_all (xs : List Int) (n : Nat) (h : xs.length = n) : setTo xs n n = xs.map (Value.int .i64) := by
  simp [setTo, ← h]

theorem setTo_step (xs : List Int) (k n : Nat) (h : xs.length = n) (hk : k < n) : (setTo xs k n).set k (.int .i64 (xs.getD k 0)) = setTo xs (k+1) n := by
  apply List.ext_getElem?
  intro j
  simp only [setTo, List.getElem?_set, List.getElem?_map, List.getElem?_append, List.length_map, List.length_append, List.length_take, List.length_replicate, List.getElem?_take, List.getElem?_replicate, List.getD]
  have h1 : min k xs.length = k := by omega
  have h2 : min (k+1) xs.length = k+1 := by omega
  rw [h1, h2]
  by_cases e : k = j
  · subst e
    rw [if_pos rfl, if_pos (by omega), if_pos (by omega), if_pos (by omega), List.getElem?_eq_getElem (by omega)]
    simp
  · rw [if_neg e]
    by_cases e2 : j < k
    · simp [e2, show j < k + 1 by omega]
    · by_cases e3 : j < n
      · rw [if_neg e2, if_pos (by omega), if_neg (by omega), if_pos (by omega)]
      · rw [if_neg e2, if_neg (by omega), if_neg (by omega), if_neg (by omega)]

theorem setTo_get (xs : List Int) (k n : Nat) (h : xs.length = n) (hk : k < n) : (setTo xs k n)[k]? = some (.int .i64 0) := by
  simp only [setTo, List.getElem?_map, List.getElem?_append, List.length_take, List.getElem?_replicate]
  have h1 : min k xs.length = k := by omega
  rw [h1, if_neg (by omega), if_pos (by omega)]
  rfl

theorem toI_ne (n b off cap : Nat) (xs : List Int) (w : World) (hn : n ≤ 17592186044416) (hx : xs.length = n) (hb : b < w.heap.size)
    (hc : ∀ j, j < n → w.cell? ⟨b, off + j, none⟩ = some (.int .i64 (xs.getD j 0))) :
    Calls Tryd.prog 52 #[.slice (some ⟨b, off, none⟩) n cap] w fun e w' => ∃ v, e = .returned v ∧ w'.ownsRow w.heap.size 2 1 v n (xs.map (Value.int .i64)) ∧ Below w.heap.size w w' := by
  obtain ⟨i0, hi, hz0, hz1, hz2⟩ := info_parts Tryd.info2
  have HX := Lib.hid hx
  have HC := Lib.hid hc
  clear hx hc
  go_enter Tryd.func52, Tryd.ntmps52
  go_wp2_with (at_make; refine wpList_make_full _ rfl _ _ 25 rfl w.heap.size 2 i0 (.int .i64 0) 1 Tryd.underlying25 hi hz0 hz1 _ _ _ _ n rfl rfl rfl rfl ?c1 ?c2 ?c3 ?_)
  case c1 => rw [hz2]; omega
  case c2 => unfold maxLen; omega
  case c3 => exact Nat.le_refl _
  intro w1 hown hgr
  rw [setTo_zero xs n] at hown
  have hbl : Below w.heap.size w w1 := (Below.refl _ _).grown hgr (Nat.le_refl _) (by simp)
  clear hgr
  go_wp2
  go_loopw [4] (fun i wr => ∃ k : Nat, k ≤ n ∧ i = .int .i64 k ∧ wr.ownsRow w.heap.size 2 1 (.slice (some ⟨w.heap.size, 0, none⟩) n n) n (setTo xs k n) ∧ Below w.heap.size w wr) (fun i _ => n - (intOf i).toNat)
  case atStart => exact ⟨0, Nat.zero_le _, rfl, hown, hbl⟩
  case round =>
    clear hown hbl
    obtain ⟨k, hk, rfl, hown, hbl⟩ := hrel
    by_cases hlt : k < n
    · obtain ⟨x, hx⟩ : ∃ x, x = xs.getD k 0 := ⟨_, rfl⟩
      have h1 := (hbl.cell (p := ⟨b, off + k, none⟩) hb).trans (HC.out k hlt)
      have h2 := (hown.cellAt k (by omega)).trans (setTo_get xs k n HX.out hlt)
      have h3 := hown.frozenAt k
      have hst := hown.stored k (.int .i64 x)
      rw [← hx] at h1
      have Hx := Lib.hid hx
      clear hx
      go_wp2
      go_roundw
      case rel => exact ⟨k+1, by omega, by go_num, by rw [← setTo_step xs k n HX.out hlt, ← Hx.out]; exact hst.1, hbl.setCell (Nat.le_refl _) _⟩
      case measure => simp [intOf]; omega
    · go_wp2
      go_ret
      obtain rfl : k = n := by omega
      rw [setTo_all xs k HX.out] at hown
      exact ⟨_, rfl, hown, hbl⟩

theorem toI_nil (a : Option Addr) (cap : Nat) (w : World) :
    Calls Tryd.prog 52 #[.slice a 0 cap] w fun e w' => ∃ v, e = .returned v ∧ w'.ownsRow w.heap.size 2 1 v 0 [] ∧ Below w.heap.size w w' := by
  obtain ⟨i0, hi, hz0, hz1, hz2⟩ := info_parts Tryd.info2
  go_enter Tryd.func52, Tryd.ntmps52
  go_wp2_with (at_make; refine wpList_make_full _ rfl _ _ 25 rfl w.heap.size 2 i0 (.int .i64 0) 1 Tryd.underlying25 hi hz0 hz1 _ _ _ _ 0 rfl rfl rfl rfl ?c1 ?c2 ?c3 ?_)
  case c1 => omega
  case c2 => unfold maxLen; omega
  case c3 => exact Nat.le_refl _
  intro w1 hown hgr
  have hbl : Below w.heap.size w w1 := (Below.refl _ _).grown hgr (Nat.le_refl _) (by simp)
  clear hgr
  have e0 : (madeCells #[Value.int .i64 0] 0).toList = [] := by rw [toList_madeCells_one]; rfl
  rw [e0] at hown
  go_wp2
  refine wp_loop_rounds 1 ?_
  rw [rounds_succ]
  go_wp2
  go_ret
  exact ⟨_, rfl, hown, hbl⟩

theorem toI {lo hi : Nat} (v : Value) (xs : List Int) (w : World) (h : RdI lo hi w v xs) :
    Calls Tryd.prog 52 #[v] w fun e w' => ∃ a c, e = .returned (.slice a xs.length c) ∧ OwI w.heap.size w'.heap.size w' (.slice a xs.length c) xs ∧ Below w.heap.size w w' := by
  obtain ⟨h1, h2, h⟩ := h
  have fin : ∀ (e : Ending) (w' : World) v', e = .returned v' → OwI w.heap.size w'.heap.size w' v' xs → Below w.heap.size w w' → ∃ a c, e = .returned (.slice a xs.length c) ∧ OwI w.heap.size w'.heap.size w' (.slice a xs.length c) xs ∧ Below w.heap.size w w' := by
    intro e w' v' he ho hb
    obtain ⟨a, c, hv⟩ := ho.rd.shape
    subst hv
    exact ⟨a, c, he, ho, hb⟩
  rcases h with ⟨a, cap, rfl, rfl⟩ | ⟨b, off, cap, rfl, h0, hlo, hhi, hc⟩
  · exact (toI_nil a cap w).mono fun e w' ⟨v', he, ho, hb⟩ => fin e w' v' he (.mk ho h1 h2) hb
  · exact (toI_ne xs.length b off cap xs w h1 rfl (World.block_lt_of_cell? w _ (hc 0 h0)) hc).mono fun e w' ⟨v', he, ho, hb⟩ => fin e w' v' he (.mk ho h1 h2) hb

/-- eqInt64S: both read as lists -/
def eqB (xs ys : List Int) : Bool := decide (xs = ys)

theorem eqB_take {xs ys : List Int} {k : Nat} (hl : xs.length = ys.length) (h : xs.take k = ys.take k) (hk : xs.length ≤ k) : eqB xs ys = true := by
  simp only [eqB, decide_eq_true_eq]
  rw [List.take_of_length_le hk, List.take_of_length_le (by omega)] at h
  exact h
theorem eqB_ne {xs ys : List Int} {k : Nat} (h : xs.getD k 0 ≠ ys.getD k 0) : eqB xs ys = false := by
  simp only [eqB, decide_eq_false_iff_not]
  intro e; subst e; exact h rfl
theorem take_step {xs ys : List Int} {k : Nat} (hl : xs.length = ys.length) (hk : k < xs.length) (h : xs.take k = ys.take k) (e : xs.getD k 0 = ys.getD k 0) : xs.take (k+1) = ys.take (k+1) := by
  rw [List.take_add_one, List.take_add_one, h]
  simp [List.getD, List.getElem?_eq_getElem hk, List.getElem?_eq_getElem (hl ▸ hk)] at e
  simp [List.getElem?_eq_getElem hk, List.getElem?_eq_getElem (hl ▸ hk), e]

theorem eq_ne (n : Nat) (b off cap b' off' cap' : Nat) (xs ys : List Int) (w : World) (hn : n ≤ 140737488355328) (hx : xs.length = n) (hy : ys.length = n)
    (hc : ∀ j, j < n → w.cell? ⟨b, off + j, none⟩ = some (.int .i64 (xs.getD j 0)))
    (hc' : ∀ j, j < n → w.cell? ⟨b', off' + j, none⟩ = some (.int .i64 (ys.getD j 0))) :
    Calls Tryd.prog 16 #[.slice (some ⟨b, off, none⟩) n cap, .slice (some ⟨b', off', none⟩) n cap'] w fun e w' => e = .returned (.bool (eqB xs ys)) ∧ Qt w w' := by
  have HX := Lib.hid hx
  have HY := Lib.hid hy
  have HC := Lib.hid hc
  have HC' := Lib.hid hc'
  clear hx hy hc hc'
  go_enter Tryd.func16, Tryd.ntmps16
  go_wp2
  go_loopw [5] (fun i wr => ∃ k m : Nat, k ≤ n ∧ i = .int .i64 k ∧ wr = w.drewN m ∧ xs.take k = ys.take k) (fun i _ => n - (intOf i).toNat)
  case atStart => exact ⟨0, 0, Nat.zero_le _, rfl, rfl, rfl⟩
  case round =>
    obtain ⟨k, m, hk, rfl, rfl, ht⟩ := hrel
    have HT := Lib.hid ht
    clear ht
    by_cases hlt : k < n
    · obtain ⟨x, hx⟩ : ∃ x, x = xs.getD k 0 := ⟨_, rfl⟩
      obtain ⟨y, hy⟩ : ∃ y, y = ys.getD k 0 := ⟨_, rfl⟩
      have h1 := HC.out k hlt
      have h2 := HC'.out k hlt
      rw [← hx] at h1
      rw [← hy] at h2
      have Hx := Lib.hid hx
      have Hy := Lib.hid hy
      clear hx hy
      go_wp2
      go_quiet (fail)
      go_wp2
      · go_ret
        have h : (x != y) = true := by assumption
        exact ⟨by rw [eqB_ne (k := k) (by rw [← Hx.out, ← Hy.out]; simpa using h)]; rfl, ((Qt.refl _).drewN _).drewN _⟩
      · have h : (x != y) = false := by assumption
        go_roundw
        case rel => exact ⟨k+1, _, by omega, by go_num, rfl, take_step (HX.out.trans HY.out.symm) (by rw [HX.out]; exact hlt) HT.out (by rw [← Hx.out, ← Hy.out]; simpa using h)⟩
        case measure => simp [intOf]; omega
    · go_wp2
      go_ret
      exact ⟨by rw [eqB_take (HX.out.trans HY.out.symm) HT.out (by rw [HX.out]; omega)]; rfl, (Qt.refl _).drewN _⟩


theorem eq_any (a a' : Option Addr) (n n' cap cap' : Nat) (h : n ≠ n') (w : World) (hn : n ≤ 17592186044416) (hn' : n' ≤ 17592186044416) :
    Calls Tryd.prog 16 #[.slice a n cap, .slice a' n' cap'] w fun e w' => e = .returned (.bool false) ∧ Qt w w' := by
  have h' : ((n : Int) != n') = true := by simp; omega
  go_enter Tryd.func16, Tryd.ntmps16
  go_wp2
  go_ret
  exact ⟨rfl, Qt.refl _⟩

theorem eq_nil (a a' : Option Addr) (cap cap' : Nat) (w : World) :
    Calls Tryd.prog 16 #[.slice a 0 cap, .slice a' 0 cap'] w fun e w' => e = .returned (.bool true) ∧ Qt w w' := by
  go_enter Tryd.func16, Tryd.ntmps16
  go_wp2
  refine wp_loop_rounds 1 ?_
  rw [rounds_succ]
  go_wp2
  go_ret
  exact ⟨rfl, Qt.refl _⟩

theorem eqI {lo hi lo' hi' : Nat} (v v' : Value) (xs ys : List Int) (w : World) (h : RdI lo hi w v xs) (h' : RdI lo' hi' w v' ys) :
    Calls Tryd.prog 16 #[v, v'] w fun e w' => e = .returned (.bool (eqB xs ys)) ∧ Qt w w' := by
  by_cases hl : xs.length = ys.length
  · by_cases h0 : xs.length = 0
    · obtain ⟨a, cap, rfl⟩ := h.shape
      obtain ⟨a', cap', rfl⟩ := h'.shape
      rw [← hl, h0]
      refine (eq_nil a a' cap cap' w).mono fun e w' ⟨he, hw⟩ => ⟨?_, hw⟩
      have e1 := List.length_eq_zero_iff.1 h0
      have e2 := List.length_eq_zero_iff.1 (hl ▸ h0)
      rw [he, e1, e2]; rfl
    · obtain ⟨h1, _, ⟨a, cap, rfl, h⟩ | ⟨b, off, cap, rfl, _, _, _, hc⟩⟩ := h
      · simp at h0
      · obtain ⟨h1', _, ⟨a', cap', rfl, h'⟩ | ⟨b', off', cap', rfl, _, _, _, hc'⟩⟩ := h'
        · simp at hl; simp [hl] at h0
        · rw [← hl]
          exact eq_ne xs.length b off cap b' off' cap' xs ys w (by omega) rfl hl.symm hc (fun j hj => hc' j (by omega))
  · obtain ⟨a, cap, rfl⟩ := h.shape
    obtain ⟨a', cap', rfl⟩ := h'.shape
    refine (eq_any a a' _ _ cap cap' hl w h.1 h'.1).mono fun e w' ⟨he, hw⟩ => ⟨?_, hw⟩
    have : eqB xs ys = false := by simp only [eqB, decide_eq_false_iff_not]; intro e; exact hl (by rw [e])
    rw [he, this]

theorem eqB_self (xs : List Int) : eqB xs xs = true := by simp [eqB]

theorem eqI1 {lo hi lo' hi' : Nat} (v v' : Value) (xs : List Int) (w : World) (h : RdI lo hi w v xs) (h' : RdI lo' hi' w v' xs) :
    Calls Tryd.prog 16 #[v, v'] w fun e w' => e = .returned (.bool true) ∧ Qt w w' :=
  (eqI v v' xs xs w h h').mono fun e w' ⟨he, hq⟩ => ⟨by rw [he, eqB_self], hq⟩

end Go.Proofs.YtnblhkhdilkbeaaDoor

/- The laws' helpers on lists of numbers: marks are written, and are still there. -/
namespace Go.Proofs.YtnblhkhdilkbeaaDoor
open Go.RowKit

/-- k, k + 1, .. -/
def marks (k : Int) (n : Nat) : List Int := (List.range n).map (fun i : Nat => k + (i : Int))
theorem marks_len (k : Int) (n : Nat) : (marks k n).length = n := by simp [marks]
theorem marks_get {k : Int} {n j : Nat} (h : j < n) : (marks k n).getD j 0 = k + j := by
  simp [marks, List.getD, h]

def markTo (xs : List Int) (k : Int) (j : Nat) : List Value := (xs.mapIdx (fun i x => if i < j then k + (i : Int) else x)).map (Value.int .i64)
theorem markTo_zero (xs : List Int) (k : Int) : markTo xs k 0 = xs.map (Value.int .i64) := by
  unfold markTo
  congr 1
  apply List.ext_getElem?
  intro i
  simp
theorem markTo_all (xs : List Int) (k : Int) (n : Nat) (h : xs.length = n) : markTo xs k n = (marks k n).map (Value.int .i64) := by
  unfold markTo marks
  congr 1
  apply List.ext_getElem?
  intro i
  by_cases hi : i < n
  · have : i < xs.length := by omega
    simp [hi, List.getElem?_eq_getElem this]
  · have : xs.length ≤ i := by omega
    simp [hi, List.getElem?_eq_none this]
theorem markTo_step (xs : List Int) (k : Int) (n j : Nat) (h : xs.length = n) (hj : j < n) : (markTo xs k j).set j (.int .i64 (k + j)) = markTo xs k (j+1) := by
  unfold markTo
  apply List.ext_getElem?
  intro i
  have hl : j < xs.length := by omega
  by_cases e : j = i
  · subst e
    simp [List.getElem?_set, hl]
  · by_cases e2 : i < j
    · simp [List.getElem?_set, e, e2, show i < j + 1 by omega]
    · simp [List.getElem?_set, e, e2, show ¬ i < j + 1 by omega]
theorem markTo_get (xs : List Int) (k : Int) (n j : Nat) (h : xs.length = n) (hj : j < n) : ∃ x, (markTo xs k j)[j]? = some (.int .i64 x) := by
  have hl : j < xs.length := by omega
  exact ⟨xs[j], by simp [markTo, hl]⟩

theorem markI_ne (n g cap : Nat) (xs : List Int) (k : Int) (w : World) (hn : n ≤ 17592186044416) (hk0 : 0 ≤ k) (hk1 : k ≤ 35184372088832) (hx : xs.length = n)
    (lo hi : Nat) (hlo : lo ≤ g) (hhi : g < hi) (ho : w.ownsRow lo 2 1 (.slice (some ⟨g, 0, none⟩) n cap) n (xs.map (Value.int .i64))) :
    Calls Tryd.prog 19 #[.slice (some ⟨g, 0, none⟩) n cap, .int .i64 k] w fun e w' => e = .returned (.int .i64 (k + n)) ∧
      w'.ownsRow lo 2 1 (.slice (some ⟨g, 0, none⟩) n cap) n ((marks k n).map (Value.int .i64)) ∧ Chg lo hi w w' := by
  have HX := Lib.hid hx
  clear hx
  rw [← markTo_zero xs k] at ho
  go_enter Tryd.func19, Tryd.ntmps19
  go_wp2
  go_loopw [1, 5] (fun kk i wr => ∃ j : Nat, j ≤ n ∧ i = .int .i64 j ∧ kk = .int .i64 (k + j) ∧ wr.ownsRow lo 2 1 (.slice (some ⟨g, 0, none⟩) n cap) n (markTo xs k j) ∧ Chg lo hi w wr) (fun _ i _ => n - (intOf i).toNat)
  case atStart => exact ⟨0, Nat.zero_le _, rfl, by simp, ho, Chg.refl _ _ _⟩
  case round =>
    clear ho
    obtain ⟨j, hj, rfl, rfl, hown, hch⟩ := hrel
    by_cases hlt : j < n
    · obtain ⟨x, hx⟩ := markTo_get xs k n j HX.out hlt
      have h2 := (hown.cellAt j (by omega)).trans hx
      have h3 := hown.frozenAt j
      have hst := hown.stored j (.int .i64 (k + j))
      clear hx
      go_wp2
      go_roundw
      case rel => exact ⟨j+1, by omega, by go_num, by congr 1; omega, by rw [← markTo_step xs k n j HX.out hlt]; exact hst.1, hch.setCell ⟨hlo, hhi⟩ _⟩
      case measure => simp [intOf]; omega
    · go_wp2
      go_ret
      obtain rfl : j = n := by omega
      rw [markTo_all xs k j HX.out] at hown
      exact ⟨rfl, hown, hch⟩

theorem markI_nil (a : Option Addr) (cap : Nat) (k : Int) (w : World) :
    Calls Tryd.prog 19 #[.slice a 0 cap, .int .i64 k] w fun e w' => e = .returned (.int .i64 k) ∧ w = w' := by
  go_enter Tryd.func19, Tryd.ntmps19
  go_wp2
  refine wp_loop_rounds 1 ?_
  rw [rounds_succ]
  go_wp2
  go_ret
  exact ⟨rfl, rfl⟩

theorem markI {lo hi : Nat} (v : Value) (xs : List Int) (k : Int) (w : World) (h : OwI lo hi w v xs) (hk0 : 0 ≤ k) (hk1 : k ≤ 35184372088832) :
    Calls Tryd.prog 19 #[v, .int .i64 k] w fun e w' => e = .returned (.int .i64 (k + xs.length)) ∧ OwI lo hi w' v (marks k xs.length) ∧ Chg lo hi w w' := by
  obtain ⟨h1, h2, h3, hh⟩ := h
  have hI : ∀ x ∈ marks k xs.length, I64 x := by
    intro x hx
    simp only [marks, List.mem_map, List.mem_range] at hx
    obtain ⟨i, hi, rfl⟩ := hx
    unfold I64; omega
  have h3' := h3
  obtain ⟨_, h4⟩ := h3
  rcases h4 with ⟨h4, h5⟩ | ⟨g, cap, cur, hv, hg, hhp, hn, hcap, hsz, ht⟩
  · have e := List.length_eq_zero_iff.1 h5
    subst e
    subst h4
    refine (markI_nil none 0 k w).mono fun e w' ⟨he, hw⟩ => ⟨by rw [he]; simp, ?_, by rw [← hw]; exact Chg.refl _ _ _⟩
    rw [← hw]
    exact ⟨by simp [marks], by simp [marks], by simpa [marks] using h3', hh⟩
  · subst hv
    refine (markI_ne xs.length g cap xs k w h1 hk0 hk1 rfl lo hi hg (hh g rfl) h3').mono fun e w' ⟨he, ho, hc⟩ => ⟨he, ?_, hc⟩
    exact ⟨by rw [marks_len]; exact h1, hI, by rw [marks_len]; exact ho, hh⟩

theorem heldI_ne (n b off cap : Nat) (k : Int) (w : World) (hn : n ≤ 17592186044416) (hk0 : 0 ≤ k) (hk1 : k ≤ 35184372088832)
    (hc : ∀ j, j < n → w.cell? ⟨b, off + j, none⟩ = some (.int .i64 ((marks k n).getD j 0))) :
    Calls Tryd.prog 20 #[.slice (some ⟨b, off, none⟩) n cap, .int .i64 k] w fun e w' => e = .returned (.int .i64 (k + n)) ∧ Qt w w' := by
  have HC := Lib.hid hc
  clear hc
  go_enter Tryd.func20, Tryd.ntmps20
  go_wp2
  go_loopw [1, 5] (fun kk i wr => ∃ j : Nat, j ≤ n ∧ i = .int .i64 j ∧ kk = .int .i64 (k + j) ∧ Qt w wr) (fun _ i _ => n - (intOf i).toNat)
  case atStart => exact ⟨0, Nat.zero_le _, rfl, by simp, Qt.refl _⟩
  case round =>
    obtain ⟨j, hj, rfl, rfl, ⟨m, rfl⟩⟩ := hrel
    by_cases hlt : j < n
    · have h2 := HC.out j hlt
      rw [marks_get hlt] at h2
      go_wp2
      go_roundw
      case rel => exact ⟨j+1, by omega, by go_num, by congr 1; omega, (Qt.refl _).drewN _⟩
      case measure => simp [intOf]; omega
    · go_wp2
      go_ret
      obtain rfl : j = n := by omega
      exact ⟨rfl, (Qt.refl _).drewN _⟩

theorem heldI_nil (a : Option Addr) (cap : Nat) (k : Int) (w : World) :
    Calls Tryd.prog 20 #[.slice a 0 cap, .int .i64 k] w fun e w' => e = .returned (.int .i64 k) ∧ Qt w w' := by
  go_enter Tryd.func20, Tryd.ntmps20
  go_wp2
  refine wp_loop_rounds 1 ?_
  rw [rounds_succ]
  go_wp2
  go_ret
  exact ⟨rfl, Qt.refl _⟩

theorem heldI {lo hi : Nat} (v : Value) (n : Nat) (k : Int) (w : World) (h : RdI lo hi w v (marks k n)) (hk0 : 0 ≤ k) (hk1 : k ≤ 35184372088832) :
    Calls Tryd.prog 20 #[v, .int .i64 k] w fun e w' => e = .returned (.int .i64 (k + n)) ∧ Qt w w' := by
  obtain ⟨h1, h2, h⟩ := h
  rw [marks_len] at h1 h
  rcases h with ⟨a, cap, hx, rfl⟩ | ⟨b, off, cap, rfl, h0, hlo, hhi, hc⟩
  · have : n = 0 := by have := marks_len k n; rw [hx] at this; simpa using this.symm
    subst this
    exact (heldI_nil a cap k w).mono fun e w' ⟨he, hq⟩ => ⟨by rw [he]; simp, hq⟩
  · exact heldI_ne n b off cap k w h1 hk0 hk1 hc

end Go.Proofs.YtnblhkhdilkbeaaDoor

/- The laws' helpers on lists of lists of numbers: what they read and own; sizes, copies, equality. -/
namespace Go.Proofs.YtnblhkhdilkbeaaDoor
open Go.RowKit

theorem Tryd.info25 : (Tryd.prog.info? 25).map (fun i => (i.zero, i.size, i.bytes)) = some (some (.slice none 0 0), 1, 24) := by kernel_rfl

/-- a slice value's list of slice values; each reads as a list -/
def RdR (lo hi : Nat) (w : World) (v : Value) (xss : List (List Int)) : Prop :=
  xss.length ≤ 8796093022208 ∧
  ((∃ a cap, xss = [] ∧ v = .slice a 0 cap) ∨
  (∃ b off cap, v = .slice (some ⟨b, off, none⟩) xss.length cap ∧ 0 < xss.length ∧ lo ≤ b ∧ b < hi ∧
    ∀ j, j < xss.length → ∃ rv, w.cell? ⟨b, off + j, none⟩ = some rv ∧ RdI lo hi w rv (xss.getD j [])))

theorem RdR.chg {lo hi lo' hi' : Nat} {w w' : World} {v : Value} {xs : List (List Int)} (h : RdR lo hi w v xs) (hb : Chg lo' hi' w w') (hs : hi ≤ lo' ∨ hi' ≤ lo) : RdR lo hi w' v xs := by
  obtain ⟨h1, h⟩ := h
  refine ⟨h1, ?_⟩
  rcases h with h | ⟨b, off, cap, hv, h0, hlo, hhi, hc⟩
  · exact .inl h
  · exact .inr ⟨b, off, cap, hv, h0, hlo, hhi, fun j hj => by
      obtain ⟨rv, h1, h2⟩ := hc j hj
      exact ⟨rv, hb.cell h1 (show b < lo' ∨ hi' ≤ b by omega), h2.chg hb hs⟩⟩
theorem RdR.below {lo hi : Nat} {w w' : World} {v : Value} {xs : List (List Int)} (h : RdR lo hi w v xs) (hb : Below w.heap.size w w') : RdR lo hi w' v xs := h.chg (hb.chg 0 0) (.inr (Nat.zero_le _))
theorem RdR.qt {lo hi : Nat} {w w' : World} {v : Value} {xs : List (List Int)} (h : RdR lo hi w v xs) (hq : Qt w w') : RdR lo hi w' v xs := h.below hq.below
theorem RdR.shape {lo hi : Nat} {w : World} {v : Value} {xs : List (List Int)} (h : RdR lo hi w v xs) : ∃ a cap, v = .slice a xs.length cap := by
  obtain ⟨_, ⟨a, cap, rfl, h⟩ | ⟨b, off, cap, h, _⟩⟩ := h
  · exact ⟨a, cap, h⟩
  · exact ⟨_, cap, h⟩

theorem szI (v : Value) (xs : List Int) {lo hi : Nat} (l : Int) (h0 : 0 ≤ l) (h1 : l ≤ 1048576) (w : World) (h : RdI lo hi w v xs) :
    Calls Tryd.prog 48 #[v, .int .i64 l] w fun e w' => e = .returned (.int .i64 (if l < xs.length then -1 else l - xs.length)) ∧ Qt w w' := by
  obtain ⟨a, cap, rfl⟩ := h.shape
  have hn := h.1
  clear h
  generalize xs.length = n at *
  by_cases h : l < n
  · rw [if_pos h]
    go_enter Tryd.func48, Tryd.ntmps48
    go_wp2
    go_ret
    exact ⟨rfl, Qt.refl _⟩
  · rw [if_neg h]
    go_enter Tryd.func48, Tryd.ntmps48
    go_wp2
    go_ret
    exact ⟨rfl, Qt.refl _⟩

def lens (xss : List (List Int)) : Nat := (xss.map List.length).sum
theorem lens_step {xss : List (List Int)} {j : Nat} (h : j < xss.length) : lens (xss.take (j+1)) = lens (xss.take j) + (xss.getD j []).length := by
  unfold lens
  rw [List.take_add_one, List.getElem?_eq_getElem h, List.map_append, List.sum_append]
  simp [List.getD, List.getElem?_eq_getElem h]

/-- the size that is left, or -1 -/
def SzP (l : Int) (n : Nat) (r : Int) : Prop := r = -1 ∨ (0 ≤ r ∧ r + n = l)
def SzQ (l : Int) (n : Nat) (e : Ending) : Prop := ∃ r, SzP l n r ∧ e = .returned (.int .i64 r)

theorem szR_ne (n b off cap : Nat) (xss : List (List Int)) {lo hi : Nat} (l : Int) (h0 : 0 ≤ l) (h1 : l ≤ 1048576) (w : World) (hn : n ≤ 8796093022208) (hx : xss.length = n)
    (hc : ∀ j, j < n → ∃ rv, w.cell? ⟨b, off + j, none⟩ = some rv ∧ RdI lo hi w rv (xss.getD j [])) :
    Calls Tryd.prog 29 #[.slice (some ⟨b, off, none⟩) n cap, .int .i64 l] w fun e w' => SzQ l (n + lens xss) e ∧ Qt w w' := by
  have HX := Lib.hid hx
  have HC := Lib.hid hc
  clear hx hc
  by_cases hb : l < n
  · go_enter Tryd.func29, Tryd.ntmps29
    go_wp2
    go_ret
    exact ⟨⟨_, .inl rfl, rfl⟩, Qt.refl _⟩
  · go_enter Tryd.func29, Tryd.ntmps29
    go_wp2
    go_loopw [1, 5] (fun r i wr => ∃ (j : Nat) (q : Int), j ≤ n ∧ i = .int .i64 j ∧ r = .int .i64 q ∧ 0 ≤ q ∧ q + n + lens (xss.take j) = l ∧ Qt w wr) (fun _ i _ => n - (intOf i).toNat)
    case atStart => exact ⟨0, l - n, Nat.zero_le _, rfl, rfl, by omega, by simp [lens], Qt.refl _⟩
    case round =>
      obtain ⟨j, q, hj, rfl, rfl, hq, hs, ⟨m, rfl⟩⟩ := hrel
      have HS := Lib.hid hs
      have hq2 : q ≤ 1048576 := by omega
      clear hs
      by_cases hlt : j < n
      · obtain ⟨rv, hc1, hr1⟩ := HC.out j hlt
        have hst := lens_step (xss := xss) (j := j) (by rw [HX.out]; exact hlt)
        generalize hys : xss.getD j [] = ys at *
        have HST := Lib.hid hst
        have HYS := Lib.hid hys
        clear hst hys
        by_cases hl : q < ys.length
        · go_wp2_with (go_at_call 48; refine (szI _ _ _ hq hq2 _ (hr1.qt ((Qt.refl _).drewN _))).mono ?_; rintro e w' ⟨rfl, ⟨m', rfl⟩⟩; rw [if_pos hl])
          go_ret
          exact ⟨⟨_, .inl rfl, rfl⟩, (Qt.refl _).drewN _⟩
        · go_wp2_with (go_at_call 48; refine (szI _ _ _ hq hq2 _ (hr1.qt ((Qt.refl _).drewN _))).mono ?_; rintro e w' ⟨rfl, ⟨m', rfl⟩⟩; rw [if_neg hl])
          go_roundw
          case rel => exact ⟨j+1, q - ys.length, by omega, by go_num, rfl, by omega, by rw [HST.out]; have := HS.out; omega, (Qt.refl _).drewN _⟩
          case measure => simp [intOf]; omega
      · go_wp2
        go_ret
        obtain rfl : j = n := by omega
        have := HS.out
        rw [List.take_of_length_le (by rw [HX.out]; exact Nat.le_refl _)] at this
        exact ⟨⟨q, .inr ⟨hq, by omega⟩, rfl⟩, (Qt.refl _).drewN _⟩

theorem szR_nil (a : Option Addr) (cap : Nat) (l : Int) (h0 : 0 ≤ l) (h1 : l ≤ 1048576) (w : World) :
    Calls Tryd.prog 29 #[.slice a 0 cap, .int .i64 l] w fun e w' => e = .returned (.int .i64 l) ∧ Qt w w' := by
  go_enter Tryd.func29, Tryd.ntmps29
  go_wp2
  refine wp_loop_rounds 1 ?_
  rw [rounds_succ]
  go_wp2
  go_ret
  exact ⟨rfl, Qt.refl _⟩

theorem szR {lo hi : Nat} (v : Value) (xss : List (List Int)) (l : Int) (h0 : 0 ≤ l) (h1 : l ≤ 1048576) (w : World) (h : RdR lo hi w v xss) :
    Calls Tryd.prog 29 #[v, .int .i64 l] w fun e w' => SzQ l (xss.length + lens xss) e ∧ Qt w w' := by
  obtain ⟨h2, h⟩ := h
  rcases h with ⟨a, cap, rfl, rfl⟩ | ⟨b, off, cap, rfl, h3, hlo, hhi, hc⟩
  · exact (szR_nil a cap l h0 h1 w).mono fun e w' ⟨he, hq⟩ => ⟨⟨l, .inr ⟨h0, by simp [lens]⟩, he⟩, hq⟩
  · exact szR_ne xss.length b off cap xss l h0 h1 w h2 rfl hc

end Go.Proofs.YtnblhkhdilkbeaaDoor

/- The laws' helpers on lists of lists of numbers: equality, copies. -/
namespace Go.Proofs.YtnblhkhdilkbeaaDoor
open Go.RowKit

def eqRB (xs ys : List (List Int)) : Bool := decide (xs = ys)
theorem eqRB_self (xs : List (List Int)) : eqRB xs xs = true := by simp [eqRB]
theorem eqRB_take {xs ys : List (List Int)} {k : Nat} (hl : xs.length = ys.length) (h : xs.take k = ys.take k) (hk : xs.length ≤ k) : eqRB xs ys = true := by
  simp only [eqRB, decide_eq_true_eq]
  rw [List.take_of_length_le hk, List.take_of_length_le (by omega)] at h
  exact h
theorem eqRB_ne {xs ys : List (List Int)} {k : Nat} (h : eqB (xs.getD k []) (ys.getD k []) = false) : eqRB xs ys = false := by
  simp only [eqRB, decide_eq_false_iff_not]
  intro e; subst e; rw [eqB_self] at h; cases h
theorem takeR_step {xs ys : List (List Int)} {k : Nat} (hl : xs.length = ys.length) (hk : k < xs.length) (h : xs.take k = ys.take k) (e : eqB (xs.getD k []) (ys.getD k []) = true) : xs.take (k+1) = ys.take (k+1) := by
  simp only [eqB, decide_eq_true_eq] at e
  rw [List.take_add_one, List.take_add_one, h]
  simp [List.getD, List.getElem?_eq_getElem hk, List.getElem?_eq_getElem (hl ▸ hk)] at e
  simp [List.getElem?_eq_getElem hk, List.getElem?_eq_getElem (hl ▸ hk), e]

theorem eqR_ne (n : Nat) (b off cap b' off' cap' : Nat) (xs ys : List (List Int)) {lo hi lo' hi' : Nat} (w : World) (hn : n ≤ 8796093022208) (hx : xs.length = n) (hy : ys.length = n)
    (hc : ∀ j, j < n → ∃ rv, w.cell? ⟨b, off + j, none⟩ = some rv ∧ RdI lo hi w rv (xs.getD j []))
    (hc' : ∀ j, j < n → ∃ rv, w.cell? ⟨b', off' + j, none⟩ = some rv ∧ RdI lo' hi' w rv (ys.getD j [])) :
    Calls Tryd.prog 37 #[.slice (some ⟨b, off, none⟩) n cap, .slice (some ⟨b', off', none⟩) n cap'] w fun e w' => e = .returned (.bool (eqRB xs ys)) ∧ Qt w w' := by
  have HX := Lib.hid hx
  have HY := Lib.hid hy
  have HC := Lib.hid hc
  have HC' := Lib.hid hc'
  clear hx hy hc hc'
  go_enter Tryd.func37, Tryd.ntmps37
  go_wp2
  go_loopw [5] (fun i wr => ∃ k : Nat, k ≤ n ∧ i = .int .i64 k ∧ Qt w wr ∧ xs.take k = ys.take k) (fun i _ => n - (intOf i).toNat)
  case atStart => exact ⟨0, Nat.zero_le _, rfl, Qt.refl _, rfl⟩
  case round =>
    obtain ⟨k, hk, rfl, hq, ht⟩ := hrel
    have HT := Lib.hid ht
    clear ht
    by_cases hlt : k < n
    · obtain ⟨rv, h1, r1⟩ := HC.out k hlt
      obtain ⟨rv', h2, r2⟩ := HC'.out k hlt
      replace h1 := hq.cell h1
      replace h2 := hq.cell h2
      replace r1 := r1.qt hq
      replace r2 := r2.qt hq
      generalize hx : xs.getD k [] = x at *
      generalize hy : ys.getD k [] = y at *
      have Hx := Lib.hid hx
      have Hy := Lib.hid hy
      clear hx hy
      go_wp2
      go_quiet ((go_at_call 16; exact Calls.quiet_of (eqI _ _ _ _ _ (r1.qt ((Qt.refl _).drewN _)) (r2.qt ((Qt.refl _).drewN _)))))
      generalize hbb : eqB x y = bb
      have Hbb := Lib.hid hbb
      clear hbb
      cases bb with
      | false =>
        go_wp2
        go_ret
        exact ⟨by rw [eqRB_ne (k := k) (by rw [Hx.out, Hy.out, Hbb.out])]; rfl, hq.drewN _⟩
      | true =>
        go_wp2
        go_roundw
        case rel => exact ⟨k+1, by omega, by go_num, hq.drewN _, takeR_step (HX.out.trans HY.out.symm) (by rw [HX.out]; exact hlt) HT.out (by rw [Hx.out, Hy.out, Hbb.out])⟩
        case measure => simp [intOf]; omega
    · go_wp2
      go_ret
      exact ⟨by rw [eqRB_take (HX.out.trans HY.out.symm) HT.out (by rw [HX.out]; omega)]; rfl, hq⟩

theorem eqR_any (a a' : Option Addr) (n n' cap cap' : Nat) (h : n ≠ n') (w : World) (hn : n ≤ 8796093022208) (hn' : n' ≤ 8796093022208) :
    Calls Tryd.prog 37 #[.slice a n cap, .slice a' n' cap'] w fun e w' => e = .returned (.bool false) ∧ Qt w w' := by
  have h' : ((n : Int) != n') = true := by simp; omega
  go_enter Tryd.func37, Tryd.ntmps37
  go_wp2
  go_ret
  exact ⟨rfl, Qt.refl _⟩

theorem eqR_nil (a a' : Option Addr) (cap cap' : Nat) (w : World) :
    Calls Tryd.prog 37 #[.slice a 0 cap, .slice a' 0 cap'] w fun e w' => e = .returned (.bool true) ∧ Qt w w' := by
  go_enter Tryd.func37, Tryd.ntmps37
  go_wp2
  refine wp_loop_rounds 1 ?_
  rw [rounds_succ]
  go_wp2
  go_ret
  exact ⟨rfl, Qt.refl _⟩

theorem eqR {lo hi lo' hi' : Nat} (v v' : Value) (xs ys : List (List Int)) (w : World) (h : RdR lo hi w v xs) (h' : RdR lo' hi' w v' ys) :
    Calls Tryd.prog 37 #[v, v'] w fun e w' => e = .returned (.bool (eqRB xs ys)) ∧ Qt w w' := by
  by_cases hl : xs.length = ys.length
  · by_cases h0 : xs.length = 0
    · obtain ⟨a, cap, rfl⟩ := h.shape
      obtain ⟨a', cap', rfl⟩ := h'.shape
      rw [← hl, h0]
      refine (eqR_nil a a' cap cap' w).mono fun e w' ⟨he, hw⟩ => ⟨?_, hw⟩
      have e1 := List.length_eq_zero_iff.1 h0
      have e2 := List.length_eq_zero_iff.1 (hl ▸ h0)
      rw [he, e1, e2]; rfl
    · obtain ⟨h1, ⟨a, cap, rfl, h⟩ | ⟨b, off, cap, rfl, _, _, _, hc⟩⟩ := h
      · simp at h0
      · obtain ⟨h1', ⟨a', cap', rfl, h'⟩ | ⟨b', off', cap', rfl, _, _, _, hc'⟩⟩ := h'
        · simp at hl; simp [hl] at h0
        · rw [← hl]
          exact eqR_ne xs.length b off cap b' off' cap' xs ys w (by omega) rfl hl.symm hc (fun j hj => hc' j (by omega))
  · obtain ⟨a, cap, rfl⟩ := h.shape
    obtain ⟨a', cap', rfl⟩ := h'.shape
    refine (eqR_any a a' _ _ cap cap' hl w h.1 h'.1).mono fun e w' ⟨he, hw⟩ => ⟨?_, hw⟩
    have : eqRB xs ys = false := by simp only [eqRB, decide_eq_false_iff_not]; intro e; exact hl (by rw [e])
    rw [he, this]

theorem eqR1 {lo hi lo' hi' : Nat} (v v' : Value) (xs : List (List Int)) (w : World) (h : RdR lo hi w v xs) (h' : RdR lo' hi' w v' xs) :
    Calls Tryd.prog 37 #[v, v'] w fun e w' => e = .returned (.bool true) ∧ Qt w w' :=
  (eqR v v' xs xs w h h').mono fun e w' ⟨he, hq⟩ => ⟨by rw [he, eqRB_self], hq⟩

end Go.Proofs.YtnblhkhdilkbeaaDoor

/- Lists of lists of numbers that the call owns: each row in a block of its own. Copies, marks. -/
namespace Go.Proofs.YtnblhkhdilkbeaaDoor
open Go.RowKit

/-- two slices lie in two blocks -/
def Dj (v v' : Value) : Prop := ∀ k, v.ownBlock = some k → v'.ownBlock ≠ some k

theorem OwI.chg' {lo hi lo' hi' : Nat} {w w' : World} {v : Value} {xs : List Int} (h : OwI lo hi w v xs) (hb : Chg lo' hi' w w') (hs : ∀ k, v.ownBlock = some k → k < lo' ∨ hi' ≤ k) : OwI lo hi w' v xs :=
  ⟨h.1, h.2.1, ownsRow_chg h.2.2.1 hb hs, h.2.2.2⟩
theorem OwI.mono {lo hi lo' hi' : Nat} {w : World} {v : Value} {xs : List Int} (h : OwI lo hi w v xs) (h1 : lo' ≤ lo) (h2 : hi ≤ hi') : OwI lo' hi' w v xs := by
  obtain ⟨a, b, ⟨c, d⟩, e⟩ := h
  refine ⟨a, b, ⟨c, ?_⟩, fun k hk => by have := e k hk; omega⟩
  rcases d with d | ⟨g, cap, cur, hv, hg, r⟩
  · exact .inl d
  · exact .inr ⟨g, cap, cur, hv, by omega, r⟩
theorem OwI.narrow {lo hi k : Nat} {w : World} {v : Value} {xs : List Int} (h : OwI lo hi w v xs) (hk : v.ownBlock = some k ∨ v.ownBlock = none) : OwI k (k+1) w v xs := by
  obtain ⟨a, b, ⟨c, d⟩, e⟩ := h
  rcases d with d | ⟨g, cap, cur, rfl, hg, r⟩
  · exact ⟨a, b, ⟨c, .inl d⟩, fun j hj => by rw [d.1] at hj; simp [Value.ownBlock] at hj⟩
  · have : g = k := by simpa [Value.ownBlock] using hk
    subst this
    exact ⟨a, b, ⟨c, .inr ⟨g, cap, cur, rfl, Nat.le_refl _, r⟩⟩, fun j hj => by simp [Value.ownBlock] at hj; omega⟩
theorem OwI.blk {lo hi : Nat} {w : World} {v : Value} {xs : List Int} (h : OwI lo hi w v xs) (k : Nat) (hk : v.ownBlock = some k) : lo ≤ k ∧ k < hi ∧ k < w.heap.size :=
  ⟨(h.2.2.1.lt k hk).1, h.2.2.2 k hk, (h.2.2.1.lt k hk).2⟩

/-- the rows of a list, each owned, no two in one block -/
structure Rows1 (lo hi : Nat) (w : World) (rvs : List Value) (xss : List (List Int)) : Prop where
  len : rvs.length = xss.length
  own : ∀ j, j < xss.length → OwI lo hi w (rvs.getD j (.slice none 0 0)) (xss.getD j [])
  dj : ∀ i j, i < j → j < xss.length → Dj (rvs.getD i (.slice none 0 0)) (rvs.getD j (.slice none 0 0))

def OwR (lo hi : Nat) (w : World) (v : Value) (xss : List (List Int)) : Prop :=
  xss.length ≤ 8796093022208 ∧ (∀ k, v.ownBlock = some k → k < hi) ∧
  ∃ rvs, w.ownsRow lo 25 1 v xss.length rvs ∧ Rows1 lo hi w rvs xss ∧ ∀ j, j < xss.length → Dj v (rvs.getD j (.slice none 0 0))

theorem OwR.rd {lo hi : Nat} {w : World} {v : Value} {xss : List (List Int)} (h : OwR lo hi w v xss) : RdR lo hi w v xss := by
  obtain ⟨h1, hh, rvs, h3, hr, hd⟩ := h
  refine ⟨h1, ?_⟩
  have h3' := h3
  obtain ⟨_, h4⟩ := h3
  rcases h4 with ⟨h4, h5⟩ | ⟨g, cap, cur, hv, hg, hhp, hn, hcap, hsz, ht⟩
  · exact .inl ⟨none, 0, List.length_eq_zero_iff.1 h5, h4⟩
  · by_cases h0 : xss.length = 0
    · exact .inl ⟨some ⟨g, 0, none⟩, cap, List.length_eq_zero_iff.1 h0, by rw [hv, h0]⟩
    · subst hv
      refine .inr ⟨g, 0, cap, rfl, by omega, hg, hh g rfl, fun j hj => ⟨rvs.getD j (.slice none 0 0), ?_, (hr.own j hj).rd⟩⟩
      rw [Nat.zero_add, h3'.cellAt j (by omega)]
      have : j < rvs.length := by rw [hr.len]; exact hj
      simp [List.getD, List.getElem?_eq_getElem this]

theorem Rows1.chg {lo hi lo' hi' : Nat} {w w' : World} {rvs : List Value} {xss : List (List Int)} (h : Rows1 lo hi w rvs xss) (hb : Chg lo' hi' w w') (hs : hi ≤ lo' ∨ hi' ≤ lo) : Rows1 lo hi w' rvs xss :=
  ⟨h.len, fun j hj => (h.own j hj).chg hb hs, h.dj⟩
theorem OwR.chg {lo hi lo' hi' : Nat} {w w' : World} {v : Value} {xss : List (List Int)} (h : OwR lo hi w v xss) (hb : Chg lo' hi' w w') (hs : hi ≤ lo' ∨ hi' ≤ lo) : OwR lo hi w' v xss := by
  obtain ⟨h1, hh, rvs, h3, hr, hd⟩ := h
  exact ⟨h1, hh, rvs, ownsRow_chg h3 hb (fun k hk => by have h1 := hh k hk; have h2 := (h3.lt k hk).1; omega), hr.chg hb hs, hd⟩
theorem OwR.below {lo hi : Nat} {w w' : World} {v : Value} {xss : List (List Int)} (h : OwR lo hi w v xss) (hb : Below w.heap.size w w') : OwR lo hi w' v xss := h.chg (hb.chg 0 0) (.inr (Nat.zero_le _))
theorem OwR.qt {lo hi : Nat} {w w' : World} {v : Value} {xss : List (List Int)} (h : OwR lo hi w v xss) (hq : Qt w w') : OwR lo hi w' v xss := h.below hq.below

theorem OwR.mono {lo hi lo' hi' : Nat} {w : World} {v : Value} {xss : List (List Int)} (h : OwR lo hi w v xss) (h1 : lo' ≤ lo) (h2 : hi ≤ hi') : OwR lo' hi' w v xss := by
  obtain ⟨a, b, rvs, ⟨c, d⟩, r, e⟩ := h
  refine ⟨a, fun k hk => by have := b k hk; omega, rvs, ⟨c, ?_⟩, ⟨r.len, fun j hj => (r.own j hj).mono h1 h2, r.dj⟩, e⟩
  rcases d with d | ⟨g, cap, cur, hv, hg, rr⟩
  · exact .inl d
  · exact .inr ⟨g, cap, cur, hv, by omega, rr⟩

/-- one row more, in a block that no other has -/
theorem Rows1.snoc {lo hi : Nat} {w : World} {rvs : List Value} {xss : List (List Int)} {v : Value} {xs : List Int} (h : Rows1 lo hi w rvs xss) (hv : OwI lo hi w v xs) (hd : ∀ j, j < xss.length → Dj (rvs.getD j (.slice none 0 0)) v) :
    Rows1 lo hi w (rvs ++ [v]) (xss ++ [xs]) := by
  have hl := h.len
  refine ⟨by simp [hl], fun j hj => ?_, fun i j hij hj => ?_⟩
  · rw [List.length_append] at hj
    by_cases e : j < xss.length
    · have := h.own j e
      simp only [List.getD] at this ⊢
      rw [List.getElem?_append_left (by omega), List.getElem?_append_left (by omega)]; exact this
    · obtain rfl : j = xss.length := by simp at hj; omega
      simp only [List.getD]
      rw [List.getElem?_append_right (by omega), List.getElem?_append_right (by omega), hl]
      simpa using hv
  · rw [List.length_append] at hj
    have hi : i < xss.length := by simp at hj; omega
    by_cases e : j < xss.length
    · have := h.dj i j hij e
      simp only [List.getD] at this ⊢
      rw [List.getElem?_append_left (by omega), List.getElem?_append_left (by omega)]; exact this
    · obtain rfl : j = xss.length := by simp at hj; omega
      have := hd i hi
      simp only [List.getD] at this ⊢
      rw [List.getElem?_append_left (by omega), List.getElem?_append_right (by omega), hl]
      simpa using this

/-- copies: the first j rows, the others nil -/
def setR (rvs : List Value) (n : Nat) : List Value := rvs ++ List.replicate (n - rvs.length) (.slice none 0 0)
theorem setR_zero (n : Nat) : (madeCells #[Value.slice none 0 0] n).toList = setR [] n := by
  simp [setR, toList_madeCells_one]
theorem setR_get (rvs : List Value) (n j : Nat) (h : rvs.length = j) (hj : j < n) : (setR rvs n)[j]? = some (.slice none 0 0) := by
  unfold setR
  rw [List.getElem?_append_right (by omega), List.getElem?_replicate, if_pos (by omega)]
theorem setR_step (rvs : List Value) (v : Value) (n j : Nat) (h : rvs.length = j) (hj : j < n) : (setR rvs n).set j v = setR (rvs ++ [v]) n := by
  subst h
  have e : n - rvs.length = (n - (rvs.length + 1)) + 1 := by omega
  unfold setR
  rw [List.length_append, e, List.replicate_succ]
  simp

theorem toR_ne (n b off cap : Nat) (xss : List (List Int)) (lo hi : Nat) (w : World) (hn : n ≤ 8796093022208) (hx : xss.length = n) (hhi : hi ≤ w.heap.size)
    (hc : ∀ j, j < n → ∃ rv, w.cell? ⟨b, off + j, none⟩ = some rv ∧ RdI lo hi w rv (xss.getD j [])) (hbb : b < w.heap.size) :
    Calls Tryd.prog 32 #[.slice (some ⟨b, off, none⟩) n cap] w fun e w' => ∃ v, e = .returned v ∧ OwR w.heap.size w'.heap.size w' v xss ∧ Below w.heap.size w w' := by
  obtain ⟨i0, hi', hz0, hz1, hz2⟩ := info_parts Tryd.info25
  have HX := Lib.hid hx
  have HC := Lib.hid hc
  clear hx hc
  go_enter Tryd.func32, Tryd.ntmps32
  go_wp2_with (at_make; refine wpList_make_full _ rfl _ _ 22 rfl w.heap.size 25 i0 (.slice none 0 0) 1 Tryd.underlying22 hi' hz0 hz1 _ _ _ _ n rfl rfl rfl rfl ?c1 ?c2 ?c3 ?_)
  case c1 => rw [hz2]; omega
  case c2 => unfold maxLen; omega
  case c3 => exact Nat.le_refl _
  intro w1 hown hgr
  rw [setR_zero n] at hown
  have hbl : Below w.heap.size w w1 := (Below.refl _ _).grown hgr (Nat.le_refl _) (by simp)
  have hsz : w.heap.size < w1.heap.size := (hown.lt _ rfl).2
  clear hgr
  go_wp2
  go_loopw [4] (fun i wr => ∃ (k : Nat) (rvs : List Value), k ≤ n ∧ i = .int .i64 k ∧ wr.ownsRow w.heap.size 25 1 (.slice (some ⟨w.heap.size, 0, none⟩) n n) n (setR rvs n) ∧ Rows1 (w.heap.size + 1) wr.heap.size wr rvs (xss.take k) ∧ rvs.length = k ∧ Below w.heap.size w wr ∧ w.heap.size < wr.heap.size) (fun i _ => n - (intOf i).toNat)
  case atStart => exact ⟨0, [], Nat.zero_le _, rfl, hown, ⟨rfl, fun j hj => by simp at hj, fun i j hij hj => by simp at hj⟩, rfl, hbl, hsz⟩
  case round =>
    clear hown hbl hsz
    obtain ⟨k, rvs, hk, rfl, hown, hrows, hlen, hbl, hsz⟩ := hrel
    have HL := Lib.hid hlen
    clear hlen
    by_cases hlt : k < n
    · obtain ⟨rv, h1, r1⟩ := HC.out k hlt
      replace h1 := (hbl.cell (p := ⟨b, off + k, none⟩) hbb).trans h1
      replace r1 : RdI lo hi wr rv (xss.getD k []) := r1.chg (lo' := w.heap.size) (hi' := w.heap.size) (w := w) ⟨hbl.os, hbl.tape, hbl.output, hbl.size, fun j hj _ => hbl.block j hj⟩ (.inl hhi)
      go_wp2_with fail
      refine (toI _ _ _ r1).mono ?_
      rintro e w2 ⟨a2, c2, rfl, o2, b2⟩
      generalize hys : xss.getD k [] = ys at *
      have HYS := Lib.hid hys
      clear hys
      obtain ⟨v2, hv2⟩ : ∃ v2, v2 = Value.slice a2 ys.length c2 := ⟨_, rfl⟩
      have HV2 := Lib.hid hv2
      rw [← hv2] at o2
      clear hv2
      have hb2 : Below w.heap.size w w2 := hbl.trans (b2.mono (by omega))
      have hown2 := ownsRow_chg hown (b2.chg 0 0) (fun _ _ => .inr (Nat.zero_le _))
      have h2 := (hown2.cellAt k (by omega)).trans (setR_get rvs n k HL.out hlt)
      have h3 := hown2.frozenAt k
      have hst := hown2.stored k v2
      rw [setR_step rvs v2 n k HL.out hlt] at hst
      have hs2 := b2.size
      have hrows2 := hrows.chg (b2.chg 0 0) (.inr (Nat.zero_le _))
      clear hown hrows hown2
      go_wp2
      go_roundw
      case rel =>
        rw [← HV2.out]
        refine ⟨k+1, rvs ++ [v2], by omega, by go_num, hst.1, ?_, by simp [HL.out], hb2.setCell (Nat.le_refl _) _, by simp [World.setCell]; omega⟩
        have hch : Chg w.heap.size (w.heap.size + 1) w2 (w2.setCell ⟨w.heap.size, k, none⟩ v2) := (Chg.refl w.heap.size (w.heap.size + 1) w2).setCell (p := ⟨w.heap.size, k, none⟩) ⟨Nat.le_refl _, Nat.lt_succ_self _⟩ v2
        have e1 : xss.take (k+1) = xss.take k ++ [ys] := by
          rw [← HYS.out]
          rw [List.take_add_one, List.getElem?_eq_getElem (by rw [HX.out]; exact hlt)]
          simp [List.getD, List.getElem?_eq_getElem (show k < xss.length by rw [HX.out]; exact hlt)]
        rw [e1]
        have hz : (w2.setCell ⟨w.heap.size, k, none⟩ v2).heap.size = w2.heap.size := by simp [World.setCell]
        rw [hz]
        refine Rows1.snoc ?_ ?_ ?_
        · have := hrows2.chg hch (.inr (Nat.le_refl _))
          exact ⟨this.len, fun j hj => (this.own j hj).mono (Nat.le_refl _) hs2, this.dj⟩
        · exact (o2.chg hch (.inr (by omega))).mono (by omega) (Nat.le_refl _)
        · intro j hj q hq hq2
          have h1 := (hrows2.own j hj).blk q hq
          have h2 := o2.blk q hq2
          omega
      case measure => simp [intOf]; omega
    · go_wp2
      go_ret
      obtain rfl : k = n := by omega
      have e1 : xss.take k = xss := List.take_of_length_le (by rw [HX.out]; exact Nat.le_refl _)
      have e2 : setR rvs k = rvs := by simp [setR, HL.out]
      rw [e1] at hrows
      rw [e2] at hown
      refine ⟨_, rfl, ⟨by rw [HX.out]; exact hn, fun q hq => ?_, rvs, by rw [HX.out]; exact hown, ⟨hrows.len, fun j hj => (hrows.own j hj).mono (by omega) (Nat.le_refl _), hrows.dj⟩, fun j hj q hq hq2 => ?_⟩, hbl⟩
      · exact (hown.lt q hq).2
      · have h1 := (hrows.own j hj).blk q hq2
        have h2 : q = w.heap.size := by
          have : Value.ownBlock (.slice (some ⟨w.heap.size, 0, none⟩) k k) = some q := hq
          simp [Value.ownBlock] at this; omega
        omega

theorem toR_nil (a : Option Addr) (cap : Nat) (w : World) :
    Calls Tryd.prog 32 #[.slice a 0 cap] w fun e w' => ∃ v, e = .returned v ∧ w'.ownsRow w.heap.size 25 1 v 0 [] ∧ Below w.heap.size w w' := by
  obtain ⟨i0, hi, hz0, hz1, hz2⟩ := info_parts Tryd.info25
  go_enter Tryd.func32, Tryd.ntmps32
  go_wp2_with (at_make; refine wpList_make_full _ rfl _ _ 22 rfl w.heap.size 25 i0 (.slice none 0 0) 1 Tryd.underlying22 hi hz0 hz1 _ _ _ _ 0 rfl rfl rfl rfl ?c1 ?c2 ?c3 ?_)
  case c1 => omega
  case c2 => unfold maxLen; omega
  case c3 => exact Nat.le_refl _
  intro w1 hown hgr
  have hbl : Below w.heap.size w w1 := (Below.refl _ _).grown hgr (Nat.le_refl _) (by simp)
  clear hgr
  have e0 : (madeCells #[Value.slice none 0 0] 0).toList = [] := by rw [toList_madeCells_one]; rfl
  rw [e0] at hown
  go_wp2
  refine wp_loop_rounds 1 ?_
  rw [rounds_succ]
  go_wp2
  go_ret
  exact ⟨_, rfl, hown, hbl⟩

theorem OwR.nil {lo hi : Nat} {w : World} {v : Value} (h : w.ownsRow lo 25 1 v 0 []) (hh : w.heap.size ≤ hi) : OwR lo hi w v [] :=
  ⟨by simp, fun k hk => by have := (h.lt k hk).2; omega, [], h, ⟨rfl, fun j hj => by simp at hj, fun i j hij hj => by simp at hj⟩, fun j hj => by simp at hj⟩

theorem toR {lo hi : Nat} (v : Value) (xss : List (List Int)) (w : World) (h : RdR lo hi w v xss) (hhi : hi ≤ w.heap.size) :
    Calls Tryd.prog 32 #[v] w fun e w' => ∃ a c, e = .returned (.slice a xss.length c) ∧ OwR w.heap.size w'.heap.size w' (.slice a xss.length c) xss ∧ Below w.heap.size w w' := by
  have fin : ∀ (e : Ending) (w' : World) v', e = .returned v' → OwR w.heap.size w'.heap.size w' v' xss → Below w.heap.size w w' → ∃ a c, e = .returned (.slice a xss.length c) ∧ OwR w.heap.size w'.heap.size w' (.slice a xss.length c) xss ∧ Below w.heap.size w w' := by
    intro e w' v' he ho hb
    obtain ⟨a, c, hv⟩ := ho.rd.shape
    subst hv
    exact ⟨a, c, he, ho, hb⟩
  obtain ⟨h1, h⟩ := h
  rcases h with ⟨a, cap, rfl, rfl⟩ | ⟨b, off, cap, rfl, h0, hlo, hb, hc⟩
  · exact (toR_nil a cap w).mono fun e w' ⟨v', he, ho, hb⟩ => fin e w' v' he (.nil ho (Nat.le_refl _)) hb
  · exact (toR_ne xss.length b off cap xss lo hi w h1 rfl hhi hc (by omega)).mono fun e w' ⟨v', he, ho, hb⟩ => fin e w' v' he ho hb

end Go.Proofs.YtnblhkhdilkbeaaDoor

/- The laws' helpers on lists of lists of numbers: marks are written, and are still there. -/
namespace Go.Proofs.YtnblhkhdilkbeaaDoor
open Go.RowKit

/-- the marks of the rows: they go on from row to row -/
def marksR (k : Int) (xss : List (List Int)) : List (List Int) := (List.range xss.length).map (fun j => marks (k + (lens (xss.take j) : Int)) (xss.getD j []).length)
theorem marksR_len (k : Int) (xss : List (List Int)) : (marksR k xss).length = xss.length := by simp [marksR]
theorem marksR_get {k : Int} {xss : List (List Int)} {j : Nat} (h : j < xss.length) : (marksR k xss).getD j [] = marks (k + (lens (xss.take j) : Int)) (xss.getD j []).length := by
  simp [marksR, List.getD, h]
theorem lens_le (xss : List (List Int)) (j : Nat) : lens (xss.take j) ≤ lens xss := by
  have e : xss = xss.take j ++ xss.drop j := (List.take_append_drop j xss).symm
  have : lens xss = lens (xss.take j) + lens (xss.drop j) := by
    conv => lhs; rw [e]
    rw [lens, List.map_append, List.sum_append]
    rfl
  omega

/-- after j rows: these bear their marks, the others are as they were -/
def markRTo (k : Int) (xss : List (List Int)) (j : Nat) : List (List Int) := (List.range xss.length).map (fun i => if i < j then (marksR k xss).getD i [] else xss.getD i [])
theorem markRTo_len (k : Int) (xss : List (List Int)) (j : Nat) : (markRTo k xss j).length = xss.length := by simp [markRTo]
theorem markRTo_get {k : Int} {xss : List (List Int)} {i j : Nat} (h : i < xss.length) : (markRTo k xss j).getD i [] = if i < j then (marksR k xss).getD i [] else xss.getD i [] := by
  simp only [markRTo, List.getD, List.getElem?_map, List.getElem?_range h]
  rfl
theorem list_ext_getD {xs ys : List (List Int)} (hl : xs.length = ys.length) (h : ∀ i, i < xs.length → xs.getD i [] = ys.getD i []) : xs = ys := by
  apply List.ext_getElem hl
  intro i h1 h2
  have := h i h1
  simpa [List.getD, List.getElem?_eq_getElem h1, List.getElem?_eq_getElem h2] using this
theorem markRTo_zero (k : Int) (xss : List (List Int)) : markRTo k xss 0 = xss :=
  list_ext_getD (markRTo_len _ _ _) (fun i hi => by rw [markRTo_get (by rw [markRTo_len] at hi; exact hi)]; simp)
theorem markRTo_all (k : Int) (xss : List (List Int)) : markRTo k xss xss.length = marksR k xss :=
  list_ext_getD (by rw [markRTo_len, marksR_len]) (fun i hi => by rw [markRTo_len] at hi; rw [markRTo_get hi, if_pos hi])

/-- one row turns -/
theorem Rows1.mark {lo hi b : Nat} {w w' : World} {rvs : List Value} {k : Int} {xss : List (List Int)} {j : Nat} (h : Rows1 lo hi w rvs (markRTo k xss j)) (hj : j < xss.length)
    (ho : OwI lo hi w' (rvs.getD j (.slice none 0 0)) ((marksR k xss).getD j [])) (hch : Chg b (b+1) w w') (hb : (rvs.getD j (.slice none 0 0)).ownBlock = some b ∨ w' = w) : Rows1 lo hi w' rvs (markRTo k xss (j+1)) := by
  have hl : (markRTo k xss (j+1)).length = xss.length := markRTo_len _ _ _
  have hl' : (markRTo k xss j).length = xss.length := markRTo_len _ _ _
  refine ⟨by rw [h.len, hl, hl'], fun i hi => ?_, fun i i' hii hi => h.dj i i' hii (by omega)⟩
  rw [hl] at hi
  rw [markRTo_get hi]
  by_cases e : i = j
  · subst e
    rw [if_pos (by omega)]; exact ho
  · have hown := h.own i (by omega)
    rw [markRTo_get hi] at hown
    have e2 : (if i < j + 1 then (marksR k xss).getD i [] else xss.getD i []) = (if i < j then (marksR k xss).getD i [] else xss.getD i []) := by
      by_cases e3 : i < j
      · rw [if_pos e3, if_pos (by omega)]
      · rw [if_neg e3, if_neg (by omega)]
    rw [e2]
    rcases hb with hb | hb
    · refine hown.chg' hch (fun q hq => ?_)
      have hne : q ≠ b := by
        intro e4; subst e4
        rcases Nat.lt_or_gt_of_ne e with e5 | e5
        · exact h.dj i j e5 (by omega) q hq hb
        · exact h.dj j i e5 (by omega) q hb hq
      omega
    · rw [hb]; exact hown

theorem OwI.mark_any {lo hi : Nat} {w : World} {v : Value} {xs : List Int} (h : OwI lo hi w v xs) : ∃ b, (v.ownBlock = some b ∧ lo ≤ b ∧ b < hi) ∨ (v.ownBlock = none ∧ b = lo) := by
  cases e : v.ownBlock with
  | none => exact ⟨lo, .inr ⟨rfl, rfl⟩⟩
  | some b => exact ⟨b, .inl ⟨rfl, (h.blk b e).1, (h.blk b e).2.1⟩⟩

/-- marks: only the row's own block turns -/
theorem markI' {lo hi : Nat} (v : Value) (xs : List Int) (k : Int) (w : World) (h : OwI lo hi w v xs) (hk0 : 0 ≤ k) (hk1 : k ≤ 35184372088832) :
    Calls Tryd.prog 19 #[v, .int .i64 k] w fun e w' => e = .returned (.int .i64 (k + xs.length)) ∧ OwI lo hi w' v (marks k xs.length) ∧ Chg lo hi w w' ∧ (∃ b, Chg b (b+1) w w' ∧ (v.ownBlock = some b ∨ w' = w)) := by
  cases e : v.ownBlock with
  | some b =>
    have hb := h.blk b e
    refine (markI v xs k w (h.narrow (.inl e)) hk0 hk1).mono fun e' w' ⟨h1, h2, h3⟩ => ⟨h1, h2.mono hb.1 hb.2.1, h3.mono hb.1 hb.2.1, b, h3, .inl rfl⟩
  | none =>
    obtain ⟨h1, h2, h3, hh⟩ := h
    have h3' := h3
    obtain ⟨_, h4⟩ := h3
    rcases h4 with ⟨h4, h5⟩ | ⟨g, cap, cur, hv, hg, hhp, hn, hcap, hsz, ht⟩
    · have e := List.length_eq_zero_iff.1 h5
      subst e
      subst h4
      refine (markI_nil none 0 k w).mono fun e w' ⟨he, hw⟩ => ?_
      subst hw
      exact ⟨by rw [he]; simp, ⟨by simp [marks], by simp [marks], by simpa [marks] using h3', hh⟩, Chg.refl _ _ _, 0, Chg.refl _ _ _, .inr rfl⟩
    · subst hv
      simp [Value.ownBlock] at e

theorem markR_ne (n g cap : Nat) (xss : List (List Int)) (rvs : List Value) (k : Int) (w : World) (hn : n ≤ 8796093022208) (hk0 : 0 ≤ k) (hk1 : k + lens xss ≤ 17592186044416) (hx : xss.length = n)
    (lo hi : Nat) (ho : w.ownsRow lo 25 1 (.slice (some ⟨g, 0, none⟩) n cap) n rvs) (hr : Rows1 lo hi w rvs xss) (hd : ∀ j, j < n → Dj (.slice (some ⟨g, 0, none⟩) n cap) (rvs.getD j (.slice none 0 0))) :
    Calls Tryd.prog 38 #[.slice (some ⟨g, 0, none⟩) n cap, .int .i64 k] w fun e w' => e = .returned (.int .i64 (k + lens xss)) ∧
      w'.ownsRow lo 25 1 (.slice (some ⟨g, 0, none⟩) n cap) n rvs ∧ Rows1 lo hi w' rvs (marksR k xss) ∧ Chg lo hi w w' := by
  have HX := Lib.hid hx
  have HD := Lib.hid hd
  clear hx hd
  rw [← markRTo_zero k xss] at hr
  go_enter Tryd.func38, Tryd.ntmps38
  go_wp2
  go_loopw [1, 5] (fun kk i wr => ∃ j : Nat, j ≤ n ∧ i = .int .i64 j ∧ kk = .int .i64 (k + (lens (xss.take j) : Int)) ∧ wr.ownsRow lo 25 1 (.slice (some ⟨g, 0, none⟩) n cap) n rvs ∧ Rows1 lo hi wr rvs (markRTo k xss j) ∧ Chg lo hi w wr) (fun _ i _ => n - (intOf i).toNat)
  case atStart => exact ⟨0, Nat.zero_le _, rfl, by simp [lens], ho, hr, Chg.refl _ _ _⟩
  case round =>
    clear ho hr
    obtain ⟨j, hj, rfl, rfl, hown, hrows, hch⟩ := hrel
    by_cases hlt : j < n
    · have hlt' : j < xss.length := by rw [HX.out]; exact hlt
      obtain ⟨rv, hrv⟩ : ∃ rv, rv = rvs.getD j (.slice none 0 0) := ⟨_, rfl⟩
      have h1 := hown.cellAt j (by omega)
      have hl : j < rvs.length := by rw [hrows.len, markRTo_len]; exact hlt'
      rw [List.getElem?_eq_getElem hl] at h1
      have e1 : rvs[j] = rv := by rw [hrv]; simp [List.getD, List.getElem?_eq_getElem hl]
      rw [e1] at h1
      have ho1 := hrows.own j (by rw [markRTo_len]; exact hlt')
      rw [markRTo_get hlt', if_neg (Nat.lt_irrefl j), ← hrv] at ho1
      have hle := lens_le xss j
      have hle2 := lens_le xss (j+1)
      have hst := lens_step (xss := xss) hlt'
      generalize hys : xss.getD j [] = ys at *
      have HYS := Lib.hid hys
      have HRV := Lib.hid hrv
      have HST := Lib.hid hst
      clear hrv hst e1 hys
      go_wp2_with (go_at_call 19; refine (markI' _ _ _ _ ho1 (by omega) (by omega)).mono ?_; rintro e w' ⟨rfl, o2, c2, hx2⟩)
      go_roundw
      case rel =>
        obtain ⟨b, c3, hb⟩ := hx2
        have hD := HD.out j hlt
        rw [← HRV.out] at hD
        refine ⟨j+1, by omega, by go_num, by rw [HST.out]; congr 1; omega, ?_, ?_, hch.trans c2⟩
        · rcases hb with hb | hb
          · refine ownsRow_chg hown c3 (fun q hq => ?_)
            have : q ≠ b := by intro e; subst e; exact hD q hq hb
            omega
          · rw [hb]; exact hown
        · refine Rows1.mark hrows hlt' ?_ c3 ?_
          · rw [marksR_get hlt', ← HRV.out, HYS.out]; exact o2
          · rw [← HRV.out]; exact hb
      case measure => simp [intOf]; omega
    · go_wp2
      go_ret
      obtain rfl : j = n := by omega
      have e1 : markRTo k xss j = marksR k xss := by rw [← HX.out]; exact markRTo_all k xss
      have e2 : xss.take j = xss := List.take_of_length_le (by rw [HX.out]; exact Nat.le_refl _)
      rw [e1] at hrows
      exact ⟨by rw [e2]; rfl, hown, hrows, hch⟩

theorem markR_nil (a : Option Addr) (cap : Nat) (k : Int) (w : World) :
    Calls Tryd.prog 38 #[.slice a 0 cap, .int .i64 k] w fun e w' => e = .returned (.int .i64 k) ∧ w = w' := by
  go_enter Tryd.func38, Tryd.ntmps38
  go_wp2
  refine wp_loop_rounds 1 ?_
  rw [rounds_succ]
  go_wp2
  go_ret
  exact ⟨rfl, rfl⟩

theorem markR {lo hi : Nat} (v : Value) (xss : List (List Int)) (k : Int) (w : World) (h : OwR lo hi w v xss) (hk0 : 0 ≤ k) (hk1 : k + lens xss ≤ 17592186044416) :
    Calls Tryd.prog 38 #[v, .int .i64 k] w fun e w' => e = .returned (.int .i64 (k + lens xss)) ∧ OwR lo hi w' v (marksR k xss) ∧ Chg lo hi w w' := by
  obtain ⟨h1, hh, rvs, h3, hr, hd⟩ := h
  have h3' := h3
  obtain ⟨_, h4⟩ := h3
  rcases h4 with ⟨h4, h5⟩ | ⟨g, cap, cur, hv, hg, hhp, hn, hcap, hsz, ht⟩
  · have e := List.length_eq_zero_iff.1 h5
    subst e
    subst h4
    refine (markR_nil none 0 k w).mono fun e w' ⟨he, hw⟩ => ?_
    subst hw
    exact ⟨by rw [he]; simp [lens], ⟨by simp [marksR], hh, rvs, h3', hr, hd⟩, Chg.refl _ _ _⟩
  · subst hv
    refine (markR_ne xss.length g cap xss rvs k w h1 hk0 hk1 rfl lo hi h3' hr hd).mono fun e w' ⟨he, ho, hr', hc⟩ => ⟨he, ⟨by rw [marksR_len]; exact h1, hh, rvs, by rw [marksR_len]; exact ho, hr', fun j hj => hd j (by rw [marksR_len] at hj; exact hj)⟩, hc⟩

end Go.Proofs.YtnblhkhdilkbeaaDoor

/- The laws' helpers on graphs: sizes, copies, equality, marks. -/
namespace Go.Proofs.YtnblhkhdilkbeaaDoor
open Go.RowKit

theorem szG {lo hi : Nat} (s : Int) (a : Option Addr) (n c : Nat) (xss : List (List Int)) (l : Int) (h0 : 0 ≤ l) (h1 : l ≤ 1048576) (w : World) (h : RdR lo hi w (.slice a n c) xss) (hn : xss.length = n) :
    Calls Tryd.prog 12 #[.agg #[.int .i64 s, .slice a n c], .int .i64 l] w fun e w' => SzQ l (n + lens xss) e ∧ Below w.heap.size w w' := by
  have HN := Lib.hid hn
  clear hn
  have hb0 : ∀ o, Below w.heap.size w (w.alloc o) := fun o => (Below.refl _ _).alloc (Nat.le_refl _) o
  go_enter Tryd.func12, Tryd.ntmps12
  go_wp2_with fail
  refine (szR _ _ _ h0 h1 _ (h.below (hb0 _))).mono ?_
  rintro e w1 ⟨⟨r, hr, rfl⟩, hq⟩
  rw [HN.out] at hr
  have hb := (hb0 _).qt hq
  rcases hr with rfl | ⟨hr, hr2⟩
  · go_wp2
    go_ret
    exact ⟨⟨_, .inl rfl, rfl⟩, hb⟩
  · have HR := Lib.hid hr2
    clear hr2
    go_wp2
    go_ret
    exact ⟨⟨_, .inr ⟨hr, HR.out⟩, rfl⟩, hb⟩

theorem toG {lo hi : Nat} (s : Int) (a : Option Addr) (n c : Nat) (xss : List (List Int)) (w : World) (h : RdR lo hi w (.slice a n c) xss) (hhi : hi ≤ w.heap.size) :
    Calls Tryd.prog 14 #[.agg #[.int .i64 s, .slice a n c]] w fun e w' => ∃ a' c', e = .returned (.agg #[.int .i64 s, .slice a' xss.length c']) ∧ OwR w.heap.size w'.heap.size w' (.slice a' xss.length c') xss ∧ Below w.heap.size w w' := by
  have hb0 : ∀ o, Below w.heap.size w (w.alloc o) := fun o => (Below.refl _ _).alloc (Nat.le_refl _) o
  go_enter Tryd.func14, Tryd.ntmps14
  go_wp2_with fail
  refine calls_gen (fun W => Below w.heap.size w W ∧ W.heap.size = w.heap.size + 1 + 1 + 1 ∧ W.cell? ⟨w.heap.size + 1, 0, none⟩ = some (.int .i64 0) ∧ W.cell? ⟨w.heap.size + 1, 1, none⟩ = some (.slice none 0 0) ∧ W.cell? ⟨w.heap.size + 1 + 1, 0, none⟩ = some (.int .i64 s) ∧ W.cell? ⟨w.heap.size + 1 + 1, 1, none⟩ = some (.slice none 0 0) ∧ W.frozen? ⟨w.heap.size + 1 + 1, 1, none⟩ = false ∧ W.frozen? ⟨w.heap.size + 1, 0, none⟩ = false ∧ W.frozen? ⟨w.heap.size + 1, 1, none⟩ = false) ⟨?_, ?_, ?_, ?_, ?_, ?_, ?_, ?_, ?_⟩ ?_
  · exact (((Below.refl _ _).alloc (Nat.le_refl _) _).alloc (by simp) _).alloc (by simp; omega) _
  · simp
  · go_simp
  · go_simp
  · go_simp
  · go_simp
  · go_simp
  · go_simp
  · go_simp
  rintro W ⟨hbW, hsz, c1, c2, c3, c4, f4, f1, f2⟩
  have HSZ := Lib.hid hsz
  have hsz2 : w.heap.size + 1 + 1 < W.heap.size := by omega
  clear hsz
  refine (toR _ _ _ (h.below hbW) (by have := hbW.size; omega)).mono ?_
  rintro e w1 ⟨a', c', rfl, o1, b1⟩
  replace c1 := b1.keep c1
  replace c2 := b1.keep c2
  replace c3 := b1.keep c3
  replace c4 := b1.keep c4
  replace f4 := b1.keepf hsz2 f4
  replace f1 := b1.keepf (by show w.heap.size + 1 < _; omega) f1
  replace f2 := b1.keepf (by show w.heap.size + 1 < _; omega) f2
  go_wp2
  refine bodyPost_ret (v := .agg #[.int .i64 s, .slice a' xss.length c']) (by simp [results, Tryd.results14, go_sem, c1, c2, c3, c4]) rfl ⟨a', c', rfl, ?_, ?_⟩
  · have hw := hbW.size
    refine (OwR.chg (lo' := w.heap.size) (hi' := W.heap.size) o1 ?_ (.inr (Nat.le_refl _))).mono hw (by simp [World.setCell])
    repeat (refine Chg.setCell ?_ (by constructor <;> simp <;> omega) _)
    exact Chg.refl _ _ _
  · repeat (refine Below.setCell ?_ (by simp <;> omega) _)
    exact hbW.next b1

theorem eqG {lo hi lo' hi' : Nat} (s s' : Int) (a a' : Option Addr) (n c n' c' : Nat) (xss yss : List (List Int)) (w : World) (h : RdR lo hi w (.slice a n c) xss) (h' : RdR lo' hi' w (.slice a' n' c') yss) :
    Calls Tryd.prog 17 #[.agg #[.int .i64 s, .slice a n c], .agg #[.int .i64 s', .slice a' n' c']] w fun e w' => e = .returned (.bool (decide (s = s') && eqRB xss yss)) ∧ Below w.heap.size w w' := by
  have hb0 : ∀ o o', Below w.heap.size w ((w.alloc o).alloc o') := fun o o' => ((Below.refl _ _).alloc (Nat.le_refl _) o).alloc (by simp) o'
  by_cases hs : s = s'
  · subst hs
    go_enter Tryd.func17, Tryd.ntmps17
    go_wp2_with fail
    refine calls_gen (fun W => Below w.heap.size w W) (hb0 _ _) ?_
    intro W hbW
    refine (eqR _ _ _ _ _ (h.below hbW) (h'.below hbW)).mono ?_
    rintro e w1 ⟨rfl, hq⟩
    have hb := hbW.qt hq
    generalize hbb : eqRB xss yss = bb
    have Hbb := Lib.hid hbb
    clear hbb
    cases bb with
    | true =>
      go_wp2
      go_ret
      exact ⟨by rw [Hbb.out]; simp, hb⟩
    | false =>
      go_wp2
      go_ret
      exact ⟨by rw [Hbb.out]; simp, hb⟩
  · have hs' : (s != s') = true := by simpa using hs
    go_enter Tryd.func17, Tryd.ntmps17
    go_wp2
    go_ret
    exact ⟨by simp [hs], hb0 _ _⟩

theorem toG' {lo hi : Nat} (s : Int) (a : Option Addr) (n c : Nat) (xss : List (List Int)) (w0 w : World) (hb : Below w0.heap.size w0 w) (h : RdR lo hi w0 (.slice a n c) xss) (hhi : hi ≤ w0.heap.size) :
    Calls Tryd.prog 14 #[.agg #[.int .i64 s, .slice a n c]] w fun e w' => ∃ a' c', e = .returned (.agg #[.int .i64 s, .slice a' xss.length c']) ∧ OwR w.heap.size w'.heap.size w' (.slice a' xss.length c') xss ∧ Below w.heap.size w w' :=
  toG s a n c xss w (h.below hb) (Nat.le_trans hhi hb.size)

theorem eqG' {lo hi lo' hi' : Nat} (s s' : Int) (a a' : Option Addr) (n c n' c' : Nat) (xss yss : List (List Int)) (w0 w : World) (hb : Below w0.heap.size w0 w) (h : RdR lo hi w0 (.slice a n c) xss) (h' : RdR lo' hi' w (.slice a' n' c') yss) :
    Calls Tryd.prog 17 #[.agg #[.int .i64 s, .slice a n c], .agg #[.int .i64 s', .slice a' n' c']] w fun e w' => e = .returned (.bool (decide (s = s') && eqRB xss yss)) ∧ Below w.heap.size w w' :=
  eqG s s' a a' n c n' c' xss yss w (h.below hb) h'

theorem eqG1 {lo hi lo' hi' : Nat} (s : Int) (a a' : Option Addr) (n c n' c' : Nat) (xss : List (List Int)) (w0 w : World) (hb : Below w0.heap.size w0 w) (h : RdR lo hi w0 (.slice a n c) xss) (h' : RdR lo' hi' w (.slice a' n' c') xss) :
    Calls Tryd.prog 17 #[.agg #[.int .i64 s, .slice a n c], .agg #[.int .i64 s, .slice a' n' c']] w fun e w' => e = .returned (.bool true) ∧ Below w.heap.size w w' :=
  (eqG s s a a' n c n' c' xss xss w (h.below hb) h').mono fun e w' ⟨he, hb⟩ => ⟨by rw [he, eqRB_self]; simp, hb⟩

theorem markG {lo hi : Nat} (s : Int) (a : Option Addr) (n c : Nat) (xss : List (List Int)) (k : Int) (w : World) (h : OwR lo hi w (.slice a n c) xss) (hk0 : 0 ≤ k) (hk1 : k + lens xss ≤ 17592186044416) (hhi : hi ≤ w.heap.size) :
    Calls Tryd.prog 18 #[.agg #[.int .i64 s, .slice a n c], .int .i64 k] w fun e w' => e = .returned (.int .i64 (k + lens xss)) ∧ OwR lo hi w' (.slice a n c) (marksR k xss) ∧ Chg lo hi w w' := by
  have hb0 : ∀ o, Below w.heap.size w (w.alloc o) := fun o => (Below.refl _ _).alloc (Nat.le_refl _) o
  go_enter Tryd.func18, Tryd.ntmps18
  go_wp2_with fail
  refine (markR _ _ _ _ (h.below (hb0 _)) hk0 hk1).mono ?_
  rintro e w1 ⟨rfl, o1, c1⟩
  have c2 := ((hb0 (.cells #[.int .i64 s, .slice a n c] 24)).chg lo hi).trans c1
  go_wp2
  go_ret
  exact ⟨rfl, o1, c2⟩

end Go.Proofs.YtnblhkhdilkbeaaDoor

/- The laws' helpers on lists of lists of numbers: marks are still there. -/
namespace Go.Proofs.YtnblhkhdilkbeaaDoor
open Go.RowKit

theorem heldR_ne (n b off cap : Nat) (xss : List (List Int)) (k : Int) {lo hi : Nat} (w : World) (hn : n ≤ 8796093022208) (hk0 : 0 ≤ k) (hk1 : k + lens xss ≤ 17592186044416) (hx : xss.length = n)
    (hc : ∀ j, j < n → ∃ rv, w.cell? ⟨b, off + j, none⟩ = some rv ∧ RdI lo hi w rv ((marksR k xss).getD j [])) :
    Calls Tryd.prog 47 #[.slice (some ⟨b, off, none⟩) n cap, .int .i64 k] w fun e w' => e = .returned (.int .i64 (k + lens xss)) ∧ Qt w w' := by
  have HX := Lib.hid hx
  have HC := Lib.hid hc
  clear hx hc
  go_enter Tryd.func47, Tryd.ntmps47
  go_wp2
  go_loopw [1, 5] (fun kk i wr => ∃ j : Nat, j ≤ n ∧ i = .int .i64 j ∧ kk = .int .i64 (k + (lens (xss.take j) : Int)) ∧ Qt w wr) (fun _ i _ => n - (intOf i).toNat)
  case atStart => exact ⟨0, Nat.zero_le _, rfl, by simp [lens], Qt.refl _⟩
  case round =>
    obtain ⟨j, hj, rfl, rfl, hq⟩ := hrel
    by_cases hlt : j < n
    · have hlt' : j < xss.length := by rw [HX.out]; exact hlt
      obtain ⟨rv, h1, r1⟩ := HC.out j hlt
      replace h1 := hq.cell h1
      replace r1 := r1.qt hq
      rw [marksR_get hlt'] at r1
      have hle := lens_le xss j
      have hst := lens_step (xss := xss) hlt'
      have hle2 := lens_le xss (j+1)
      generalize hys : (xss.getD j []).length = m at *
      have HST := Lib.hid hst
      have hpos : ¬ (k + (lens (xss.take j) : Int) + (m : Int) < 0) := by omega
      clear hst hys
      go_wp2_with (go_at_call 20; refine (heldI _ _ _ _ r1 (by omega) (by omega)).mono ?_; rintro e w' ⟨rfl, hq2⟩)
      go_roundw
      case rel => exact ⟨j+1, by omega, by go_num, by rw [HST.out]; congr 1; omega, hq.trans hq2⟩
      case measure => simp [intOf]; omega
    · go_wp2
      go_ret
      obtain rfl : j = n := by omega
      have e2 : xss.take j = xss := List.take_of_length_le (by rw [HX.out]; exact Nat.le_refl _)
      exact ⟨by rw [e2]; rfl, hq⟩

theorem heldR_nil (a : Option Addr) (cap : Nat) (k : Int) (w : World) :
    Calls Tryd.prog 47 #[.slice a 0 cap, .int .i64 k] w fun e w' => e = .returned (.int .i64 k) ∧ Qt w w' := by
  go_enter Tryd.func47, Tryd.ntmps47
  go_wp2
  refine wp_loop_rounds 1 ?_
  rw [rounds_succ]
  go_wp2
  go_ret
  exact ⟨rfl, Qt.refl _⟩

theorem heldR {lo hi : Nat} (v : Value) (xss : List (List Int)) (k : Int) (w : World) (h : RdR lo hi w v (marksR k xss)) (hk0 : 0 ≤ k) (hk1 : k + lens xss ≤ 17592186044416) :
    Calls Tryd.prog 47 #[v, .int .i64 k] w fun e w' => e = .returned (.int .i64 (k + lens xss)) ∧ Qt w w' := by
  obtain ⟨h1, h⟩ := h
  rw [marksR_len] at h1 h
  rcases h with ⟨a, cap, hx, rfl⟩ | ⟨b, off, cap, rfl, h0, hlo, hhi, hc⟩
  · have : xss.length = 0 := by have := marksR_len k xss; rw [hx] at this; simpa using this.symm
    have e := List.length_eq_zero_iff.1 this
    subst e
    exact (heldR_nil a cap k w).mono fun e w' ⟨he, hq⟩ => ⟨by rw [he]; simp [lens], hq⟩
  · exact heldR_ne xss.length b off cap xss k w h1 hk0 hk1 rfl hc

end Go.Proofs.YtnblhkhdilkbeaaDoor

/- Lists of lists of numbers that the call owns: a number of a row is stored; a row is appended; the marks of graphs are still there. -/
namespace Go.Proofs.YtnblhkhdilkbeaaDoor
open Go.RowKit

theorem heldG {lo hi : Nat} (s : Int) (a : Option Addr) (n c : Nat) (xss : List (List Int)) (k : Int) (w : World) (h : RdR lo hi w (.slice a n c) (marksR k xss)) (hk0 : 0 ≤ k) (hk1 : k + lens xss ≤ 17592186044416) :
    Calls Tryd.prog 28 #[.agg #[.int .i64 s, .slice a n c], .int .i64 k] w fun e w' => e = .returned (.int .i64 (k + lens xss)) ∧ Below w.heap.size w w' := by
  have hb0 : ∀ o, Below w.heap.size w (w.alloc o) := fun o => (Below.refl _ _).alloc (Nat.le_refl _) o
  have hpos : ¬ (k + (lens xss : Int) < 0) := by omega
  go_enter Tryd.func28, Tryd.ntmps28
  go_wp2_with fail
  refine (heldR _ _ _ _ (h.below (hb0 _)) hk0 hk1).mono ?_
  rintro e w1 ⟨rfl, hq⟩
  have hb := (hb0 _).qt hq
  go_wp2
  go_ret
  exact ⟨rfl, hb⟩

theorem getD_set_self {xss : List (List Int)} {k : Nat} {y : List Int} (h : k < xss.length) : (xss.set k y).getD k [] = y := by simp [List.getD, h]
theorem getD_set_ne {xss : List (List Int)} {k i : Nat} {y : List Int} (h : i ≠ k) : (xss.set k y).getD i [] = xss.getD i [] := by simp [List.getD, List.getElem?_set, Ne.symm h]

theorem RdR.at {lo hi : Nat} {w : World} {a : Option Addr} {n c : Nat} {xss : List (List Int)} (h : RdR lo hi w (.slice a n c) xss) (hn : xss.length = n) : ∀ k, k < n → ∃ b off rv, a = some ⟨b, off, none⟩ ∧ w.cell? ⟨b, off + k, none⟩ = some rv ∧ RdI lo hi w rv (xss.getD k []) := by
  intro k hk
  obtain ⟨_, ⟨a', c', rfl, _⟩ | ⟨b, off, c', hv, _, _, _, hc⟩⟩ := h
  · simp at hn; omega
  · simp only [Value.slice.injEq] at hv
    obtain ⟨rfl, _, _⟩ := hv
    obtain ⟨rv, h1, h2⟩ := hc k (by omega)
    exact ⟨b, off, rv, rfl, h1, h2⟩

theorem Rows1.setRow {lo hi b k : Nat} {w w' : World} {rvs : List Value} {xss : List (List Int)} {y : List Int} (h : Rows1 lo hi w rvs xss) (hk : k < xss.length)
    (ho : OwI lo hi w' (rvs.getD k (.slice none 0 0)) y) (hch : Chg b (b+1) w w') (hb : (rvs.getD k (.slice none 0 0)).ownBlock = some b) : Rows1 lo hi w' rvs (xss.set k y) := by
  refine ⟨by rw [List.length_set]; exact h.len, fun i hi => ?_, fun i i' hii hi => h.dj i i' hii (by simpa using hi)⟩
  rw [List.length_set] at hi
  by_cases e : i = k
  · subst e; rw [getD_set_self hk]; exact ho
  · rw [getD_set_ne e]
    refine (h.own i hi).chg' hch (fun q hq => ?_)
    have hne : q ≠ b := by
      intro e4; subst e4
      rcases Nat.lt_or_gt_of_ne e with e5 | e5
      · exact h.dj i k e5 hk q hq hb
      · exact h.dj k i e5 hi q hb hq
    omega

theorem OwR.store {lo hi : Nat} {w : World} {v : Value} {xss : List (List Int)} (h : OwR lo hi w v xss) {k j : Nat} (hk : k < xss.length) (hj : j < (xss.getD k []).length) :
    ∃ g c b cb, v = .slice (some ⟨g, 0, none⟩) xss.length c ∧ w.cell? ⟨g, k, none⟩ = some (.slice (some ⟨b, 0, none⟩) (xss.getD k []).length cb) ∧ w.cell? ⟨b, j, none⟩ = some (.int .i64 ((xss.getD k []).getD j 0)) ∧ w.frozen? ⟨b, j, none⟩ = false ∧
      lo ≤ b ∧ b < hi ∧ b < w.heap.size ∧ lo ≤ g ∧ g < hi ∧ g < w.heap.size ∧ g ≠ b ∧ I64 ((xss.getD k []).getD j 0) ∧ ∀ x, I64 x → OwR lo hi (w.setCell ⟨b, j, none⟩ (.int .i64 x)) v (xss.set k ((xss.getD k []).set j x)) := by
  obtain ⟨h1, hh, rvs, h3, hr, hd⟩ := h
  obtain ⟨g, c, rfl, hg, hgw⟩ := h3.form (by omega)
  have ho := hr.own k hk
  have hdk := hd k hk
  have hl : k < rvs.length := by rw [hr.len]; exact hk
  have hcell := h3.cellAt k (by omega)
  rw [List.getElem?_eq_getElem hl] at hcell
  have e1 : rvs.getD k (.slice none 0 0) = rvs[k] := by simp [List.getD, List.getElem?_eq_getElem hl]
  rw [← e1] at hcell
  obtain ⟨o1, o2, o3, o4⟩ := ho
  obtain ⟨b, cb, hrv, hb, hbw⟩ := o3.form (by omega)
  have hbk : (rvs.getD k (.slice none 0 0)).ownBlock = some b := by rw [hrv]; rfl
  have hne : g ≠ b := fun e => hdk g rfl (by rw [hbk, e])
  have hall : ∀ (ys : List Int) (h : j < ys.length), ys.getD j 0 = ys[j] := fun ys h => by simp [List.getD, List.getElem?_eq_getElem h]
  have hgetI : (xss.getD k []).getD j 0 = (xss.getD k [])[j] := hall _ hj
  rw [hrv] at o3
  refine ⟨g, c, b, cb, rfl, by rw [hcell, hrv], ?_, o3.frozenAt j, hb, o4 b hbk, hbw, hg, hh g rfl, hgw, hne, ?_, fun x hx => ?_⟩
  · rw [o3.cellAt j (by omega), List.getElem?_map, List.getElem?_eq_getElem hj, hgetI]; rfl
  · rw [hgetI]; exact o2 _ (List.getElem_mem hj)
  · have hch : Chg b (b+1) w (w.setCell ⟨b, j, none⟩ (.int .i64 x)) := (Chg.refl b (b+1) w).setCell (p := ⟨b, j, none⟩) ⟨Nat.le_refl _, Nat.lt_succ_self _⟩ _
    have hst := (o3.stored j (.int .i64 x)).1
    rw [← List.map_set] at hst
    refine ⟨by rw [List.length_set]; exact h1, hh, rvs, ?_, Rows1.setRow hr hk ?_ hch hbk, fun i hi => hd i (by simpa using hi)⟩
    · rw [List.length_set]
      exact ownsRow_chg h3 hch (fun q hq => by simp [Value.ownBlock] at hq; omega)
    · rw [hrv]
      refine ⟨by rw [List.length_set]; exact o1, fun y hy => ?_, by rw [List.length_set]; exact hst, fun q hq => o4 q (by rw [hrv]; exact hq)⟩
      rcases List.mem_or_eq_of_mem_set hy with hy | rfl
      · exact o2 y hy
      · exact hx

/-- behind an append of a row onto the call's own list -/
theorem OwR.snoc {lo hi : Nat} {w w3 : World} {o : Obj} {v : Value} {g c : Nat} {rvs : List Value} {xss : List (List Int)} {rv : Value} {ys : List Int}
    (h3 : w.ownsRow lo 25 1 v xss.length rvs) (hr : Rows1 lo hi w rvs xss) (hd : ∀ j, j < xss.length → Dj v (rvs.getD j (.slice none 0 0))) (hv : OwI lo hi w rv ys) (hf : ∀ j, j < xss.length → Dj (rvs.getD j (.slice none 0 0)) rv) (hfv : Dj v rv)
    (hown : w3.ownsRow lo 25 1 (.slice (some ⟨g, 0, none⟩) (xss.length + 1) c) (xss.length + 1) (rvs ++ [rv])) (hgr : (w.alloc o).grownBy w3 v.ownBlock) (hlie : v.ownBlock = some g ∨ g = (w.alloc o).heap.size) (hl : xss.length + 1 ≤ 8796093022208) :
    OwR lo w3.heap.size w3 (.slice (some ⟨g, 0, none⟩) (xss.length + 1) c) (xss ++ [ys]) := by
  have hsz := hgr.size
  have hsz2 : w.heap.size + 1 ≤ w3.heap.size := by simpa using hsz
  have hkeep : ∀ q, q < w.heap.size → some q ≠ v.ownBlock → w3.heap[q]? = w.heap[q]? := fun q hq hne => by
    rw [hgr.block q (by simp; omega) hne]
    exact Below.heap_alloc _ _ _ hq
  have hmove : ∀ {u : Value} {us : List Int}, OwI lo hi w u us → Dj v u → OwI lo w3.heap.size w3 u us := by
    intro u us hu hdu
    obtain ⟨a1, a2, ⟨a3, a4⟩, a5⟩ := hu
    refine ⟨a1, a2, ⟨a3, ?_⟩, fun q hq => ?_⟩
    · rcases a4 with a4 | ⟨q, cap, cur, hq, hqb, hqh, rest⟩
      · exact .inl a4
      · refine .inr ⟨q, cap, cur, hq, hqb, ?_, rest⟩
        rw [hkeep q (Array.getElem?_eq_some_iff.1 hqh).1 (fun e => hdu q e.symm (by rw [hq]; rfl))]
        exact hqh
    · rcases a4 with a4 | ⟨q', cap, cur, hq', hqb, hqh, rest⟩
      · rw [a4.1] at hq; simp [Value.ownBlock] at hq
      · rw [hq'] at hq
        simp [Value.ownBlock] at hq
        have := (Array.getElem?_eq_some_iff.1 hqh).1
        omega
  have hblk : ∀ {u : Value} {us : List Int}, OwI lo hi w u us → ∀ q, u.ownBlock = some q → q < w.heap.size := fun hu q hq => (hu.2.2.1.lt q hq).2
  have hdg : ∀ {u : Value} {us : List Int}, OwI lo hi w u us → Dj v u → Dj (.slice (some ⟨g, 0, none⟩) (xss.length + 1) c) u := by
    intro u us hu hdu q hq hq2
    have : g = q := by simpa [Value.ownBlock] using hq
    subst this
    rcases hlie with e | e
    · exact hdu g e hq2
    · have := hblk hu g hq2; simp at e; omega
  have hrows : Rows1 lo w3.heap.size w3 (rvs ++ [rv]) (xss ++ [ys]) := by
    refine Rows1.snoc ⟨hr.len, fun j hj => hmove (hr.own j hj) (hd j hj), hr.dj⟩ (hmove hv hfv) hf
  refine ⟨by rw [List.length_append]; exact hl, fun q hq => (hown.lt q hq).2, rvs ++ [rv], by rw [List.length_append]; exact hown, hrows, fun j hj => ?_⟩
  rw [List.length_append] at hj
  have hlen := hr.len
  by_cases e : j < xss.length
  · have e1 : (rvs ++ [rv]).getD j (.slice none 0 0) = rvs.getD j (.slice none 0 0) := by simp only [List.getD]; rw [List.getElem?_append_left (by omega)]
    rw [e1]; exact hdg (hr.own j e) (hd j e)
  · obtain rfl : j = xss.length := by simp at hj; omega
    have e1 : (rvs ++ [rv]).getD xss.length (.slice none 0 0) = rv := by simp only [List.getD]; rw [List.getElem?_append_right (by omega), hlen]; simp
    rw [e1]; exact hdg hv hfv

end Go.Proofs.YtnblhkhdilkbeaaDoor

/- Small laws on worlds, of whatever program. -/
namespace Go.RowKit
/-- behind an append onto the call's own slice -/
theorem grown_own {w w2 w3 : World} {o : Obj} {base e size n : Nat} {v : Value} {xs : List Value} (hB : Below w.heap.size w w2) (hown : w2.ownsRow base e size v n xs) (hbase : w.heap.size ≤ base) (hgr : (w2.alloc o).grownBy w3 v.ownBlock) :
    Below w.heap.size w w3 ∧ w2.heap.size < w3.heap.size ∧ (∀ p u, p.block < base → w2.cell? p = some u → w3.cell? p = some u) ∧ Chg base w2.heap.size w2 w3 := by
  have hs := hgr.size
  have hs2 : w2.heap.size + 1 ≤ w3.heap.size := by simpa using hs
  have hsB := hB.size
  have hlt := hown.lt
  refine ⟨(hB.alloc hB.size o).grown hgr (by simp; omega) (fun k hk => by have := (hlt k hk).1; omega), by omega, fun p u hp hu => ?_, ?_⟩
  · have hb := World.block_lt_of_cell? w2 p hu
    exact hgr.cell ((World.cell?_of_block (w := w2) (Below.heap_alloc w2 o p.block hb)).trans hu) (fun e => by have := (hlt p.block e.symm).1; omega)
  · refine ⟨hgr.os, hgr.tape, hgr.output, by omega, fun k hk h' => ?_⟩
    rw [hgr.block k (by simp; omega) (fun e => by have := hlt k e.symm; omega)]
    exact Below.heap_alloc _ _ _ hk
theorem ownsRow_mono {w : World} {B B' e size n : Nat} {v : Value} {xs : List Value} (h : w.ownsRow B e size v n xs) (hb : B' ≤ B) : w.ownsRow B' e size v n xs := by
  obtain ⟨h3, h4⟩ := h
  refine ⟨h3, ?_⟩
  rcases h4 with h4 | ⟨g, cap, cur, hv, hg, r⟩
  · exact .inl h4
  · exact .inr ⟨g, cap, cur, hv, Nat.le_trans hb hg, r⟩
theorem news_one (w : World) (t : TypeId) (x : Value) : ∀ (j : Nat) (u : Value), [x][j]? = some u → (w.alloc (.cells #[x] t)).cell? (({ block := w.heap.size, off := 0 } : Addr).add j) = some u := by
  intro j u hj
  match j, hj with
  | 0, hj => simp at hj; subst hj; simp [Addr.add]
end Go.RowKit

/- A list of rows under way, in a box x that none of them lies in. -/
namespace Go.Proofs.YtnblhkhdilkbeaaDoor
open Go.RowKit

structure OwP (lo x : Nat) (w : World) (g n c : Nat) (rvs : List Value) (xss : List (List Int)) : Prop where
  len : xss.length = n
  out : w.ownsRow lo 25 1 (.slice (some ⟨g, 0, none⟩) n c) n rvs
  rows : Rows1 lo w.heap.size w rvs xss
  dj : ∀ j, j < n → (rvs.getD j (.slice none 0 0)).ownBlock ≠ some g
  exg : g ≠ x
  exr : ∀ j, j < n → (rvs.getD j (.slice none 0 0)).ownBlock ≠ some x

theorem OwI.up {lo hi : Nat} {w : World} {v : Value} {xs : List Int} (h : OwI lo hi w v xs) : OwI lo w.heap.size w v xs := ⟨h.1, h.2.1, h.2.2.1, fun k hk => (h.2.2.1.lt k hk).2⟩
theorem OwI.raise {lo hi lo' : Nat} {w : World} {v : Value} {xs : List Int} (h : OwI lo hi w v xs) (hr : ∀ k, v.ownBlock = some k → lo' ≤ k) : OwI lo' hi w v xs := by
  obtain ⟨a, b, ⟨c, d⟩, e⟩ := h
  refine ⟨a, b, ⟨c, ?_⟩, e⟩
  rcases d with d | ⟨g, cap, cur, hv, hg, r⟩
  · exact .inl d
  · exact .inr ⟨g, cap, cur, hv, hr g (by rw [hv]; rfl), r⟩

theorem OwP.lt {lo x : Nat} {w : World} {g n c : Nat} {rvs : List Value} {xss : List (List Int)} (h : OwP lo x w g n c rvs xss) : lo ≤ g ∧ g < w.heap.size := h.out.lt g rfl
theorem OwP.chg {lo x lo' hi' : Nat} {w w' : World} {g n c : Nat} {rvs : List Value} {xss : List (List Int)} (h : OwP lo x w g n c rvs xss) (hb : Chg lo' hi' w w') (hg : g < lo' ∨ hi' ≤ g) (hr : ∀ j, j < n → ∀ k, (rvs.getD j (.slice none 0 0)).ownBlock = some k → k < lo' ∨ hi' ≤ k) : OwP lo x w' g n c rvs xss := by
  refine ⟨h.len, ownsRow_chg h.out hb (fun k hk => ?_), ⟨h.rows.len, fun j hj => ?_, h.rows.dj⟩, h.dj, h.exg, h.exr⟩
  · have : g = k := by simpa [Value.ownBlock] using hk
    omega
  · exact ((h.rows.own j hj).chg' hb (hr j (by rw [← h.len]; exact hj))).mono (Nat.le_refl _) hb.size
theorem OwP.below {lo x : Nat} {w w' : World} {g n c : Nat} {rvs : List Value} {xss : List (List Int)} (h : OwP lo x w g n c rvs xss) (hb : Below w.heap.size w w') : OwP lo x w' g n c rvs xss :=
  h.chg (hb.chg 0 0) (.inr (Nat.zero_le _)) (fun _ _ _ _ => .inr (Nat.zero_le _))
theorem OwP.qt {lo x : Nat} {w w' : World} {g n c : Nat} {rvs : List Value} {xss : List (List Int)} (h : OwP lo x w g n c rvs xss) (hq : Qt w w') : OwP lo x w' g n c rvs xss := h.below hq.below
/-- the box itself turns -/
theorem OwP.box {lo x : Nat} {w w' : World} {g n c : Nat} {rvs : List Value} {xss : List (List Int)} (h : OwP lo x w g n c rvs xss) (hb : Chg x (x+1) w w') : OwP lo x w' g n c rvs xss :=
  h.chg hb (by have := h.exg; omega) (fun j hj k hk => by have := h.exr j hj; rw [hk] at this; have : k ≠ x := fun e => this (by rw [e]); omega)
theorem OwP.owr {lo x : Nat} {w : World} {g n c : Nat} {rvs : List Value} {xss : List (List Int)} (h : OwP lo x w g n c rvs xss) (hn : n ≤ 8796093022208) : OwR lo w.heap.size w (.slice (some ⟨g, 0, none⟩) n c) xss := by
  have hl := h.len
  refine ⟨by omega, fun k hk => (h.out.lt k hk).2, rvs, by rw [hl]; exact h.out, h.rows, fun j hj k hk hk2 => ?_⟩
  have : g = k := by simpa [Value.ownBlock] using hk
  subst this
  exact h.dj j (by omega) hk2
theorem OwP.owr' {lo x : Nat} {w : World} {g n c : Nat} {rvs : List Value} {xss : List (List Int)} (h : OwP lo x w g n c rvs xss) (hn : n ≤ 8796093022208) : OwR lo w.heap.size w (.slice (some ⟨g, 0, none⟩) xss.length c) xss := by
  have := h.owr hn
  rw [h.len]; exact this
theorem OwP.row {lo x : Nat} {w : World} {g n c : Nat} {rvs : List Value} {xss : List (List Int)} (h : OwP lo x w g n c rvs xss) {k : Nat} (hk : k < n) : w.cell? ⟨g, k, none⟩ = some (rvs.getD k (.slice none 0 0)) ∧ OwI lo w.heap.size w (rvs.getD k (.slice none 0 0)) (xss.getD k []) := by
  have hl := h.len
  have hl2 := h.rows.len
  refine ⟨?_, h.rows.own k (by omega)⟩
  rw [h.out.cellAt k (by omega), List.getElem?_eq_getElem (by omega)]
  simp [List.getD, List.getElem?_eq_getElem (show k < rvs.length by omega)]
theorem OwP.ofR {lo hi x : Nat} {w : World} {v : Value} {xss : List (List Int)} (h : OwR lo hi w v xss) (h0 : 0 < xss.length) (hx : hi ≤ x) : ∃ g c rvs, v = .slice (some ⟨g, 0, none⟩) xss.length c ∧ OwP lo x w g xss.length c rvs xss := by
  obtain ⟨h1, hh, rvs, h3, hr, hd⟩ := h
  obtain ⟨g, c, rfl, hg, hgw⟩ := h3.form h0
  refine ⟨g, c, rvs, rfl, rfl, h3, ⟨hr.len, fun j hj => (hr.own j hj).up, hr.dj⟩, fun j hj => hd j hj g rfl, ?_, fun j hj e => ?_⟩
  · have := hh g rfl; omega
  · have := (hr.own j hj).blk x e; omega

/-- behind an append of a row, made anew -/
theorem OwP.snoc {lo x : Nat} {w w3 : World} {o : Obj} {g n c g' c' : Nat} {rvs : List Value} {xss : List (List Int)} {rv : Value} {ys : List Int}
    (h : OwP lo x w g n c rvs xss) (hv : OwI lo w.heap.size w rv ys) (hf : ∀ j, j < n → Dj (rvs.getD j (.slice none 0 0)) rv) (hfg : rv.ownBlock ≠ some g) (hfx : rv.ownBlock ≠ some x) (hx : x < w.heap.size)
    (hown : w3.ownsRow lo 25 1 (.slice (some ⟨g', 0, none⟩) (n + 1) c') (n + 1) (rvs ++ [rv])) (hgr : (w.alloc o).grownBy w3 (some g)) (hlie : some g = some g' ∨ g' = (w.alloc o).heap.size) :
    OwP lo x w3 g' (n + 1) c' (rvs ++ [rv]) (xss ++ [ys]) := by
  have hl := h.len
  have hlen := h.rows.len
  have hsz := hgr.size
  have hsz2 : w.heap.size + 1 ≤ w3.heap.size := by simpa using hsz
  have hch : Chg g (g + 1) w w3 := (((Below.refl w.heap.size w).alloc (Nat.le_refl _) o).chg g (g+1)).trans (Chg.grown hgr (fun k hk => by
    have : g = k := by simpa using hk
    omega))
  have hlt := h.lt
  have hmove : ∀ {u : Value} {us : List Int}, OwI lo w.heap.size w u us → u.ownBlock ≠ some g → OwI lo w3.heap.size w3 u us := fun hu hdu =>
    (hu.chg' hch (fun k hk => by have : k ≠ g := fun e => hdu (by rw [hk, e]); omega)).mono (Nat.le_refl _) (by omega)
  have hbig : ∀ {u : Value} {us : List Int}, OwI lo w.heap.size w u us → u.ownBlock ≠ some g → u.ownBlock ≠ some g' := by
    intro u us hu hdu e
    rcases hlie with e2 | e2
    · simp at e2; subst e2; exact hdu e
    · have := (hu.blk g' e).2.2; simp at e2; omega
  have hget : ∀ j, j < n + 1 → (j < n ∧ (rvs ++ [rv]).getD j (.slice none 0 0) = rvs.getD j (.slice none 0 0)) ∨ (j = n ∧ (rvs ++ [rv]).getD j (.slice none 0 0) = rv) := by
    intro j hj
    by_cases e : j < n
    · left; refine ⟨e, ?_⟩; simp only [List.getD]; rw [List.getElem?_append_left (by omega)]
    · right
      obtain rfl : j = n := by omega
      refine ⟨rfl, ?_⟩
      simp only [List.getD]; rw [List.getElem?_append_right (by omega)]
      have : j - rvs.length = 0 := by omega
      rw [this]; rfl
  refine ⟨by rw [List.length_append, hl]; rfl, hown, ?_, fun j hj => ?_, ?_, fun j hj => ?_⟩
  · refine Rows1.snoc ⟨hlen, fun j hj => hmove (h.rows.own j hj) (h.dj j (by omega)), h.rows.dj⟩ (hmove hv hfg) (fun j hj => hf j (by omega))
  · rcases hget j hj with ⟨e, e2⟩ | ⟨e, e2⟩
    · rw [e2]; exact hbig (h.rows.own j (by omega)) (h.dj j e)
    · rw [e2]; exact hbig hv hfg
  · rcases hlie with e2 | e2
    · simp at e2; rw [← e2]; exact h.exg
    · simp at e2; omega
  · rcases hget j hj with ⟨e, e2⟩ | ⟨e, e2⟩
    · rw [e2]; exact h.exr j e
    · rw [e2]; exact hfx

/-- a number of a row turns -/
theorem OwP.store {lo x : Nat} {w : World} {g n c : Nat} {rvs : List Value} {xss : List (List Int)} (h : OwP lo x w g n c rvs xss) {k j : Nat} (hk : k < n) (hj : j < (xss.getD k []).length) :
    ∃ b cb, rvs.getD k (.slice none 0 0) = .slice (some ⟨b, 0, none⟩) (xss.getD k []).length cb ∧ w.cell? ⟨b, j, none⟩ = some (.int .i64 ((xss.getD k []).getD j 0)) ∧ w.frozen? ⟨b, j, none⟩ = false ∧ lo ≤ b ∧ b < w.heap.size ∧ b ≠ x ∧ b ≠ g ∧ I64 ((xss.getD k []).getD j 0) ∧
      ∀ y, I64 y → OwP lo x (w.setCell ⟨b, j, none⟩ (.int .i64 y)) g n c rvs (xss.set k ((xss.getD k []).set j y)) := by
  have hl := h.len
  have hlen := h.rows.len
  have ho := h.rows.own k (by omega)
  have hall : ∀ (ys : List Int) (h : j < ys.length), ys.getD j 0 = ys[j] := fun ys h => by simp [List.getD, List.getElem?_eq_getElem h]
  have hgetI : (xss.getD k []).getD j 0 = (xss.getD k [])[j] := hall _ hj
  obtain ⟨o1, o2, o3, o4⟩ := ho
  obtain ⟨b, cb, hrv, hb, hbw⟩ := o3.form (by omega)
  have hbk : (rvs.getD k (.slice none 0 0)).ownBlock = some b := by rw [hrv]; rfl
  rw [hrv] at o3
  refine ⟨b, cb, hrv, ?_, o3.frozenAt j, hb, hbw, fun e => h.exr k hk (by rw [hbk, e]), fun e => h.dj k hk (by rw [hbk, e]), ?_, fun y hy => ?_⟩
  · rw [o3.cellAt j (by omega), List.getElem?_map, List.getElem?_eq_getElem hj, hgetI]; rfl
  · rw [hgetI]; exact o2 _ (List.getElem_mem hj)
  · have hch : Chg b (b+1) w (w.setCell ⟨b, j, none⟩ (.int .i64 y)) := (Chg.refl b (b+1) w).setCell (p := ⟨b, j, none⟩) ⟨Nat.le_refl _, Nat.lt_succ_self _⟩ _
    have hst := (o3.stored j (.int .i64 y)).1
    rw [← List.map_set] at hst
    have hsz : (w.setCell ⟨b, j, none⟩ (.int .i64 y)).heap.size = w.heap.size := by simp [World.setCell]
    refine ⟨by rw [List.length_set]; exact hl, ownsRow_chg h.out hch (fun q hq => ?_), ?_, h.dj, h.exg, h.exr⟩
    · have : g = q := by simpa [Value.ownBlock] using hq
      have : b ≠ g := fun e => h.dj k hk (by rw [hbk, e])
      omega
    · rw [hsz]
      refine Rows1.setRow h.rows (by omega) ?_ hch hbk
      rw [hrv]
      refine ⟨by rw [List.length_set]; exact o1, fun z hz => ?_, by rw [List.length_set]; exact hst, fun q hq => o4 q (by rw [hrv]; exact hq)⟩
      rcases List.mem_or_eq_of_mem_set hz with hz | rfl
      · exact o2 z hz
      · exact hy

end Go.Proofs.YtnblhkhdilkbeaaDoor

/- A list of rows under way: fresh rows are appended, or laid into their places. -/
namespace Go.Proofs.YtnblhkhdilkbeaaDoor
open Go.RowKit

theorem OwP.fresh {lo x hi : Nat} {W0 w : World} {g n c : Nat} {rvs : List Value} {xss : List (List Int)} (h0 : OwP lo x W0 g n c rvs xss) (hx : x < W0.heap.size) {rv : Value} {ys : List Int} (hv : OwI W0.heap.size hi w rv ys) :
    (∀ j, j < n → Dj (rvs.getD j (.slice none 0 0)) rv) ∧ rv.ownBlock ≠ some g ∧ rv.ownBlock ≠ some x := by
  have hl := h0.len
  refine ⟨fun j hj q hq hq2 => ?_, fun e => ?_, fun e => ?_⟩
  · have h1 := ((h0.rows.own j (by omega)).blk q hq).2.2
    have h2 := (hv.blk q hq2).1
    omega
  · have h1 := h0.lt.2
    have h2 := (hv.blk g e).1
    omega
  · have h2 := (hv.blk x e).1
    omega

theorem OwP.snocF {lo x hi : Nat} {W0 w w3 : World} {o : Obj} {g n c g' c' : Nat} {rvs : List Value} {xss : List (List Int)} {rv : Value} {ys : List Int}
    (h0 : OwP lo x W0 g n c rvs xss) (hx : x < W0.heap.size) (hb : Below W0.heap.size W0 w) (hv : OwI W0.heap.size hi w rv ys)
    (hown : w3.ownsRow lo 25 1 (.slice (some ⟨g', 0, none⟩) (n + 1) c') (n + 1) (rvs ++ [rv])) (hgr : (w.alloc o).grownBy w3 (some g)) (hlie : some g = some g' ∨ g' = (w.alloc o).heap.size) :
    OwP lo x w3 g' (n + 1) c' (rvs ++ [rv]) (xss ++ [ys]) := by
  obtain ⟨f1, f2, f3⟩ := h0.fresh hx hv
  have hs := hb.size
  have hlt := h0.lt
  exact (h0.below hb).snoc (hv.up.mono (by omega) (Nat.le_refl _)) f1 f2 f3 (by omega) hown hgr hlie

theorem snocC {W0 w w3 : World} {o : Obj} {g : Nat} (hb : Below W0.heap.size W0 w) (hgr : (w.alloc o).grownBy w3 (some g)) : Chg g (g+1) W0 w3 :=
  (hb.chg g (g+1)).trans ((((Below.refl w.heap.size w).alloc (Nat.le_refl _) o).chg g (g+1)).trans (Chg.grown hgr (fun k hk => by
    have : g = k := by simpa using hk
    omega)))

theorem getD_setV_self {rvs : List Value} {k : Nat} {y d : Value} (h : k < rvs.length) : (rvs.set k y).getD k d = y := by simp [List.getD, h]
theorem getD_setV_ne {rvs : List Value} {k i : Nat} {y d : Value} (h : i ≠ k) : (rvs.set k y).getD i d = rvs.getD i d := by simp [List.getD, List.getElem?_set, Ne.symm h]

theorem OwP.put {lo x hi : Nat} {W0 w : World} {g n c : Nat} {rvs : List Value} {xss : List (List Int)} (h0 : OwP lo x W0 g n c rvs xss) (hx : x < W0.heap.size) (hb : Below W0.heap.size W0 w) {k : Nat} (hk : k < n) {rv : Value} {ys : List Int} (hv : OwI W0.heap.size hi w rv ys) :
    OwP lo x (w.setCell ⟨g, k, none⟩ rv) g n c (rvs.set k rv) (xss.set k ys) := by
  obtain ⟨f1, f2, f3⟩ := h0.fresh hx hv
  have hs := hb.size
  have hlt := h0.lt
  have h := h0.below hb
  have hl := h.len
  have hlen := h.rows.len
  have hch : Chg g (g+1) w (w.setCell ⟨g, k, none⟩ rv) := (Chg.refl g (g+1) w).setCell (p := ⟨g, k, none⟩) ⟨Nat.le_refl _, Nat.lt_succ_self _⟩ _
  have hsz : (w.setCell ⟨g, k, none⟩ rv).heap.size = w.heap.size := by simp [World.setCell]
  have hmove : ∀ {u : Value} {us : List Int}, OwI lo w.heap.size w u us → u.ownBlock ≠ some g → OwI lo w.heap.size (w.setCell ⟨g, k, none⟩ rv) u us := fun hu hdu =>
    hu.chg' hch (fun k hk => by have : k ≠ g := fun e => hdu (by rw [hk, e]); omega)
  have hget : ∀ j, (j = k ∧ (rvs.set k rv).getD j (.slice none 0 0) = rv) ∨ (j ≠ k ∧ (rvs.set k rv).getD j (.slice none 0 0) = rvs.getD j (.slice none 0 0)) := by
    intro j
    by_cases e : j = k
    · subst e; exact .inl ⟨rfl, getD_setV_self (by omega)⟩
    · exact .inr ⟨e, getD_setV_ne e⟩
  refine ⟨by rw [List.length_set]; exact hl, (h.out.stored k rv).1, ⟨by rw [List.length_set, List.length_set]; exact hlen, fun j hj => ?_, fun i j hij hj => ?_⟩, fun j hj => ?_, h.exg, fun j hj => ?_⟩
  · rw [hsz]
    rw [List.length_set] at hj
    rcases hget j with ⟨e, e2⟩ | ⟨e, e2⟩
    · subst e
      rw [e2, getD_set_self hj]
      exact hmove (hv.up.mono (by omega) (Nat.le_refl _)) f2
    · rw [e2, getD_set_ne e]
      exact hmove (h.rows.own j hj) (h.dj j (by omega))
  · rw [List.length_set] at hj
    rcases hget i with ⟨e, e2⟩ | ⟨e, e2⟩ <;> rcases hget j with ⟨e', e2'⟩ | ⟨e', e2'⟩
    · omega
    · rw [e2, e2']; exact fun q hq hq2 => f1 j (by omega) q hq2 hq
    · rw [e2, e2']; exact f1 i (by omega)
    · rw [e2, e2']; exact h.rows.dj i j hij hj
  · rcases hget j with ⟨e, e2⟩ | ⟨e, e2⟩
    · rw [e2]; exact f2
    · rw [e2]; exact h.dj j hj
  · rcases hget j with ⟨e, e2⟩ | ⟨e, e2⟩
    · rw [e2]; exact f3
    · rw [e2]; exact h.exr j hj

theorem OwI.nil' (lo hi : Nat) (w : World) : OwI lo hi w (.slice none 0 0) [] :=
  ⟨by simp, by simp, World.ownsRow_nil _ _ _ _, fun k hk => by simp [Value.ownBlock] at hk⟩
theorem getD_rep {n j : Nat} : (List.replicate n (Value.slice none 0 0)).getD j (.slice none 0 0) = .slice none 0 0 := by
  by_cases h : j < n <;> simp [List.getD, h]
theorem getD_repR {n j : Nat} : (List.replicate n ([] : List Int)).getD j [] = [] := by
  by_cases h : j < n <;> simp [List.getD, h]

/-- a list of nil rows, made anew -/
theorem OwP.made {lo x : Nat} {w : World} {g n c : Nat} (h : w.ownsRow lo 25 1 (.slice (some ⟨g, 0, none⟩) n c) n (madeCells #[Value.slice none 0 0] n).toList) (hx : g ≠ x) : OwP lo x w g n c (List.replicate n (.slice none 0 0)) (List.replicate n []) := by
  rw [toList_madeCells_one] at h
  refine ⟨by simp, h, ⟨by simp, fun j hj => ?_, fun i j hij hj => ?_⟩, fun j hj => ?_, hx, fun j hj => ?_⟩
  · rw [getD_rep, getD_repR]; exact OwI.nil' _ _ _
  · rw [getD_rep]; intro q hq; simp [Value.ownBlock] at hq
  · rw [getD_rep]; simp [Value.ownBlock]
  · rw [getD_rep]; simp [Value.ownBlock]
/-- an empty list, made anew -/
theorem OwP.empty {lo x : Nat} {w : World} {g c : Nat} (h : w.ownsRow lo 25 1 (.slice (some ⟨g, 0, none⟩) 0 c) 0 []) (hx : g ≠ x) : OwP lo x w g 0 c [] [] :=
  ⟨rfl, h, ⟨rfl, fun j hj => by simp at hj, fun i j hij hj => by simp at hj⟩, fun j hj => by omega, hx, fun j hj => by omega⟩

/-- a row of two numbers, as it is written out -/
theorem OwI.two {lo : Nat} {w : World} {x y : Int} (hx : I64 x) (hy : I64 y) (hlo : lo ≤ w.heap.size) : OwI lo (w.heap.size + 1) (w.alloc (.cells #[.int .i64 x, .int .i64 y] 2)) (.slice (some ⟨w.heap.size, 0, none⟩) 2 2) [x, y] := by
  have h := World.ownsRow_lit (base := lo) (e := 2) (size := 1) w #[.int .i64 x, .int .i64 y] 2 hlo (by unfold maxLen; omega) rfl
  refine ⟨by simp, fun z hz => ?_, h, fun k hk => ?_⟩
  · simp at hz
    rcases hz with rfl | rfl
    · exact hx
    · exact hy
  · simp [Value.ownBlock] at hk; omega

def filled (rows : List (List Int)) (k n : Nat) : List (List Int) := rows.take k ++ List.replicate (n - k) []
theorem filled_zero (rows : List (List Int)) (n : Nat) : filled rows 0 n = List.replicate n [] := by simp [filled]
theorem filled_all {rows : List (List Int)} {n : Nat} (h : rows.length = n) : filled rows n n = rows := by simp [filled, ← h]
theorem filled_step {rows : List (List Int)} {k n : Nat} (h : rows.length = n) (hk : k < n) : (filled rows k n).set k (rows.getD k []) = filled rows (k+1) n := by
  have e : n - k = (n - (k + 1)) + 1 := by omega
  have hl : (rows.take k).length = k := by rw [List.length_take]; omega
  unfold filled
  have e2 : rows.getD k [] = rows[k] := by simp [List.getD, List.getElem?_eq_getElem (show k < rows.length by omega)]
  rw [e, List.replicate_succ, List.set_append, if_neg (by omega), hl, Nat.sub_self, List.set_cons_zero, List.take_add_one, List.getElem?_eq_getElem (by omega), e2, List.append_assoc]
  rfl

end Go.Proofs.YtnblhkhdilkbeaaDoor

/- IsGraph of the program and of the model: both say whether the value is a graph. -/
namespace Go.Proofs.YtnblhkhdilkbeaaDoor
open Go.RowKit

def inR (x s : Int) : Bool := decide (0 ≤ x) && decide (x < s)
def edgeOk (s : Int) (e : List Int) : Bool := decide (e.length = 2) && (inR (e.getD 0 0) s && inR (e.getD 1 0) s)
def grB (s : Int) (xss : List (List Int)) : Bool := decide (1 ≤ s) && (decide (s ≤ 8) && (decide (xss.length ≤ 10) && xss.all (edgeOk s)))

theorem isIndex (x s : Int) (w : World) : Calls Tryd.prog 53 #[.int .i64 x, .int .i64 s] w fun e w' => e = .returned (.bool (inR x s)) ∧ Qt w w' := by
  by_cases h1 : 0 ≤ x
  · go_enter Tryd.func53, Tryd.ntmps53
    go_wp2
    go_ret
    exact ⟨by first | (simp [inR, *]; done) | (simp [inR, *]; intros; omega), Qt.refl _⟩
  · go_enter Tryd.func53, Tryd.ntmps53
    go_wp2
    go_ret
    exact ⟨by first | (simp [inR, *]; done) | (simp [inR, *]; intros; omega), Qt.refl _⟩

theorem isIndexV (x s : Int) (b : Bool) (h : inR x s = b) (w : World) : Calls Tryd.prog 53 #[.int .i64 x, .int .i64 s] w fun e w' => e = .returned (.bool b) ∧ Qt w w' := by
  subst h; exact isIndex x s w

theorem all_take {xss : List (List Int)} {k : Nat} {f : List Int → Bool} (hk : k < xss.length) (h : (xss.take k).all f = true) (e : f (xss.getD k []) = true) : (xss.take (k+1)).all f = true := by
  rw [List.take_add_one, List.all_append, h, List.getElem?_eq_getElem hk]
  simp [List.getD, List.getElem?_eq_getElem hk] at e
  simp [e]
theorem all_not {xss : List (List Int)} {k : Nat} {f : List Int → Bool} (hk : k < xss.length) (e : f (xss.getD k []) = false) : xss.all f = false := by
  simp [List.getD, List.getElem?_eq_getElem hk] at e
  rw [List.all_eq_false]
  exact ⟨_, List.getElem_mem hk, by simp [e]⟩

theorem RdI.two {lo hi : Nat} {w : World} {v : Value} {xs : List Int} (h : RdI lo hi w v xs) (h2 : xs.length = 2) : ∃ b off cap, v = .slice (some ⟨b, off, none⟩) 2 cap ∧ w.cell? ⟨b, off, none⟩ = some (.int .i64 (xs.getD 0 0)) ∧ w.cell? ⟨b, off + 1, none⟩ = some (.int .i64 (xs.getD 1 0)) := by
  obtain ⟨_, _, ⟨a, cap, rfl, h⟩ | ⟨b, off, cap, h, _, _, _, hc⟩⟩ := h
  · simp at h2
  · exact ⟨b, off, cap, by rw [h, h2], hc 0 (by omega), hc 1 (by omega)⟩

theorem edgeOk_0 {s : Int} {e : List Int} (h : inR (e.getD 0 0) s = false) : edgeOk s e = false := by unfold edgeOk; rw [h]; simp
theorem edgeOk_1 {s : Int} {e : List Int} (h : inR (e.getD 1 0) s = false) : edgeOk s e = false := by unfold edgeOk; rw [h]; simp
theorem edgeOk_2 {s : Int} {e : List Int} (h : ¬ e.length = 2) : edgeOk s e = false := by unfold edgeOk; rw [decide_eq_false h]; simp
theorem edgeOk_t {s : Int} {e : List Int} (h : e.length = 2) (h0 : inR (e.getD 0 0) s = true) (h1 : inR (e.getD 1 0) s = true) : edgeOk s e = true := by unfold edgeOk; rw [decide_eq_true h, h0, h1]; rfl

set_option maxHeartbeats 800000 in
theorem ig_loop (n b off cap : Nat) (s : Int) (xss : List (List Int)) {lo hi : Nat} (w : World) (hn : n ≤ 10) (hs1 : 1 ≤ s) (hs2 : s ≤ 8) (hx : xss.length = n)
    (hc : ∀ j, j < n → ∃ rv, w.cell? ⟨b, off + j, none⟩ = some rv ∧ RdI lo hi w rv (xss.getD j [])) :
    Calls Tryd.prog 33 #[.agg #[.int .i64 s, .slice (some ⟨b, off, none⟩) n cap]] w fun e w' => e = .returned (.bool (grB s xss)) ∧ Below w.heap.size w w' := by
  have hb0 : ∀ o, Below w.heap.size w (w.alloc o) := fun o => (Below.refl _ _).alloc (Nat.le_refl _) o
  have HX := Lib.hid hx
  have HC := Lib.hid hc
  clear hx hc
  go_enter Tryd.func33, Tryd.ntmps33
  go_wp2
  go_loopw [22, 4] (fun i _ wr => ∃ k : Nat, k ≤ n ∧ i = .int .i64 k ∧ Qt (w.alloc (.cells #[.int .i64 s, .slice (some ⟨b, off, none⟩) n cap] 24)) wr ∧ (xss.take k).all (edgeOk s) = true) (fun i _ _ => n - (intOf i).toNat)
  case atStart => exact ⟨0, Nat.zero_le _, rfl, Qt.refl _, rfl⟩
  case round =>
    obtain ⟨k, hk, rfl, hq, ht⟩ := hrel
    have HT := Lib.hid ht
    have hb1 := (hb0 (.cells #[.int .i64 s, .slice (some ⟨b, off, none⟩) n cap] 24)).qt hq
    have k1 : wr.cell? ⟨w.heap.size, 0, none⟩ = some (.int .i64 s) := hq.cell (by go_simp)
    have k2 : wr.cell? ⟨w.heap.size, 1, none⟩ = some (.slice (some ⟨b, off, none⟩) n cap) := hq.cell (by go_simp)
    have HQ := Lib.hid hq
    clear ht hq
    by_cases hlt : k < n
    · obtain ⟨rv, h1, r1⟩ := HC.out k hlt
      replace h1 := hb1.keep h1
      replace r1 := r1.below hb1
      have hlt' : k < xss.length := by rw [HX.out]; exact hlt
      have hbad : edgeOk s (xss.getD k []) = false → grB s xss = false := fun h => by simp [grB, all_not hlt' h]
      have HB := Lib.hid hbad
      clear hbad
      by_cases h2 : (xss.getD k []).length = 2
      · obtain ⟨b', off', cap', rfl, g1, g2⟩ := r1.two h2
        generalize hx0 : (xss.getD k []).getD 0 0 = x0 at *
        generalize hx1 : (xss.getD k []).getD 1 0 = x1 at *
        have H0 := Lib.hid hx0
        have H1 := Lib.hid hx1
        have H2 := Lib.hid h2
        clear hx0 hx1 h2 r1
        cases i0 : inR x0 s with
        | false =>
          go_wp2
          go_quiet ((go_at_call 53; exact Calls.quiet_of (isIndex _ _ _)))
          go_wp2
          go_ret
          exact ⟨by rw [HB.out (edgeOk_0 (by rw [H0.out]; exact i0))]; rfl, hb1.drewN _⟩
        | true =>
          cases i1 : inR x1 s with
          | false =>
            go_wp2
            go_quiet ((go_at_call 53; exact Calls.quiet_of (isIndex _ _ _)))
            go_wp2
            go_ret
            exact ⟨by rw [HB.out (edgeOk_1 (by rw [H1.out]; exact i1))]; rfl, hb1.drewN _⟩
          | true =>
            go_wp2
            go_quiet ((go_at_call 53; exact Calls.quiet_of (isIndex _ _ _)))
            go_wp2
            go_roundw
            case rel => exact ⟨k+1, by omega, by go_num, HQ.out.drewN _, all_take hlt' HT.out (edgeOk_t H2.out (by rw [H0.out]; exact i0) (by rw [H1.out]; exact i1))⟩
            case measure => simp [intOf]; omega
      · obtain ⟨a', cap', rfl⟩ := r1.shape
        generalize hm : (xss.getD k []).length = m at *
        have HM := Lib.hid hm
        have hm2 : ((m : Int) != 2) = true := by simp; omega
        clear hm r1
        go_wp2
        go_quiet (fail)
        go_wp2
        go_ret
        exact ⟨by rw [HB.out (edgeOk_2 (by rw [HM.out]; exact h2))]; rfl, hb1.drewN _⟩
    · go_wp2
      go_ret
      obtain rfl : k = n := by omega
      have e1 : xss.take k = xss := List.take_of_length_le (by rw [HX.out]; exact Nat.le_refl _)
      have e2 := HT.out
      rw [e1] at e2
      exact ⟨by simp [grB, e2, hs1, hs2, HX.out, hn], hb1⟩

end Go.Proofs.YtnblhkhdilkbeaaDoor

/- IsGraph of the model. -/
namespace Go.Proofs.YtnblhkhdilkbeaaDoor
open Go.RowKit

theorem l01In (n l h : Int) (w : World) :
    Calls Tryd.prog 49 #[.int .i64 n, .int .i64 l, .int .i64 h] w fun e w' => e = .returned (.bool (decide (l ≤ n) && decide (n ≤ h))) ∧ Qt w w' := by
  by_cases h1 : l ≤ n
  · go_enter Tryd.func49, Tryd.ntmps49
    go_wp2
    go_ret
    exact ⟨by first | (simp [*]; done) | (simp [*]; intros; omega), Qt.refl _⟩
  · go_enter Tryd.func49, Tryd.ntmps49
    go_wp2
    go_ret
    exact ⟨by first | (simp [*]; done) | (simp [*]; intros; omega), Qt.refl _⟩

theorem l01InR (x s : Int) (h1 : 1 ≤ s) (h2 : s ≤ 8) (w : World) :
    Calls Tryd.prog 49 #[.int .i64 x, .int .i64 0, .int .i64 (s - 1)] w fun e w' => e = .returned (.bool (inR x s)) ∧ Qt w w' := by
  have e1 : inR x s = (decide (0 ≤ x) && decide (x ≤ s - 1)) := by
    unfold inR
    congr 1
    simp; omega
  rw [e1]
  exact l01In x 0 (s - 1) w

set_option maxHeartbeats 800000 in
theorem is_loop (n b off cap : Nat) (s : Int) (xss : List (List Int)) {lo hi : Nat} (w : World) (hn : n ≤ 10) (hs1 : 1 ≤ s) (hs2 : s ≤ 8) (hx : xss.length = n)
    (hc : ∀ j, j < n → ∃ rv, w.cell? ⟨b, off + j, none⟩ = some rv ∧ RdI lo hi w rv (xss.getD j [])) :
    Calls Tryd.prog 30 #[.agg #[.int .i64 s, .slice (some ⟨b, off, none⟩) n cap]] w fun e w' => e = .returned (.bool (grB s xss)) ∧ Below w.heap.size w w' := by
  have hb0 : ∀ o, Below w.heap.size w (w.alloc o) := fun o => (Below.refl _ _).alloc (Nat.le_refl _) o
  have HX := Lib.hid hx
  have HC := Lib.hid hc
  clear hx hc
  have hg : (decide (1 ≤ s) && decide (s ≤ 8)) = true := by simp; omega
  go_enter Tryd.func30, Tryd.ntmps30
  go_wp2_with (go_at_call 49; refine (l01In _ _ _ _).mono ?_; rintro e w' ⟨rfl, ⟨m0, rfl⟩⟩; rw [hg])
  go_loopw [3] (fun i wr => ∃ k : Nat, k ≤ n ∧ i = .int .i64 k ∧ Qt (w.alloc (.cells #[.int .i64 s, .slice (some ⟨b, off, none⟩) n cap] 24)) wr ∧ (xss.take k).all (edgeOk s) = true) (fun i _ => n - (intOf i).toNat)
  case atStart => exact ⟨0, Nat.zero_le _, rfl, (Qt.refl _).drewN _, rfl⟩
  case round =>
    obtain ⟨k, hk, rfl, hq, ht⟩ := hrel
    have hwr : IntKind.i64.wrap (s - 1) = s - 1 := IntWalk.i64_in _ (by omega)
    have HT := Lib.hid ht
    have hb1 := (hb0 (.cells #[.int .i64 s, .slice (some ⟨b, off, none⟩) n cap] 24)).qt hq
    have k1 : wr.cell? ⟨w.heap.size, 0, none⟩ = some (.int .i64 s) := hq.cell (by go_simp)
    have k2 : wr.cell? ⟨w.heap.size, 1, none⟩ = some (.slice (some ⟨b, off, none⟩) n cap) := hq.cell (by go_simp)
    have HQ := Lib.hid hq
    clear ht hq
    by_cases hlt : k < n
    · obtain ⟨rv, h1, r1⟩ := HC.out k hlt
      replace h1 := hb1.keep h1
      replace r1 := r1.below hb1
      have hlt' : k < xss.length := by rw [HX.out]; exact hlt
      have hbad : edgeOk s (xss.getD k []) = false → grB s xss = false := fun h => by simp [grB, all_not hlt' h]
      have HB := Lib.hid hbad
      clear hbad
      by_cases h2 : (xss.getD k []).length = 2
      · obtain ⟨b', off', cap', rfl, g1, g2⟩ := r1.two h2
        generalize hx0 : (xss.getD k []).getD 0 0 = x0 at *
        generalize hx1 : (xss.getD k []).getD 1 0 = x1 at *
        have H0 := Lib.hid hx0
        have H1 := Lib.hid hx1
        have H2 := Lib.hid h2
        clear hx0 hx1 h2 r1
        cases i0 : inR x0 s with
        | false =>
          go_wp2
          go_quiet ((go_at_call 49; exact Calls.quiet_of (l01InR _ _ (by omega) (by omega) _)))
          go_wp2
          go_ret
          exact ⟨by rw [HB.out (edgeOk_0 (by rw [H0.out]; exact i0))]; rfl, hb1.drewN _⟩
        | true =>
          cases i1 : inR x1 s with
          | false =>
            go_wp2
            go_quiet ((go_at_call 49; exact Calls.quiet_of (l01InR _ _ (by omega) (by omega) _)))
            go_wp2
            go_ret
            exact ⟨by rw [HB.out (edgeOk_1 (by rw [H1.out]; exact i1))]; rfl, hb1.drewN _⟩
          | true =>
            go_wp2
            go_quiet ((go_at_call 49; exact Calls.quiet_of (l01InR _ _ (by omega) (by omega) _)))
            go_wp2
            go_roundw
            case rel => exact ⟨k+1, by omega, by go_num, HQ.out.drewN _, all_take hlt' HT.out (edgeOk_t H2.out (by rw [H0.out]; exact i0) (by rw [H1.out]; exact i1))⟩
            case measure => simp [intOf]; omega
      · obtain ⟨a', cap', rfl⟩ := r1.shape
        generalize hm : (xss.getD k []).length = m at *
        have HM := Lib.hid hm
        have hm2 : ((m : Int) != 2) = true := by simp; omega
        clear hm r1
        go_wp2
        go_quiet (fail)
        go_wp2
        go_ret
        exact ⟨by rw [HB.out (edgeOk_2 (by rw [HM.out]; exact h2))]; rfl, hb1.drewN _⟩
    · go_wp2
      go_ret
      obtain rfl : k = n := by omega
      have e1 : xss.take k = xss := List.take_of_length_le (by rw [HX.out]; exact Nat.le_refl _)
      have e2 := HT.out
      rw [e1] at e2
      exact ⟨by simp [grB, e2, hs1, hs2, HX.out, hn], hb1⟩


end Go.Proofs.YtnblhkhdilkbeaaDoor

/- IsGraph of the program and of the model, for every graph value. -/
namespace Go.Proofs.YtnblhkhdilkbeaaDoor
open Go.RowKit

def hdB (s : Int) (n : Nat) : Bool := decide (1 ≤ s) && (decide (s ≤ 8) && decide (n ≤ 10))
theorem grB_eq (s : Int) (xss : List (List Int)) : grB s xss = (hdB s xss.length && xss.all (edgeOk s)) := by
  unfold hdB grB
  rw [Bool.and_assoc, Bool.and_assoc]
theorem grB_hd {s : Int} {xss : List (List Int)} (h : hdB s xss.length = false) : grB s xss = false := by
  rw [grB_eq, h]; rfl

theorem ig_bad (s : Int) (a : Option Addr) (n c : Nat) (w : World) (hn : n ≤ 8796093022208) (h : hdB s n = false) :
    Calls Tryd.prog 33 #[.agg #[.int .i64 s, .slice a n c]] w fun e w' => e = .returned (.bool false) ∧ Below w.heap.size w w' := by
  have hb0 : ∀ o, Below w.heap.size w (w.alloc o) := fun o => (Below.refl _ _).alloc (Nat.le_refl _) o
  by_cases h1 : 1 ≤ s
  · by_cases h2 : s ≤ 8
    · have h3 : ¬ n ≤ 10 := by intro h3; simp [hdB, h1, h2, h3] at h
      clear h
      go_enter Tryd.func33, Tryd.ntmps33
      go_wp2
      go_ret
      exact ⟨rfl, hb0 _⟩
    · clear h
      go_enter Tryd.func33, Tryd.ntmps33
      go_wp2
      go_ret
      exact ⟨rfl, hb0 _⟩
  · clear h
    go_enter Tryd.func33, Tryd.ntmps33
    go_wp2
    go_ret
    exact ⟨rfl, hb0 _⟩

theorem ig_nil (s : Int) (a : Option Addr) (c : Nat) (w : World) (h1 : 1 ≤ s) (h2 : s ≤ 8) :
    Calls Tryd.prog 33 #[.agg #[.int .i64 s, .slice a 0 c]] w fun e w' => e = .returned (.bool true) ∧ Below w.heap.size w w' := by
  have hb0 : ∀ o, Below w.heap.size w (w.alloc o) := fun o => (Below.refl _ _).alloc (Nat.le_refl _) o
  go_enter Tryd.func33, Tryd.ntmps33
  go_wp2
  refine wp_loop_rounds 1 ?_
  rw [rounds_succ]
  go_wp2
  go_ret
  exact ⟨rfl, hb0 _⟩

theorem implIsGraph {lo hi : Nat} (s : Int) (a : Option Addr) (n c : Nat) (xss : List (List Int)) (w : World) (h : RdR lo hi w (.slice a n c) xss) (hn : xss.length = n) :
    Calls Tryd.prog 33 #[.agg #[.int .i64 s, .slice a n c]] w fun e w' => e = .returned (.bool (grB s xss)) ∧ Below w.heap.size w w' := by
  subst hn
  cases hh : hdB s xss.length with
  | false =>
    rw [grB_hd hh]
    exact ig_bad s a _ c w h.1 hh
  | true =>
    have ⟨h1, h2, h3⟩ : 1 ≤ s ∧ s ≤ 8 ∧ xss.length ≤ 10 := by
      unfold hdB at hh
      simpa using hh
    obtain ⟨_, ⟨a', cap, rfl, hv⟩ | ⟨b, off, cap, hv, _, _, _, hc⟩⟩ := h
    · have : grB s [] = true := by simp [grB, h1, h2]
      rw [this]
      exact ig_nil s a c w h1 h2
    · simp only [Value.slice.injEq] at hv
      obtain ⟨rfl, _, rfl⟩ := hv
      exact ig_loop _ b off c s xss w h3 h1 h2 rfl hc

theorem is_bad (s : Int) (a : Option Addr) (n c : Nat) (w : World) (hn : n ≤ 8796093022208) (h : hdB s n = false) :
    Calls Tryd.prog 30 #[.agg #[.int .i64 s, .slice a n c]] w fun e w' => e = .returned (.bool false) ∧ Below w.heap.size w w' := by
  have hb0 : ∀ o, Below w.heap.size w (w.alloc o) := fun o => (Below.refl _ _).alloc (Nat.le_refl _) o
  cases hg : (decide (1 ≤ s) && decide (s ≤ 8)) with
  | true =>
    have ⟨h1, h2⟩ : 1 ≤ s ∧ s ≤ 8 := by simpa using hg
    have h3 : ¬ n ≤ 10 := by intro h3; simp [hdB, h1, h2, h3] at h
    clear h
    go_enter Tryd.func30, Tryd.ntmps30
    go_wp2_with (go_at_call 49; refine (l01In _ _ _ _).mono ?_; rintro e w' ⟨rfl, ⟨m0, rfl⟩⟩; rw [hg])
    go_ret
    exact ⟨rfl, (hb0 _).drewN _⟩
  | false =>
    clear h
    go_enter Tryd.func30, Tryd.ntmps30
    go_wp2_with (go_at_call 49; refine (l01In _ _ _ _).mono ?_; rintro e w' ⟨rfl, ⟨m0, rfl⟩⟩; rw [hg])
    go_ret
    exact ⟨rfl, (hb0 _).drewN _⟩

theorem is_nil (s : Int) (a : Option Addr) (c : Nat) (w : World) (h1 : 1 ≤ s) (h2 : s ≤ 8) :
    Calls Tryd.prog 30 #[.agg #[.int .i64 s, .slice a 0 c]] w fun e w' => e = .returned (.bool true) ∧ Below w.heap.size w w' := by
  have hb0 : ∀ o, Below w.heap.size w (w.alloc o) := fun o => (Below.refl _ _).alloc (Nat.le_refl _) o
  have hg : (decide (1 ≤ s) && decide (s ≤ 8)) = true := by simp; omega
  go_enter Tryd.func30, Tryd.ntmps30
  go_wp2_with (go_at_call 49; refine (l01In _ _ _ _).mono ?_; rintro e w' ⟨rfl, ⟨m0, rfl⟩⟩; rw [hg])
  refine wp_loop_rounds 1 ?_
  rw [rounds_succ]
  go_wp2
  go_ret
  exact ⟨rfl, (hb0 _).drewN _⟩

theorem l01Is {lo hi : Nat} (s : Int) (a : Option Addr) (n c : Nat) (xss : List (List Int)) (w : World) (h : RdR lo hi w (.slice a n c) xss) (hn : xss.length = n) :
    Calls Tryd.prog 30 #[.agg #[.int .i64 s, .slice a n c]] w fun e w' => e = .returned (.bool (grB s xss)) ∧ Below w.heap.size w w' := by
  subst hn
  cases hh : hdB s xss.length with
  | false =>
    rw [grB_hd hh]
    exact is_bad s a _ c w h.1 hh
  | true =>
    have ⟨h1, h2, h3⟩ : 1 ≤ s ∧ s ≤ 8 ∧ xss.length ≤ 10 := by
      unfold hdB at hh
      simpa using hh
    obtain ⟨_, ⟨a', cap, rfl, hv⟩ | ⟨b, off, cap, hv, _, _, _, hc⟩⟩ := h
    · have : grB s [] = true := by simp [grB, h1, h2]
      rw [this]
      exact is_nil s a c w h1 h2
    · simp only [Value.slice.injEq] at hv
      obtain ⟨rfl, _, rfl⟩ := hv
      exact is_loop _ b off c s xss w h3 h1 h2 rfl hc

end Go.Proofs.YtnblhkhdilkbeaaDoor

/- How the arguments of a law are read: lists of numbers. -/
namespace Go.Proofs.YtnblhkhdilkbeaaDoor
open Go.RowKit Go.ChangeShapes Go.WideShapes Go.ChangeAt

theorem own : ownKnob Tryd.prog.godebug = none := by kernel_rfl
theorem laidOut : laidOutB Tryd.prog = true := by kernel_rfl
theorem cellsI : Tryd.prog.cellsOf 2 = 1 := by kernel_rfl
theorem bytesI : Tryd.prog.bytesOf 2 = 8 := by kernel_rfl

theorem wf_I64 {x : Int} (h : (Lit.int .i64 x).wf = true) : I64 x := by
  have h1 : IntKind.i64.min = -9223372036854775808 := rfl
  have h2 : IntKind.i64.max = 9223372036854775807 := rfl
  simp only [Lit.wf, Bool.and_eq_true, decide_eq_true_eq] at h
  unfold I64; omega

set_option maxRecDepth 100000 in
/-- an argument that is a list of numbers -/
theorem openI {H : Type} {enc : TypeId × Value → H} {W : World} {base : Nat} {v : Value} {d : DataW H} {p : List MemPlace}
    (hok : Value.okWide Tryd.prog W .any base 25 v) (h : DataW.Trod enc Tryd.prog W 0 (fun _ => true) true 25 v d p)
    (hlt : ∀ x ∈ p, x.block < W.heap.size) (hs : ∀ es sp, d = .slice es sp → (es.length + sp.length) * Tryd.prog.bytesOf 2 ≤ reachBytes) :
    ∃ a n cap xs, v = .slice a n cap ∧ xs.length = n ∧ RdI 0 W.heap.size W v xs := by
  obtain ⟨a0, len, cap, rfl⟩ := okWide_slice Tryd.underlying25 hok
  obtain ⟨fuel, hf⟩ := h
  refine ⟨a0, len, cap, ?_⟩
  suffices hrd : ∃ xs, RdI 0 W.heap.size W (.slice a0 len cap) xs ∧ xs.length = len by
    obtain ⟨xs, h1, h2⟩ := hrd
    exact ⟨xs, rfl, h2, h1⟩
  rcases open_ints Tryd.underlying25 Tryd.underlying2 cellsI hf with ⟨hcs, hx⟩ | ⟨a, len', cap', zs, hcs, _, hl, hm, hz, hx, hcell, hwz⟩
  · simp [Value.cells] at hcs
    obtain ⟨rfl, rfl, rfl⟩ := hcs
    exact ⟨[], ⟨by simp, by simp, .inl ⟨_, _, rfl, rfl⟩⟩, rfl⟩
  · simp [Value.cells] at hcs
    obtain ⟨rfl, rfl, rfl⟩ := hcs
    simp only [Prod.mk.injEq] at hx
    obtain ⟨rfl, rfl⟩ := hx
    simp only [if_true] at hz
    have hreach : len * 8 ≤ 140737488351232 := by
      have := hs _ _ rfl
      rw [bytesI] at this
      simp only [lits, List.length_map, List.length_take, List.length_drop, reachBytes] at this
      omega
    by_cases hl0 : len = 0
    · subst hl0
      exact ⟨[], ⟨by simp, by simp, .inl ⟨_, _, rfl, rfl⟩⟩, rfl⟩
    · obtain ⟨b, off, spot⟩ := a
      have hspot : spot = none := by simpa [Addr.add] using World.cell?_spot (hcell 0 (by omega))
      subst hspot
      have hbW : b < W.heap.size := hlt (.cell b off) (MemPlace.mem_row.2 ⟨0, by omega, by simp⟩)
      have hlen : (zs.take len).length = len := by rw [List.length_take]; omega
      refine ⟨zs.take len, ⟨by omega, fun x hx => wf_I64 (hwz x (List.mem_of_mem_take hx)), .inr ⟨b, off, cap, by rw [hlen], by omega, Nat.zero_le _, hbW, fun j hj => ?_⟩⟩, hlen⟩
      have e := hcell j (by omega)
      rw [← add_plain, e]
      simp [List.getD, List.getElem?_take, show j < len by omega]

end Go.Proofs.YtnblhkhdilkbeaaDoor

/- How the arguments of a law are read: lists of lists of numbers. -/
namespace Go.Proofs.YtnblhkhdilkbeaaDoor
open Go.RowKit Go.ChangeShapes Go.WideShapes Go.ChangeAt Go.Deep

theorem cellsR : Tryd.prog.cellsOf 25 = 1 := by kernel_rfl
theorem bytesR : Tryd.prog.bytesOf 25 = 24 := by kernel_rfl

theorem weights_all_mem {H : Type} {P : Program} {e : TypeId} {l : List (DataW H)} {d : DataW H} (h : d ∈ l) : ∀ n ∈ d.weights P e, n ∈ DataW.weightsAll P e l := by
  induction l with
  | nil => cases h
  | cons x r ih =>
    intro n hn
    simp only [DataW.weightsAll, List.mem_append]
    cases List.mem_cons.1 h with
    | inl e => subst e; exact .inl hn
    | inr e => exact .inr (ih e n hn)

set_option maxRecDepth 100000 in
theorem openR_cell {H : Type} {enc : TypeId × Value → H} {W : World} {v : Value} {x : DataW H × List MemPlace} {fuel : Nat}
    (hf : DataW.trod enc Tryd.prog W 0 (fun _ => true) true fuel 22 [v] = some x) (hwt : ∀ n ∈ x.1.weights Tryd.prog 22, n ≤ reachBytes) :
    ∃ a n c xss, v = .slice a n c ∧ xss.length = n ∧ RdR 0 W.heap.size W v xss := by
  rcases open_int_rows Tryd.underlying22 Tryd.underlying25 Tryd.underlying2 cellsR cellsI hf with ⟨hcs, hx⟩ | ⟨a, len, cap, A, L, C, Z, hcs, _, hl, hm, hx, hall⟩
  · simp at hcs
    subst hcs
    exact ⟨none, 0, 0, [], rfl, rfl, by simp, .inl ⟨_, _, rfl, rfl⟩⟩
  · simp at hcs
    subst hcs
    by_cases hl0 : len = 0
    · subst hl0
      exact ⟨_, 0, cap, [], rfl, rfl, by simp, .inl ⟨_, _, rfl, rfl⟩⟩
    · obtain ⟨b, off, spot⟩ := a
      have h0 := (hall 0 (by omega)).1
      have hspot : spot = none := by simpa [Addr.add] using World.cell?_spot h0
      subst hspot
      have hbW : b < W.heap.size := World.block_lt_of_cell? W _ h0
      have e1 : x.1 = .slice ((List.range len).map fun r => intRow .i64 (A r) (L r) (Z r)) ((List.range (cap - len)).map fun j => intRow .i64 (A (len + j)) (L (len + j)) (Z (len + j))) := by rw [hx]
      rw [e1] at hwt
      simp only [DataW.weights, Tryd.underlying22] at hwt
      have hlen : len ≤ 5864062014805 := by
        have := hwt _ (List.mem_cons_self ..)
        rw [bytesR] at this
        simp only [List.length_map, List.length_range, reachBytes] at this
        omega
      have hrow : ∀ r, r < len → ∀ n ∈ (intRow (H := H) .i64 (A r) (L r) (Z r)).weights Tryd.prog 25, n ≤ reachBytes := fun r hr n hn =>
        hwt n (List.mem_cons_of_mem _ (List.mem_append_left _ (weights_all_mem (List.mem_map.2 ⟨r, List.mem_range.2 hr, rfl⟩) n hn)))
      refine ⟨_, len, cap, (List.range len).map (fun r => (Z r).take (L r)), rfl, by simp, by simp; omega, .inr ⟨b, off, cap, by simp, by simp; omega, Nat.zero_le _, hbW, fun j hj => ?_⟩⟩
      simp only [List.length_map, List.length_range] at hj
      obtain ⟨c1, c2, c3, c4, c5, c6, c7⟩ := hall j (by omega)
      refine ⟨_, by rw [← add_plain]; exact c1, ?_⟩
      have e2 : ((List.range len).map (fun r => (Z r).take (L r))).getD j [] = (Z j).take (L j) := by simp [List.getD, hj]
      rw [e2]
      by_cases hL : L j = 0
      · rw [hL]
        exact ⟨by simp, by simp, .inl ⟨_, _, by simp, rfl⟩⟩
      · cases hA : A j with
        | none => have := c6 hA; omega
        | some a' =>
          obtain ⟨b', off', spot'⟩ := a'
          have g0 := (c7 _ hA).2 0 (by omega)
          have hspot' : spot' = none := by simpa [Addr.add] using World.cell?_spot g0
          subst hspot'
          have hlz : ((Z j).take (L j)).length = L j := by rw [List.length_take]; omega
          have hr := hrow j hj
          rw [hA] at hr
          simp only [intRow, DataW.weights, Tryd.underlying25] at hr
          have hLb : L j * 8 ≤ 140737488351232 := by
            have := hr _ (List.mem_cons_self ..)
            rw [bytesI] at this
            simp only [lits, List.length_map, List.length_take, List.length_drop, reachBytes] at this
            omega
          refine ⟨by omega, fun x hx => wf_I64 (c5 x (List.mem_of_mem_take hx)), .inr ⟨b', off', C j, by rw [hlz], by omega, Nat.zero_le _, World.block_lt_of_cell? W _ g0, fun i hi => ?_⟩⟩
          have := (c7 _ hA).2 i (by omega)
          rw [← add_plain, this]
          simp [List.getD, List.getElem?_take, show i < L j by omega]

end Go.Proofs.YtnblhkhdilkbeaaDoor

/- How the arguments of a law are read: graphs. -/
namespace Go.Proofs.YtnblhkhdilkbeaaDoor
open Go.RowKit Go.ChangeShapes Go.WideShapes Go.ChangeAt Go.Deep Go.Joins

theorem cellsG : Tryd.prog.cellsOf 32 = 2 := by kernel_rfl

set_option maxRecDepth 100000 in
theorem openG {H : Type} {enc : TypeId × Value → H} {W : World} {base : Nat} {v : Value} {d : DataW H} {p : List MemPlace}
    (hok : Value.okWide Tryd.prog W .any base 32 v) (h : DataW.Trod enc Tryd.prog W 0 (fun _ => true) true 32 v d p)
    (hwt : ∀ n ∈ d.weights Tryd.prog 32, n ≤ reachBytes) :
    ∃ s a n c xss, v = .agg #[.int .i64 s, .slice a n c] ∧ xss.length = n ∧ RdR 0 W.heap.size W (.slice a n c) xss ∧ I64 s := by
  obtain ⟨c0, c1, y0, y1, m, rfl, rfl, rfl, hy0, hy1⟩ := open_agg2 Tryd.underlying32 (by kernel_rfl) cellsG hok h
  obtain ⟨s, e0, e1, ws⟩ := DataW.trod_int Tryd.underlying2 hy0
  have hw2 : ∀ n ∈ y1.1.weights Tryd.prog 22, n ≤ reachBytes := by
    intro n hn
    refine hwt n ?_
    simp only [DataW.weights, Tryd.underlying32, DataW.weightsEach, List.mem_append]
    simp [DataW.weightsEach, hn]
  obtain ⟨a, n, c, xss, rfl, hl, hr⟩ := openR_cell hy1 hw2
  simp at e0
  subst e0
  exact ⟨s, a, n, c, xss, rfl, hl, hr, wf_I64 ws⟩

end Go.Proofs.YtnblhkhdilkbeaaDoor
