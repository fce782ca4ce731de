/- What the proofs of this seat share: draws; worlds that agree outside a range of blocks; a slice value reads as a list of numbers, or owns it. -/
import Derived.Test.YtgcidkcedfliiaaRows
import Derived.WalkKit
import Derived.WalkSpells
import Derived.WalkLawsBesides
import Derived.ProofKit
import Derived.SizedLaws
import Derived.Lib.Hide
import Derived.Deep.QuietTactic
import Derived.BigQuiet
set_option linter.unusedSimpArgs false
set_option linter.unusedVariables false
namespace Go.RowKit
theorem Below.drewN {B : Nat} {a w : World} (h : Below B a w) (n : Nat) : Below B a (w.drewN n) := ⟨h.os, h.tape, h.output, h.size, h.block⟩
theorem Below.next {w w1 w2 : World} (h : Below w.heap.size w w1) (k : Below w1.heap.size w1 w2) : Below w.heap.size w w2 := h.trans (k.mono h.size)

/-- only draws lie between two worlds -/
def Qt (w w' : World) : Prop := ∃ m, w' = w.drewN m
theorem Qt.refl (w : World) : Qt w w := ⟨0, rfl⟩
theorem Qt.drew {w a : World} (h : Qt w a) : Qt w a.drew := by obtain ⟨m, rfl⟩ := h; exact ⟨m+1, rfl⟩
theorem Qt.drewN {w a : World} (h : Qt w a) (n : Nat) : Qt w (a.drewN n) := by obtain ⟨m, rfl⟩ := h; exact ⟨m+n, World.drewN_drewN _ _ _⟩
theorem Qt.trans {w a b : World} (h : Qt w a) (k : Qt a b) : Qt w b := by obtain ⟨m, rfl⟩ := h; obtain ⟨n, rfl⟩ := k; exact ⟨m+n, World.drewN_drewN _ _ _⟩
theorem Qt.below {w a : World} (h : Qt w a) : Below w.heap.size w a := by obtain ⟨m, rfl⟩ := h; exact ⟨rfl, rfl, rfl, Nat.le_refl _, fun _ _ => rfl⟩
theorem Below.qt {w w1 w2 : World} (h : Below w.heap.size w w1) (k : Qt w1 w2) : Below w.heap.size w w2 := h.next k.below

theorem Below.keep {W w1 : World} (h : Below W.heap.size W w1) {p : Addr} {v : Value} (hc : W.cell? p = some v) : w1.cell? p = some v := (h.cell (World.block_lt_of_cell? W p hc)).trans hc
theorem Below.keepf {W w1 : World} (h : Below W.heap.size W w1) {p : Addr} (hp : p.block < W.heap.size) {b : Bool} (hc : W.frozen? p = b) : w1.frozen? p = b := (h.frozen hp).trans hc
theorem calls_gen {P : Program} {f : FuncId} {args : Array Value} {W : World} {Q : Ending → World → Prop} (S : World → Prop) (h : S W) (k : ∀ W', S W' → Calls P f args W' Q) : Calls P f args W Q := k W h

/-- of the blocks that were there only those from lo up to hi may have turned -/
structure Chg (lo hi : Nat) (w w' : World) : Prop where
  os : w'.os = w.os
  tape : w'.tape = w.tape
  output : w'.output = w.output
  size : w.heap.size ≤ w'.heap.size
  block : ∀ k, k < w.heap.size → (k < lo ∨ hi ≤ k) → w'.heap[k]? = w.heap[k]?
theorem Chg.refl (lo hi : Nat) (w : World) : Chg lo hi w w := ⟨rfl, rfl, rfl, Nat.le_refl _, fun _ _ _ => rfl⟩
theorem Chg.trans {lo hi : Nat} {a b c : World} (h : Chg lo hi a b) (k : Chg lo hi b c) : Chg lo hi a c :=
  ⟨k.os.trans h.os, k.tape.trans h.tape, k.output.trans h.output, Nat.le_trans h.size k.size, fun i hi h' => (k.block i (Nat.lt_of_lt_of_le hi h.size) h').trans (h.block i hi h')⟩
theorem Chg.mono {lo hi lo' hi' : Nat} {w w' : World} (h : Chg lo hi w w') (h1 : lo' ≤ lo) (h2 : hi ≤ hi') : Chg lo' hi' w w' :=
  ⟨h.os, h.tape, h.output, h.size, fun k hk h' => h.block k hk (by omega)⟩
theorem Below.chg {w w' : World} (h : Below w.heap.size w w') (lo hi : Nat) : Chg lo hi w w' := ⟨h.os, h.tape, h.output, h.size, fun k hk _ => h.block k hk⟩
theorem Qt.chg {w w' : World} (h : Qt w w') (lo hi : Nat) : Chg lo hi w w' := h.below.chg lo hi
theorem Qt.cell {w w' : World} (h : Qt w w') {p : Addr} {v : Value} (hc : w.cell? p = some v) : w'.cell? p = some v := by obtain ⟨m, rfl⟩ := h; exact hc
theorem Chg.below {lo hi B : Nat} {w w' : World} (h : Chg lo hi w w') (h1 : B ≤ lo) (h2 : B ≤ w.heap.size) : Below B w w' :=
  ⟨h.os, h.tape, h.output, h.size, fun k hk => h.block k (by omega) (by omega)⟩
theorem Below.chgn {B lo hi : Nat} {w w1 w2 : World} (h : Below B w w1) (k : Chg lo hi w1 w2) (h1 : B ≤ lo) (h2 : B ≤ w1.heap.size) : Below B w w2 := h.trans (k.below h1 h2)
theorem Chg.grown {w w' : World} {lo hi : Nat} {row : Option Nat} (h : w.grownBy w' row) (hr : ∀ k, row = some k → lo ≤ k ∧ k < hi) : Chg lo hi w w' :=
  ⟨h.os, h.tape, h.output, h.size, fun k hk h' => h.block k hk (fun e => by have := hr k e.symm; omega)⟩
theorem Chg.setCell {lo hi : Nat} {a w : World} (h : Chg lo hi a w) {p : Addr} (hp : lo ≤ p.block ∧ p.block < hi) (u : Value) : Chg lo hi a (w.setCell p u) :=
  h.trans ⟨rfl, rfl, rfl, by simp [World.setCell], fun k hk h' => Below.heap_setCell _ _ _ _ (by omega)⟩
theorem Chg.cell {lo hi : Nat} {w w' : World} (h : Chg lo hi w w') {p : Addr} {v : Value} (hc : w.cell? p = some v) (hp : p.block < lo ∨ hi ≤ p.block) : w'.cell? p = some v :=
  (World.cell?_of_block (w := w) (h.block p.block (World.block_lt_of_cell? w p hc) hp)).trans hc

theorem ownsRow_chg {w w' : World} {lo hi B e size n : Nat} {v : Value} {xs : List Value} (h : w.ownsRow B e size v n xs) (hg : Chg lo hi w w') (hne : ∀ k, v.ownBlock = some k → k < lo ∨ hi ≤ k) : w'.ownsRow B e size v n xs := by
  refine ⟨h.1, ?_⟩
  rcases h.2 with hn | ⟨g, cap, cur, rfl, hb, hgg, rest⟩
  · exact .inl hn
  · refine .inr ⟨g, cap, cur, rfl, hb, ?_, rest⟩
    rw [hg.block g (Array.getElem?_eq_some_iff.1 hgg).1 (hne g rfl)]
    exact hgg
end Go.RowKit
namespace Go.Proofs.Ytgcidkcedfliiaa
open Go.RowKit

theorem Try.info2 : (Try.prog.info? 2).map (fun i => (i.zero, i.size, i.bytes)) = some (some (.int .i64 0), 1, 8) := by kernel_rfl

def I64 (x : Int) : Prop := -9223372036854775808 ≤ x ∧ x ≤ 9223372036854775807

/-- the slice value v reads as the list xs; its block lies from lo up to hi -/
def RdI (lo hi : Nat) (w : World) (v : Value) (xs : List Int) : Prop :=
  xs.length ≤ 17592186044416 ∧ (∀ x ∈ xs, I64 x) ∧
  ((∃ a cap, xs = [] ∧ v = .slice a 0 cap) ∨
  (∃ b off cap, v = .slice (some ⟨b, off, none⟩) xs.length cap ∧ 0 < xs.length ∧ lo ≤ b ∧ b < hi ∧
    ∀ j, j < xs.length → w.cell? ⟨b, off + j, none⟩ = some (.int .i64 (xs.getD j 0))))

theorem RdI.chg {lo hi lo' hi' : Nat} {w w' : World} {v : Value} {xs : List Int} (h : RdI lo hi w v xs) (hb : Chg lo' hi' w w') (hs : hi ≤ lo' ∨ hi' ≤ lo) : RdI lo hi w' v xs := by
  obtain ⟨h1, h2, h⟩ := h
  refine ⟨h1, h2, ?_⟩
  rcases h with h | ⟨b, off, cap, hv, h0, hlo, hhi, hc⟩
  · exact .inl h
  · exact .inr ⟨b, off, cap, hv, h0, hlo, hhi, fun j hj => hb.cell (hc j hj) (show b < lo' ∨ hi' ≤ b by omega)⟩
theorem RdI.below {lo hi : Nat} {w w' : World} {v : Value} {xs : List Int} (h : RdI lo hi w v xs) (hb : Below w.heap.size w w') : RdI lo hi w' v xs := h.chg (hb.chg 0 0) (.inr (Nat.zero_le _))
theorem RdI.qt {lo hi : Nat} {w w' : World} {v : Value} {xs : List Int} (h : RdI lo hi w v xs) (hq : Qt w w') : RdI lo hi w' v xs := h.below hq.below
theorem RdI.shape {lo hi : Nat} {w : World} {v : Value} {xs : List Int} (h : RdI lo hi w v xs) : ∃ a cap, v = .slice a xs.length cap := by
  obtain ⟨_, _, ⟨a, cap, rfl, h⟩ | ⟨b, off, cap, h, _⟩⟩ := h
  · exact ⟨a, cap, h⟩
  · exact ⟨_, cap, h⟩

/-- the slice value v owns the list xs, in a block from lo up to hi -/
def OwI (lo hi : Nat) (w : World) (v : Value) (xs : List Int) : Prop :=
  xs.length ≤ 17592186044416 ∧ (∀ x ∈ xs, I64 x) ∧ w.ownsRow lo 2 1 v xs.length (xs.map (Value.int .i64)) ∧ (∀ k, v.ownBlock = some k → k < hi)

theorem OwI.mk {lo n : Nat} {w : World} {v : Value} {xs : List Int} (h : w.ownsRow lo 2 1 v n (xs.map (Value.int .i64))) (h1 : n ≤ 17592186044416) (h2 : ∀ x ∈ xs, I64 x) : OwI lo w.heap.size w v xs := by
  have hn : xs.length = n := by have := h.1; simpa using this
  subst hn
  exact ⟨h1, h2, h, fun k hk => (h.lt k hk).2⟩

theorem OwI.rd {lo hi : Nat} {w : World} {v : Value} {xs : List Int} (h : OwI lo hi w v xs) : RdI lo hi w v xs := by
  obtain ⟨h1, h2, h3, hh⟩ := h
  refine ⟨h1, h2, ?_⟩
  have h3' := h3
  obtain ⟨_, h4⟩ := h3
  rcases h4 with ⟨h4, h5⟩ | ⟨g, cap, cur, hv, hg, hhp, hn, hcap, hsz, ht⟩
  · exact .inl ⟨none, 0, List.length_eq_zero_iff.1 h5, h4⟩
  · by_cases h0 : xs.length = 0
    · exact .inl ⟨some ⟨g, 0, none⟩, cap, List.length_eq_zero_iff.1 h0, by rw [hv, h0]⟩
    · subst hv
      refine .inr ⟨g, 0, cap, rfl, by omega, hg, hh g rfl, fun j hj => ?_⟩
      rw [Nat.zero_add, h3'.cellAt j (by omega)]
      simp [List.getD, List.getElem?_eq_getElem hj]

theorem OwI.chg {lo hi lo' hi' : Nat} {w w' : World} {v : Value} {xs : List Int} (h : OwI lo hi w v xs) (hb : Chg lo' hi' w w') (hs : hi ≤ lo' ∨ hi' ≤ lo) : OwI lo hi w' v xs :=
  ⟨h.1, h.2.1, ownsRow_chg h.2.2.1 hb (fun k hk => by have h1 := h.2.2.2 k hk; have h2 := (h.2.2.1.lt k hk).1; omega), h.2.2.2⟩
theorem OwI.below {lo hi : Nat} {w w' : World} {v : Value} {xs : List Int} (h : OwI lo hi w v xs) (hb : Below w.heap.size w w') : OwI lo hi w' v xs := h.chg (hb.chg 0 0) (.inr (Nat.zero_le _))
theorem OwI.qt {lo hi : Nat} {w w' : World} {v : Value} {xs : List Int} (h : OwI lo hi w v xs) (hq : Qt w w') : OwI lo hi w' v xs := h.below hq.below

end Go.Proofs.Ytgcidkcedfliiaa
