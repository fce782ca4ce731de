/- What the proofs of this seat share: a slice value reads as a list, or owns it; draws; worlds that agree below a block. -/
import Derived.Test.YtpnedjhgjellnaaRows
import Derived.WalkKit
import Derived.WalkSpells
import Derived.WalkLawsBesides
import Derived.ProofKit
import Derived.SizedLaws
import Derived.Lib.Hide
import Derived.Deep.QuietTactic
import Derived.BigQuiet
set_option linter.unusedSimpArgs false
set_option linter.unusedVariables false
namespace Go.RowKit
theorem Below.drewN {B : Nat} {a w : World} (h : Below B a w) (n : Nat) : Below B a (w.drewN n) := ⟨h.os, h.tape, h.output, h.size, h.block⟩
theorem Below.next {w w1 w2 : World} (h : Below w.heap.size w w1) (k : Below w1.heap.size w1 w2) : Below w.heap.size w w2 := h.trans (k.mono h.size)
end Go.RowKit
namespace Go.Proofs.Ytpnedjhgjellnaa
open Go.RowKit

theorem Try.info2 : (Try.prog.info? 2).map (fun i => (i.zero, i.size, i.bytes)) = some (some (.int .i64 0), 1, 8) := by kernel_rfl

def I64 (x : Int) : Prop := -9223372036854775808 ≤ x ∧ x ≤ 9223372036854775807

/-- the slice value v reads as the list xs -/
def RdI (w : World) (v : Value) (xs : List Int) : Prop :=
  xs.length ≤ 17592186044416 ∧ (∀ x ∈ xs, I64 x) ∧
  ((∃ a cap, xs = [] ∧ v = .slice a 0 cap) ∨
  (∃ b off cap, v = .slice (some ⟨b, off, none⟩) xs.length cap ∧ b < w.heap.size ∧
    ∀ j, j < xs.length → w.cell? ⟨b, off + j, none⟩ = some (.int .i64 (xs.getD j 0))))

theorem RdI.below {w w' : World} {v : Value} {xs : List Int} (h : RdI w v xs) (hb : Below w.heap.size w w') : RdI w' v xs := by
  obtain ⟨h1, h2, h⟩ := h
  refine ⟨h1, h2, ?_⟩
  rcases h with h | ⟨b, off, cap, hv, hlt, hc⟩
  · exact .inl h
  · exact .inr ⟨b, off, cap, hv, Nat.lt_of_lt_of_le hlt hb.size, fun j hj => (hb.cell hlt).trans (hc j hj)⟩

def Qt (w w' : World) : Prop := ∃ m, w' = w.drewN m
theorem Qt.refl (w : World) : Qt w w := ⟨0, rfl⟩
theorem Qt.drew {w a : World} (h : Qt w a) : Qt w a.drew := by obtain ⟨m, rfl⟩ := h; exact ⟨m+1, rfl⟩
theorem Qt.drewN {w a : World} (h : Qt w a) (n : Nat) : Qt w (a.drewN n) := by obtain ⟨m, rfl⟩ := h; exact ⟨m+n, World.drewN_drewN _ _ _⟩
theorem Qt.trans {w a b : World} (h : Qt w a) (k : Qt a b) : Qt w b := by obtain ⟨m, rfl⟩ := h; obtain ⟨n, rfl⟩ := k; exact ⟨m+n, World.drewN_drewN _ _ _⟩
theorem Qt.below {w a : World} (h : Qt w a) : Below w.heap.size w a := by obtain ⟨m, rfl⟩ := h; exact ⟨rfl, rfl, rfl, Nat.le_refl _, fun _ _ => rfl⟩

/-- the slice value v, made by the call (its block from B on), owns the list xs -/
def OwI (B : Nat) (w : World) (v : Value) (xs : List Int) : Prop :=
  xs.length ≤ 17592186044416 ∧ (∀ x ∈ xs, I64 x) ∧ w.ownsRow B 2 1 v xs.length (xs.map (Value.int .i64))

theorem OwI.rd {B : Nat} {w : World} {v : Value} {xs : List Int} (h : OwI B w v xs) : RdI w v xs := by
  obtain ⟨h1, h2, h3⟩ := h
  refine ⟨h1, h2, ?_⟩
  have h3' := h3
  obtain ⟨_, h4⟩ := h3
  rcases h4 with ⟨h4, h5⟩ | ⟨g, cap, cur, hv, hg, hh, hn, hcap, hsz, ht⟩
  · exact .inl ⟨none, 0, List.length_eq_zero_iff.1 h5, h4⟩
  · refine .inr ⟨g, 0, cap, hv, (Array.getElem?_eq_some_iff.1 hh).1, fun j hj => ?_⟩
    subst hv
    rw [Nat.zero_add, h3'.cellAt j (by omega)]
    simp [List.getD, List.getElem?_eq_getElem hj]

theorem OwI.below {B : Nat} {w w' : World} {v : Value} {xs : List Int} (h : OwI B w v xs) (hb : Below w.heap.size w w') : OwI B w' v xs :=
  ⟨h.1, h.2.1, h.2.2.kept (row := none) ⟨hb.os, hb.tape, hb.output, hb.size, fun k hk _ => hb.block k hk⟩ (by cases h : v.ownBlock <;> simp)⟩

theorem OwI.mono {B B' : Nat} {w : World} {v : Value} {xs : List Int} (h : OwI B w v xs) (hb : B' ≤ B) : OwI B' w v xs := by
  obtain ⟨h1, h2, h3, h4⟩ := h
  refine ⟨h1, h2, h3, ?_⟩
  rcases h4 with h4 | ⟨g, cap, cur, hv, hg, r⟩
  · exact .inl h4
  · exact .inr ⟨g, cap, cur, hv, Nat.le_trans hb hg, r⟩



theorem RdI.qt {w w' : World} {v : Value} {xs : List Int} (h : RdI w v xs) (hq : Qt w w') : RdI w' v xs := h.below hq.below
theorem RdI.shape {w : World} {v : Value} {xs : List Int} (h : RdI w v xs) : ∃ a cap, v = .slice a xs.length cap := by
  obtain ⟨_, _, ⟨a, cap, rfl, h⟩ | ⟨b, off, cap, h, _⟩⟩ := h
  · exact ⟨a, cap, h⟩
  · exact ⟨_, cap, h⟩
theorem _root_.Go.RowKit.Below.qt {w w1 w2 : World} (h : Below w.heap.size w w1) (k : Qt w1 w2) : Below w.heap.size w w2 := h.next k.below

end Go.Proofs.Ytpnedjhgjellnaa
