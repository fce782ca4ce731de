/- The program's own sets of pairs of numbers: a map from pairs to bools. -/
import Derived.Test.YtgcidkcedfliiaaBase
import Derived.Test.YtgcidkcedfliiaaRow
import Derived.Maps.OwnOps
import Derived.Maps.OwnSet
import Derived.Maps.Views
import Derived.WideKeyPair
import Derived.DeepKeys4
set_option linter.unusedSimpArgs false
set_option linter.unusedVariables false
namespace Go.Proofs.Ytgcidkcedfliiaa
open Go.RowKit Go.Maps Go.WideMaps

theorem stepArr : ArrKey Try.prog 80 2 2 := ⟨Try.underlying80, by kernel_rfl, by kernel_rfl, by kernel_rfl⟩
theorem stepKey : Keyed Try.prog 80 := Keyed.of_law (deep_law_laid laidOut (m := 2) (by omega) (of_decide_eq_true (by kernel_rfl)) (by kernel_rfl) (by rw [Try.underlying80]))
theorem wfLit {a : Int} (h : I64 a) : (Lit.int .i64 a).wf = true := WalkArith.wf_i64 (by unfold I64 at h; omega)
def pk (a b : Int) : Lit := .string (keyBytes [.int .i64 a, .int .i64 b])
theorem pk_key {a b : Int} (ha : I64 a) (hb : I64 b) : keyOf Try.prog 80 (.agg #[.int .i64 a, .int .i64 b]) = some (pk a b) :=
  keyOf_pair stepArr Try.underlying2 (Nat.exists_eq_succ_of_ne_zero (of_decide_eq_true (by kernel_rfl))) (wfLit ha) (wfLit hb)
theorem pk_inj {a b c d : Int} (ha : I64 a) (hb : I64 b) (hc : I64 c) (hd : I64 d) (h : pk a b = pk c d) : a = c ∧ b = d := by
  have e := stepKey.inj (pk_key ha hb) (h ▸ pk_key hc hd)
  simp at e
  exact e

def MapB (w : World) (b n : Nat) (p : Int → Int → Bool) : Prop :=
  ∃ D : DataW Unit, w.ownsMap Try.prog 80 (plainElem Try.prog 4) b n D ∧ (∀ x y, I64 x → I64 y → D.atKey (pk x y) (.lit (.bool false)) = .lit (.bool (p x y))) ∧
    ∀ kl, has D kl = true → ∃ x y, I64 x ∧ I64 y ∧ kl = pk x y ∧ p x y = true

theorem MapB.made (w : World) : MapB (w.alloc (.map #[] 0)) w.heap.size 0 (fun _ _ => false) :=
  ⟨_, World.ownsMap_made _ _ _ _, fun _ _ _ _ => rfl, fun kl h => by cases h⟩
theorem MapB.lt {w : World} {b n : Nat} {p : Int → Int → Bool} (h : MapB w b n p) : b < w.heap.size := by
  obtain ⟨D, h, _⟩ := h
  exact h.lt
theorem MapB.keep {w w' : World} {b n : Nat} {p : Int → Int → Bool} (h : MapB w b n p) (hB : Below w.heap.size w w') : MapB w' b n p := by
  have hl := h.lt
  obtain ⟨D, ⟨es, clock, hb, F, hs, hD⟩, ha, hk⟩ := h
  exact ⟨D, ⟨es, clock, (hB.block b hl).trans hb, F, hs, hD⟩, ha, hk⟩
theorem zeroBool (w : World) : (zeroValue 4).run Try.prog w = .ok (.bool false) w := by kernel_rfl
theorem plainBool_inv {v : Value} {z : DataW Unit × List MemPlace} (h : plainElem Try.prog 4 v = some z) : ∃ a, v = .bool a ∧ z = (.lit (.bool a), []) := by
  unfold plainElem at h
  rw [Try.underlying4] at h
  cases v <;> simp at h
  exact ⟨_, rfl, h.symm⟩
theorem MapB.look {w : World} {b n : Nat} {p : Int → Int → Bool} (h : MapB w b n p) {x y : Int} (hx : I64 x) (hy : I64 y) :
    (Instr.lookup 78 (.map (some b)) (.agg #[.int .i64 x, .int .i64 y]) false).run Try.prog w = .ok (.bool (p x y)) w := by
  obtain ⟨D, h1, h2, _⟩ := h
  obtain ⟨v, ps, hrun, hv⟩ := h1.lookup stepKey Try.underlying78 (zeroBool w) (plainElem_bool Try.underlying4 false) (pk_key hx hy)
  obtain ⟨a, rfl, e⟩ := plainBool_inv hv
  rw [h2 x y hx hy] at e
  simp at e
  rw [hrun, e.1]

theorem wpList_update_mapB (w : World) {ops : Array Oper} {rest : List Oper} {o : Oper} {a : Act} {Q : Exit → Act → World → Prop}
    (hg : o.guard = none) (m x v : Operand) (hop : o.op = Op.mapUpdate 78 m x v) (b n : Nat) (p : Int → Int → Bool)
    (hm : a.eval m = .map (some b)) (h : MapB w b n p) (hn : n < maxLen) (e f : Int) (he : I64 e) (hf : I64 f) (hx : a.eval x = .agg #[.int .i64 e, .int .i64 f]) (hv : a.eval v = .bool true)
    (hK : ∀ w', MapB w' b (n + 1) (fun x y => p x y || (x == e && y == f)) → w.grownBy w' (some b) → wpList Try.prog ops Q rest (a.put o.dst undef) w') :
    wpList Try.prog ops Q (o :: rest) a w := by
  obtain ⟨D, h1, h2, h3⟩ := h
  refine wpList_mapUpdate_own w hg m x v _ hop _ _ stepKey Try.underlying78 _ b n D hm h1 hn _ _ (pk e f) hx hv (pk_key he hf) (.lit (.bool true)) [] (plainElem_bool Try.underlying4 true) ?_
  intro w' hm3 hgr
  refine hK w' ⟨_, hm3, fun x y ix iy => ?_, fun kl hkl => ?_⟩ hgr
  rotate_left
  · by_cases hc : kl = pk e f
    · exact ⟨e, f, he, hf, hc, by simp⟩
    · rw [has_put_other hc] at hkl
      obtain ⟨x, y, ix, iy, e1, e2⟩ := h3 kl hkl
      exact ⟨x, y, ix, iy, e1, by simp [e2]⟩
  by_cases hc : x = e ∧ y = f
  · obtain ⟨rfl, rfl⟩ := hc
    rw [atKey_put_same h1.isMap (stepKey.key (pk_key ix iy))]
    simp
  · rw [atKey_put_other (fun e' => hc (pk_inj ix iy he hf e')), h2 x y ix iy]
    have : (x == e && y == f) = false := by simpa using hc
    simp [this]

end Go.Proofs.Ytgcidkcedfliiaa
