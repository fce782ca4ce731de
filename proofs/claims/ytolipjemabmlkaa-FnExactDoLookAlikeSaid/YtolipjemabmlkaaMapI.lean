/- The program's own counts of pairs: a map from edges to numbers. -/
import Derived.Test.YtolipjemabmlkaaCoreB
import Derived.WideKeyEntry
set_option linter.unusedSimpArgs false
set_option linter.unusedVariables false
namespace Go.Proofs.Ytolipjemabmlkaa
open Go.RowKit Go.Maps Go.WideMaps Go.ChangeMaps Go.MapKept Go.ChangeShapes Go.WideShapes Go.WideElems

theorem edgeArr : ArrKey Try.prog 71 2 2 := ⟨Try.underlying71, by kernel_rfl, by kernel_rfl, by kernel_rfl⟩
theorem edgeLaw : KeyLaw Try.prog 71 := deep_law_laid laidOut (m := 2) (by omega) (of_decide_eq_true (by kernel_rfl)) (by kernel_rfl) (by rw [Try.underlying71])
theorem edgeKey : Keyed Try.prog 71 := Keyed.of_law edgeLaw
theorem ek_key {a b : Int} (ha : I64 a) (hb : I64 b) : keyOf Try.prog 71 (.agg #[.int .i64 a, .int .i64 b]) = some (pk a b) :=
  keyOf_pair edgeArr Try.underlying2 (Nat.exists_eq_succ_of_ne_zero (of_decide_eq_true (by kernel_rfl))) (wfLit ha) (wfLit hb)

def MapI (w : World) (b n : Nat) (p : Int → Int → Int) : Prop :=
  ∃ D : DataW Unit, w.ownsMap Try.prog 71 (plainElem Try.prog 2) b n D ∧ ∀ x y, I64 x → I64 y → D.atKey (pk x y) (.lit (.int .i64 0)) = .lit (.int .i64 (p x y))
theorem MapI.made (w : World) : MapI (w.alloc (.map #[] 0)) w.heap.size 0 (fun _ _ => 0) := ⟨_, World.ownsMap_made _ _ _ _, fun _ _ _ _ => rfl⟩
theorem MapI.lt {w : World} {b n : Nat} {p : Int → Int → Int} (h : MapI w b n p) : b < w.heap.size := by
  obtain ⟨D, h, _⟩ := h
  exact h.lt
theorem MapI.keep {w w' : World} {b n : Nat} {p : Int → Int → Int} (h : MapI w b n p) (hB : Below w.heap.size w w') : MapI w' b n p := by
  have hl := h.lt
  obtain ⟨D, ⟨es, clock, hb, F, hs, hD⟩, ha⟩ := h
  exact ⟨D, ⟨es, clock, (hB.block b hl).trans hb, F, hs, hD⟩, ha⟩
theorem MapI.chg {lo hi : Nat} {w w' : World} {b n : Nat} {p : Int → Int → Int} (h : MapI w b n p) (hB : Chg lo hi w w') (ho : b < lo ∨ hi ≤ b) : MapI w' b n p := by
  have hl := h.lt
  obtain ⟨D, ⟨es, clock, hb, F, hs, hD⟩, ha⟩ := h
  exact ⟨D, ⟨es, clock, (hB.block b hl ho).trans hb, F, hs, hD⟩, ha⟩
theorem zeroInt (w : World) : (zeroValue 2).run Try.prog w = .ok (.int .i64 0) w := by kernel_rfl
theorem MapI.look {w : World} {b n : Nat} {p : Int → Int → Int} (h : MapI w b n p) {x y : Int} (hx : I64 x) (hy : I64 y) :
    (Instr.lookup 95 (.map (some b)) (.agg #[.int .i64 x, .int .i64 y]) false).run Try.prog w = .ok (.int .i64 (p x y)) w := by
  obtain ⟨D, h1, h2⟩ := h
  obtain ⟨c, hrun, hat, _⟩ := h1.lookup_int edgeKey Try.underlying95 Try.underlying2 (zeroInt w) (ek_key hx hy)
  rw [h2 x y hx hy] at hat
  simp at hat
  rw [hrun, hat]

/-- the entry alone: it reads as before -/
theorem MapI.entry1 {w : World} {b n : Nat} {p : Int → Int → Int} (h : MapI w b n p) (hn : n < maxLen) {x y : Int} (hx : I64 x) (hy : I64 y) {v1 : Value} {w1 : World}
    (he : (Instr.mapEntry 95 (.map (some b)) (.agg #[.int .i64 x, .int .i64 y])).run Try.prog w = .ok v1 w1) : MapI w1 b (n + 1) p := by
  have hlk := h.look hx hy
  obtain ⟨D, ⟨es, clock, hb, F, hs, hD⟩, h2⟩ := h
  have hkey := ek_key hx hy
  have hlt : b < w.heap.size := (Array.getElem?_eq_some_iff.1 hb).1
  rcases edgeLaw.find w hkey es.toList F.keys with ⟨h1, h3⟩ | ⟨j, e0, h1, h3, h4⟩
  · have a1 : (Instr.mapEntry 95 (.map (some b)) (.agg #[.int .i64 x, .int .i64 y])).run Try.prog w = .ok (.tuple #[.int .i64 0, goInt clock]) (setBlock w b (.map (es.push ⟨.agg #[.int .i64 x, .int .i64 y], .int .i64 0, clock⟩) (clock + 1))) := by
      simp [Instr.mapEntry, run_underlying Try.underlying95, MapKept.run_getObj_map hb, edgeLaw.check w false hkey, h1, zeroInt, MapKept.run_setObj_map _ hb, Result.andThen, setBlock]
    have a2 : (Instr.mapUpdate 95 (.map (some b)) (.agg #[.int .i64 x, .int .i64 y]) (.int .i64 0)).run Try.prog w = .ok () (setBlock w b (.map (es.push ⟨.agg #[.int .i64 x, .int .i64 y], .int .i64 0, clock⟩) (clock + 1))) := by
      simp [Instr.mapUpdate, run_underlying Try.underlying95, MapKept.run_getObj_map hb, edgeLaw.check w false hkey, h1, MapKept.run_setObj_map _ hb, Result.andThen, setBlock]
    have a3 : (Instr.lookup 95 (.map (some b)) (.agg #[.int .i64 x, .int .i64 y]) false).run Try.prog w = .ok (.int .i64 0) w := by
      simp [Instr.lookup, run_underlying Try.underlying95, MapKept.run_getObj_map hb, edgeLaw.check w es.isEmpty hkey, h1, zeroInt, Result.andThen]
    have hp0 : p x y = 0 := by
      rw [a3] at hlk
      simpa using hlk.symm
    have h1o : w.ownsMap Try.prog 71 (plainElem Try.prog 2) b n D := ⟨es, clock, hb, F, hs, hD⟩
    obtain ⟨w', f1, f2, f3⟩ := h1o.update edgeKey Try.underlying95 hn hkey (plainElem_int Try.underlying2 (wfLit (show I64 0 by unfold I64; omega)))
    rw [a2] at f1
    rw [a1] at he
    have ew : w1 = w' := by
      have e1 : setBlock w b (.map (es.push ⟨.agg #[.int .i64 x, .int .i64 y], .int .i64 0, clock⟩) (clock + 1)) = w' := by simpa using f1
      have e2 : setBlock w b (.map (es.push ⟨.agg #[.int .i64 x, .int .i64 y], .int .i64 0, clock⟩) (clock + 1)) = w1 := by
        simp at he; exact he.2
      rw [← e2, e1]
    rw [ew]
    refine ⟨_, f2, fun x' y' ix iy => ?_⟩
    by_cases hc : x' = x ∧ y' = y
    · obtain ⟨rfl, rfl⟩ := hc
      rw [atKey_put_same h1o.isMap (edgeKey.key (ek_key ix iy)), hp0]
    · rw [atKey_put_other (fun e' => hc (pk_inj ix iy hx hy e')), h2 x' y' ix iy]
  · have hj : es[j]? = some e0 := by simpa using h3
    have hsame : es.modify j (fun e => { e with key := .agg #[.int .i64 x, .int .i64 y] }) = es := by
      apply Array.ext'
      rw [Array.toList_modify, modify_eq_set _ _ _ _ h3]
      have : ({ e0 with key := .agg #[.int .i64 x, .int .i64 y] } : MapEntry) = e0 := by rw [← h4]
      rw [this]
      exact WideElems.set_self _ _ _ h3
    have a1 : (Instr.mapEntry 95 (.map (some b)) (.agg #[.int .i64 x, .int .i64 y])).run Try.prog w = .ok (.tuple #[e0.val, goInt e0.born]) (setBlock w b (.map es clock)) := by
      simp [Instr.mapEntry, run_underlying Try.underlying95, MapKept.run_getObj_map hb, edgeLaw.check w false hkey, h1, hj, h4, edgeLaw.stays w hkey, hsame, MapKept.run_setObj_map _ hb, Result.andThen, setBlock]
    rw [a1] at he
    have e2 : setBlock w b (.map es clock) = w1 := by simp at he; exact he.2
    rw [← e2]
    exact ⟨D, ⟨es, clock, by simp [setBlock, hlt], F, by omega, hD⟩, h2⟩

/-- m[k]++: the entry, then the store -/
theorem MapI.entry {w : World} {b n : Nat} {p : Int → Int → Int} (h : MapI w b n p) (hn : n < maxLen) {x y v : Int} (hx : I64 x) (hy : I64 y) (hv : I64 v) :
    ∃ (v0 : Value) (st : Nat) (w1 w2 : World), (Instr.mapEntry 95 (.map (some b)) (.agg #[.int .i64 x, .int .i64 y])).run Try.prog w = .ok (.tuple #[v0, .int .i64 st]) w1 ∧
      (Instr.entryStore 95 (.map (some b)) (.int .i64 st) (.int .i64 v)).run Try.prog w1 = .ok () w2 ∧ MapI w2 b (n + 1) (fun x' y' => if x' = x ∧ y' = y then v else p x' y') ∧ w.grownBy w2 (some b) ∧ w.grownBy w1 (some b) := by
  obtain ⟨D, ⟨es, clock, hb, F, hs, hD⟩, h2⟩ := h
  obtain ⟨v0, st, es1, clock1, e1, _, e3⟩ := WideElems.entry_then_store edgeLaw Try.underlying95 zeroInt hb F (ek_key hx hy)
  have hlt : b < w.heap.size := (Array.getElem?_eq_some_iff.1 hb).1
  have hb1 : (setBlock w b (.map es1 clock1)).heap[b]? = some (.map es1 clock1) := by simp [setBlock, hlt]
  obtain ⟨es', clock', e4, e5⟩ := e3 (setBlock w b (.map es1 clock1)) (.int .i64 v) hb1
  have h1 : w.ownsMap Try.prog 71 (plainElem Try.prog 2) b n D := ⟨es, clock, hb, F, hs, hD⟩
  obtain ⟨w', f1, f2, f3⟩ := h1.update edgeKey Try.underlying95 hn (ek_key hx hy) (plainElem_int Try.underlying2 (wfLit hv))
  have hw : setBlock (setBlock w b (.map es1 clock1)) b (.map es' clock') = setBlock w b (.map es' clock') := by simp [setBlock]
  rw [hw] at e4
  have hw' : setBlock w b (.map es' clock') = w' := by
    rw [e5] at f1
    simpa using f1
  rw [hw'] at e4
  refine ⟨v0, st, _, w', e1, e4, ⟨_, f2, fun x' y' ix iy => ?_⟩, f3, (show w.mapTurned (setBlock w b (.map es1 clock1)) b from ⟨es, clock, es1, clock1, hb, rfl⟩).grown⟩
  by_cases hc : x' = x ∧ y' = y
  · obtain ⟨rfl, rfl⟩ := hc
    rw [atKey_put_same h1.isMap (edgeKey.key (ek_key ix iy))]; simp
  · rw [atKey_put_other (fun e' => hc (pk_inj ix iy hx hy e')), h2 x' y' ix iy]; simp [hc]

end Go.Proofs.Ytolipjemabmlkaa
