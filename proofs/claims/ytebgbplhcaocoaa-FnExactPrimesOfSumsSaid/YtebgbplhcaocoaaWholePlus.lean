/- The program's bounded numbers: sums, products. -/
import Derived.Test.YtebgbplhcaocoaaWholeNum
set_option linter.unusedSimpArgs false
set_option linter.unusedVariables false
namespace Go.Proofs.Ytebgbplhcaocoaa
open Go.RowKit

theorem wv_some (v : Int) : wv (some v) = .agg #[.int .i64 v, .bool false] := rfl
theorem wv_none : wv none = .agg #[.int .i64 0, .bool true] := rfl
def numO (o : Option Int) : Int := o.getD 0
theorem wv_agg (o : Option Int) : wv o = .agg #[.int .i64 (numO o), .bool o.isNone] := by cases o <;> rfl
theorem OLim.num {o : Option Int} (h : OLim o) : -1000000000000000 ≤ numO o ∧ numO o ≤ 1000000000000000 := by
  cases o with
  | none => simp [numO]
  | some v => exact h v rfl
def plusO (o p : Option Int) : Option Int := mk? (numO o + numO p) (o.isNone || p.isNone)
theorem mk?_none (n : Int) : mk? n true = none := by simp [mk?]

theorem wplus (o p : Option Int) (ho : OLim o) (hp : OLim p) (w : World) :
    Calls Try.prog 130 #[wv o, wv p] w fun e w' => e = .returned (wv (plusO o p)) ∧ Below w.heap.size w w' := by
  have hb0 : ∀ o, Below w.heap.size w (w.alloc o) := fun o => (Below.refl _ _).alloc (Nat.le_refl _) o
  have h1 := ho.num
  have h2 := hp.num
  have e0 : plusO o p = mk? (numO o + numO p) (o.isNone || p.isNone) := rfl
  rw [wv_agg o, wv_agg p, e0]
  clear e0 ho hp
  generalize numO o = a at *
  generalize numO p = b at *
  generalize o.isNone = c at *
  generalize p.isNone = d at *
  obtain ⟨h11, h12⟩ := h1
  obtain ⟨h21, h22⟩ := h2
  cases c <;> cases d
  all_goals
    go_enter Try.func130, Try.ntmps130
    go_wp2_with fail
    refine calls_gen (fun W => Below w.heap.size w W ∧ W.heap.size = w.heap.size + 1 + 1 + 1 ∧ W.cell? ⟨w.heap.size + 1 + 1, 0, none⟩ = some (.int .i64 0) ∧ W.cell? ⟨w.heap.size + 1 + 1, 1, none⟩ = some (.bool false) ∧ W.frozen? ⟨w.heap.size + 1 + 1, 0, none⟩ = false ∧ W.frozen? ⟨w.heap.size + 1 + 1, 1, none⟩ = false) ⟨?_, ?_, ?_, ?_, ?_, ?_⟩ ?_
    · exact ((hb0 _).alloc (by simp) _).alloc (by simp; omega) _
    · simp
    · go_simp
    · go_simp
    · go_simp
    · go_simp
    rintro W ⟨hB, hsz, c1, c2, f1, f2⟩
    have hsz2 : w.heap.size + 1 + 1 < W.heap.size := by omega
    clear hsz
    refine (wholeOf _ _ _).mono ?_
    rintro e w1 ⟨rfl, b1⟩
    rw [wv_agg]
    replace c1 := b1.keep c1
    replace c2 := b1.keep c2
    replace f1 := b1.keepf hsz2 f1
    replace f2 := b1.keepf hsz2 f2
    have hB1 := hB.next b1
    clear hB b1
    go_wp2
    refine bodyPost_ret (v := .agg #[.int .i64 (numO (mk? (a + b) _)), .bool (mk? (a + b) _).isNone]) (by simp [results, Try.results130, go_sem, c1, c2]; exact ⟨rfl, rfl⟩) rfl ⟨?_, ?_⟩
    · rw [wv_agg]; rfl
    · repeat (refine Below.setCell ?_ (by simp <;> omega) _)
      exact hB1

end Go.Proofs.Ytebgbplhcaocoaa
