/- A range over an iterator that writes to memory of its own between its rounds. -/
import Derived.Test.YtnblhkhdilkbeaaDoorRfg
set_option linter.unusedSimpArgs false
set_option linter.unusedVariables false
namespace Go.Proofs.YtnblhkhdilkbeaaDoor
open Go Go.RowKit

/-- kept, whatever is done to blocks from B on -/
def HoldsBelow {β : Type} (B : Nat) (J : β → World → Prop) : Prop :=
  ∀ s W W' row, J s W → W.grownBy W' row → (∀ r, row = some r → B ≤ r) → J s W'
theorem HoldsBelow.own {β : Type} {B : Nat} {J : β → World → Prop} (h : HoldsBelow B J) : OwnFrom B J := fun s W W' row hs hg hr => h s W W' row hs hg (fun r e => (hr r e).1)
theorem Lay.rows {R : LoopState → Option Code → Loop} {D : Nat} {st : LoopState} {pe : Option Code} {W W' : World} (h : Lay R D st pe W) {row : Option Nat} (hg : W.grownBy W' row) (hr : ∀ r, row = some r → D + 1 < r) : Lay R D st pe W' := by
  have hlt := h.lt
  obtain ⟨_, _, _, _, hrest⟩ := hg
  have hb : ∀ k, k < D + 2 → W'.heap[k]? = W.heap[k]? := fun k hk => hrest k (by omega) (fun e => by have := hr k e.symm; omega)
  exact ⟨(hb _ (by omega)).trans h.lp, (hb _ (by omega)).trans h.df⟩

/-- what an iterator keeps to, that tells each round what its element reads as, and writes to memory of its own -/
def TellsOwn {α : Type} (Gd : List α → α → World → Prop) (F : Fence) (n : Nat) (P : Program) (g : Nat) (lb : Array Value) (encs : α → Array Value) (Kp : World → World → Prop) (S : List α → Prop) (w : World) : Prop :=
  ∀ (l : Nat) (J : List α → World → Prop) (Jx : World → Prop) (W : World), Below w.heap.size w W → HoldsBelow W.heap.size J →
    (∀ pre x V, J pre V → Gd pre x V → YieldAt F (n - 1) P l (encs x) V fun e V' =>
      (e = .returned (.bool true) ∧ J (pre ++ [x]) V' ∧ Kp V V') ∨ (e = .returned (.bool false) ∧ Jx V')) →
    J [] W → CallsIn F n P g (#[.func (.yield l) #[] #[]] ++ lb) W fun e V => (∃ v, e = .returned v) ∧ ((∃ xs, S xs ∧ J xs V) ∨ Jx V)

/-- the statement, over an iterator that tells -/
theorem range_own {F : Fence} {n : Nat} {P : Program} {α : Type} (Gd : List α → α → World → Prop) (hGd : ∀ pre x (V : World) (l : Nat) (o o' : Obj), V.heap[l]? = some o → o.isCells = false → Gd pre x V → Gd pre x (V.putObj l o'))
    {g : Operand} {ps : Array Tmp} {assign body : Code} {Q : Exit → Act → World → Prop} {a : Act} {w : World} (hro : F.round = none) (h1 : 1 ≤ n) {gf : Nat} {lb : Array Value}
    (hg : a.eval g = .func (.func gf) #[] lb) (hFg : F.fn gf) (eg : ∀ args w, (callFunc gf args).run P w = .ok (.enter gf args) w)
    {encs : α → Array Value} {Kp : World → World → Prop} {S : List α → Prop} {w0 : World} (hseq : TellsOwn Gd F (n - 1) P gf lb encs Kp S w0) (hb0 : Below w0.heap.size w0 w) (hps : ∀ x, (encs x).size = ps.size)
    (hKt : ∀ {A B C : World}, Kp A B → Kp B C → Kp A C) (hKb : ∀ (V : World) (l : Nat) (o o' : Obj), w.heap.size ≤ l → V.heap[l]? = some o → o.isCells = false → o.isWalk = false → Kp V (V.putObj l o'))
    (I : List α → World → Prop) (Ix : World → Prop) (hI' : HoldsBelow w.heap.size I) (hIx : OwnFrom w.heap.size (fun (_ : Unit) => Ix)) (h0 : I [] w) (a₁ : α → Act)
    (hassign : ∀ (l : Nat) (x : α) (V : World) (K : Act → World → Prop), K (a₁ x) V → assign.wpIn (F.inRound l) (n - 1 - 1) P (Exit.then K (fun _ _ _ => False)) { tmps := (ps.zip (encs x)).foldl (fun t (p, v) => t.setIfInBounds p v) a.tmps, defers := [] } V)
    (hbody : ∀ (l : Nat) (pre : List α) (x : α) (V : World), I pre V → Gd pre x V → body.wpIn (F.inRound l) (n - 1 - 1) P (toldPost Kp (I (pre ++ [x])) Ix V) (a₁ x) V)
    (hdone : ∀ (D : Nat) (xs : List α) (V : World), w.heap.size ≤ D → S xs → I xs V → V.heap[D]? = some (.deferred (some [])) → Q .normal { a with defers := { target := .collected D, args := #[] } :: a.defers } V)
    (hstop : ∀ (D : Nat) (V : World), w.heap.size ≤ D → Ix V → V.heap[D]? = some (.deferred (some [])) → Code.ret.wpIn F n P Q { a with defers := { target := .collected D, args := #[] } :: a.defers } V) :
    (Code.rangeFunc g ps assign body).wpIn F n P Q a w := by
  have hI := hI'.own
  refine wpIn_rangeFunc fun fn hfn => ?_
  rw [hro]
  obtain ⟨D, hD⟩ : ∃ D, D = w.heap.size := ⟨_, rfl⟩
  obtain ⟨R, hR⟩ : ∃ R : LoopState → Option Code → Loop, ∀ st pe, R st pe = { state := st, pending := pe, fn, tmps := a.tmps, params := ps, assign, body, defers := D } := ⟨_, fun _ _ => rfl⟩
  obtain ⟨V1, hV1⟩ : ∃ V, V = (w.alloc (.deferred (some []))).alloc (.loop (R .ready none)) := ⟨_, rfl⟩
  have hL1 : Lay R D .ready none V1 := by
    rw [hV1, hD]
    refine ⟨?_, (Below.heap_alloc _ _ _ (by simp)).trans (World.alloc_heap_new w _)⟩
    have := World.alloc_heap_new (w.alloc (.deferred (some []))) (.loop (R .ready none))
    rwa [World.size_alloc] at this
  have hI1 : I [] V1 := by rw [hV1]; exact hI.alloc _ (hI.alloc _ h0)
  have hs1 : D < V1.heap.size := by have := hL1.lt; omega
  have hb1 : Below w0.heap.size w0 V1 := by
    rw [hV1]; exact hb0.trans ((((Below.refl _ w).alloc (Nat.le_refl _) _).alloc (by simp) _).mono hb0.size)
  refine ⟨D + 1, [{ target := .collected D, args := #[] }], V1, { target := .fn (.func gf) lb, args := #[.func (.yield (D + 1)) #[] #[]] }, V1, gf, #[.func (.yield (D + 1)) #[] #[]] ++ lb, V1, ?_, ?_, ?_, ?_, fun _ => h1, ?_⟩
  · rw [hV1, hR, hD]; exact run_enterLoop_outer _ _ _ _ _
  · simp only [resolve, hg]
    simp [go_sem]
  · intro f' hf'
    simp [Target.leads] at hf'
    subst hf'
    exact hFg
  · simp [invoke, go_sem, eg]
  · have hrun := hseq (D + 1) (fun pre V => I pre V ∧ Lay R D .ready none V) (fun V => Ix V ∧ Lay R D .done (some .ret) V) V1 hb1
      (fun s A B row hs hgr hr => ⟨hI' s A B row hs.1 hgr (fun r e => by have := hr r e; omega), hs.2.rows hgr (fun r e => by have := hr r e; have := hL1.lt; omega)⟩)
      (fun pre x V hJ hgd => by
        obtain ⟨hi, hl⟩ := hJ
        exact told_round (Kp := Kp) (Ig := I (pre ++ [x])) (Ix := Ix) hfn R hR (fun {_ _ _} h k => hKt h k)
          (fun V o hl => hl.elim (fun h => hKb V _ _ o (by omega) h.lp rfl rfl) (fun h => hKb V _ _ o (by omega) h.lp rfl rfl))
          (fun V st o hl h => hI.putObj o h (by omega) hl.lp rfl)
          (fun V o hl h => hIx.putObj (s := ()) o h (by omega) hl.lp rfl)
          hl (encs x) (hps x) (a₁ x) (fun K hK => hassign _ x V K hK)
          (hbody (D + 1) pre x (V.putObj (D + 1) (.loop (R .busy none))) (hI.putObj _ hi (by omega) hl.lp rfl) (hGd pre x V _ _ _ hl.lp rfl hgd)))
      ⟨hI1, hL1⟩
    refine hrun.mono ?_
    rintro e V ⟨⟨v, rfl⟩, (⟨xs, hS, hi, hl⟩ | ⟨hi, hl⟩)⟩
    · refine ⟨none, V.putObj (D + 1) (.loop (R .exhausted none)), ?_, hdone D xs _ (by omega) hS (hI.putObj _ hi (by omega) hl.lp rfl) (Lay.turn (st' := .exhausted) (pe' := none) hl).df⟩
      have h := run_endLoop (P := P) hl.lp (by rw [hR]; simp)
      simp only [hR] at h ⊢
      exact h
    · refine ⟨some .ret, V.putObj (D + 1) (.loop (R .exhausted (some .ret))), ?_, hstop D _ (by omega) (hIx.putObj (s := ()) _ hi (by omega) hl.lp rfl) (Lay.turn (st' := .exhausted) (pe' := some .ret) hl).df⟩
      have h := run_endLoop (P := P) hl.lp (by rw [hR]; simp)
      simp only [hR] at h ⊢
      exact h

end Go.Proofs.YtnblhkhdilkbeaaDoor
