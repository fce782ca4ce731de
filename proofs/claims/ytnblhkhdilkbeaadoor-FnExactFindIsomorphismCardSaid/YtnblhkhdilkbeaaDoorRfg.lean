/- A range over an iterator whose elements lie in memory that it makes itself: the rounds are told what their element reads as; a round goes on, or returns. -/
import Derived.RangeFuncBox
import Derived.RangeFuncLeaves
import Derived.RangeFuncFrom
import Derived.Shelf.Abstract
import Derived.WalkKit
import Derived.OwnWalkIn
import Derived.TacticsInMore
import Derived.LoopNIn
import Derived.LoopIn
import Derived.RangeFuncBound
import Derived.Test.YtnblhkhdilkbeaaDoorCoreA
set_option linter.unusedSimpArgs false
set_option linter.unusedVariables false
namespace Go.Proofs.YtnblhkhdilkbeaaDoor
open Go Go.RowKit

/-- the loop's record, at D + 1, and the block for its rounds' deferred calls, at D -/
structure Lay (R : LoopState → Option Code → Loop) (D : Nat) (st : LoopState) (pe : Option Code) (W : World) : Prop where
  lp : W.heap[D + 1]? = some (.loop (R st pe))
  df : W.heap[D]? = some (.deferred (some []))
section
variable {R : LoopState → Option Code → Loop} {D : Nat} {st st' : LoopState} {pe pe' : Option Code} {W W' : World}
theorem Lay.lt (h : Lay R D st pe W) : D + 1 < W.heap.size := (Array.getElem?_eq_some_iff.1 h.lp).1
theorem Lay.turn (h : Lay R D st pe W) : Lay R D st' pe' (W.putObj (D + 1) (.loop (R st' pe'))) :=
  ⟨World.putObj_heap_same h.lt, (World.putObj_heap_other (by omega)).trans h.df⟩
theorem Lay.others (h : Lay R D st pe W) (hk : KeepsOthers W W') : Lay R D st pe W' := ⟨hk.same _ _ h.lp rfl, hk.same _ _ h.df rfl⟩
theorem Lay.walks (h : Lay R D st pe W) {row : Option Nat} (hg : W.grownBy W' row) (hr : ∀ r, row = some r → ∃ o : Obj, W.heap[r]? = some o ∧ o.isWalk = true) : Lay R D st pe W' :=
  ⟨(grownBy_keeps hg hr h.lp rfl).trans h.lp, (grownBy_keeps hg hr h.df rfl).trans h.df⟩
end

/-- a round goes on, or returns -/
def toldPost (Kp : World → World → Prop) (Ig Ix : World → Prop) (W : World) : Exit → Act → World → Prop
  | .normal, _, W' => KeepsOthers W W' ∧ Kp W W' ∧ Ig W'
  | .ret, _, W' => KeepsOthers W W' ∧ Ix W'
  | _, _, _ => False

/-- what an iterator keeps to, that tells each round what its element reads as -/
def TellsSeq {α : Type} (Gd : α → World → Prop) (F : Fence) (n : Nat) (P : Program) (g : Nat) (lb : Array Value) (encs : α → Array Value) (Kp : World → World → Prop) (S : List α → Prop) (w : World) : Prop :=
  ∀ (l : Nat) (J : List α → World → Prop) (Jx : World → Prop) (W : World), Below w.heap.size w W → AbidesFrom W.heap.size J → AbidesFrom W.heap.size (fun (_ : Unit) => Jx) →
    (∀ pre x V, J pre V → Gd x V → YieldAt F (n - 1) P l (encs x) V fun e V' =>
      (e = .returned (.bool true) ∧ J (pre ++ [x]) V' ∧ Kp V V') ∨ (e = .returned (.bool false) ∧ Jx V')) →
    J [] W → CallsIn F n P g (#[.func (.yield l) #[] #[]] ++ lb) W fun e V => (∃ v, e = .returned v) ∧ ((∃ xs, S xs ∧ J xs V) ∨ Jx V)

section
variable {F : Fence} {n : Nat} {P : Program} {fn : FuncId} {tmps : Array Value} {ps : Array Tmp} {assign body : Code} {D : Nat} {Kp : World → World → Prop} {Ig Ix : World → Prop} {W : World}

/-- one round, from the record that is ready to the one that is ready again, or done -/
theorem told_round (hfn : F.fn fn) (R : LoopState → Option Code → Loop) (hR : ∀ st pe, R st pe = { state := st, pending := pe, fn, tmps, params := ps, assign, body, defers := D })
    (hKt : ∀ {A B C : World}, Kp A B → Kp B C → Kp A C) (hKb : ∀ (V : World) (o : Obj), Lay R D .ready none V ∨ Lay R D .busy none V → Kp V (V.putObj (D + 1) o))
    (hIg : ∀ (V : World) (st : LoopState) (o : Obj), Lay R D st none V → Ig V → Ig (V.putObj (D + 1) o)) (hIx : ∀ (V : World) (o : Obj), Lay R D .busy none V → Ix V → Ix (V.putObj (D + 1) o))
    (hL : Lay R D .ready none W) (args : Array Value) (hps : args.size = ps.size) (a₁ : Act)
    (hassign : ∀ (K : Act → World → Prop), K a₁ W → assign.wpIn (F.inRound (D + 1)) n P (Exit.then K (fun _ _ _ => False)) { tmps := (ps.zip args).foldl (fun t (p, v) => t.setIfInBounds p v) tmps, defers := [] } W)
    (hbody : body.wpIn (F.inRound (D + 1)) n P (toldPost Kp Ig Ix (W.putObj (D + 1) (.loop (R .busy none)))) a₁ (W.putObj (D + 1) (.loop (R .busy none)))) :
    YieldAt F n P (D + 1) args W fun e V => (e = .returned (.bool true) ∧ (Ig V ∧ Lay R D .ready none V) ∧ Kp W V) ∨ (e = .returned (.bool false) ∧ Ix V ∧ Lay R D .done (some .ret) V) := by
  have hy := run_yield (P := P) (args := args) hL.lp (by rw [hR]; exact hps)
  have hbg := run_beginRound (P := P) hL.lp (by rw [hR])
  have hend : ∀ (jump : Option Code) (V : World), Lay R D .busy none V → (Instr.endRound (D + 1) jump).run P V = .ok (.bool jump.isNone) (V.putObj (D + 1) (.loop (R (if jump.isNone then .ready else .done) jump))) := fun jump V hV => by
    have h := run_endRound (P := P) jump hV.lp
    simp only [hR] at h ⊢
    exact h
  have hbusy : Lay R D .busy none (W.putObj (D + 1) (.loop (R .busy none))) := hL.turn
  have hb2 : ({ R .ready none with state := .busy } : Loop) = R .busy none := by simp only [hR]
  rw [hb2] at hbg
  rw [hR .ready none] at hy
  refine ⟨fn, _, assign, body, hy, roundIn_of_wpIn hfn (hassign _ ⟨_, hbg, ?_⟩)⟩
  refine wpIn_mono hbody ?_
  intro e a3 V hp
  cases e with
  | normal =>
    obtain ⟨h1, h2, h3⟩ := hp
    have hV := hbusy.others h1
    exact ⟨_, _, hend none V hV, .inl ⟨rfl, ⟨hIg V _ _ hV h3, hV.turn⟩, hKt (hKt (hKb W _ (.inl hL)) h2) (hKb V _ (.inr hV))⟩⟩
  | ret =>
    obtain ⟨h1, h3⟩ := hp
    have hV := hbusy.others h1
    exact ⟨_, _, hend (some .ret) V hV, .inr ⟨rfl, hIx V _ hV h3, hV.turn⟩⟩
  | exit id => exact hp.elim
  | goto t => exact hp.elim
  | panic c => exact hp.elim
  | outgrown => exact hp.elim
end

/-- the statement, over an iterator that tells -/
theorem range_told {F : Fence} {n : Nat} {P : Program} {α : Type} (Gd : α → World → Prop) (hGd : ∀ x (V : World) (l : Nat) (o o' : Obj), V.heap[l]? = some o → o.isCells = false → Gd x V → Gd x (V.putObj l o'))
    {g : Operand} {ps : Array Tmp} {assign body : Code} {Q : Exit → Act → World → Prop} {a : Act} {w : World} (hro : F.round = none) (h1 : 1 ≤ n) {gf : Nat} {lb : Array Value}
    (hg : a.eval g = .func (.func gf) #[] lb) (hFg : F.fn gf) (eg : ∀ args w, (callFunc gf args).run P w = .ok (.enter gf args) w)
    {encs : α → Array Value} {Kp : World → World → Prop} {S : List α → Prop} {w0 : World} (hseq : TellsSeq Gd F (n - 1) P gf lb encs Kp S w0) (hb0 : Below w0.heap.size w0 w) (hps : ∀ x, (encs x).size = ps.size)
    (hKt : ∀ {A B C : World}, Kp A B → Kp B C → Kp A C) (hKb : ∀ (V : World) (l : Nat) (o o' : Obj), w.heap.size ≤ l → V.heap[l]? = some o → o.isCells = false → o.isWalk = false → Kp V (V.putObj l o'))
    (I : List α → World → Prop) (Ix : World → Prop) (hI : OwnFrom w.heap.size I) (hIx : OwnFrom w.heap.size (fun (_ : Unit) => Ix)) (h0 : I [] w) (a₁ : α → Act)
    (hassign : ∀ (l : Nat) (x : α) (V : World) (K : Act → World → Prop), K (a₁ x) V → assign.wpIn (F.inRound l) (n - 1 - 1) P (Exit.then K (fun _ _ _ => False)) { tmps := (ps.zip (encs x)).foldl (fun t (p, v) => t.setIfInBounds p v) a.tmps, defers := [] } V)
    (hbody : ∀ (l : Nat) (pre : List α) (x : α) (V : World), I pre V → Gd x V → body.wpIn (F.inRound l) (n - 1 - 1) P (toldPost Kp (I (pre ++ [x])) Ix V) (a₁ x) V)
    (hdone : ∀ (D : Nat) (xs : List α) (V : World), w.heap.size ≤ D → S xs → I xs V → V.heap[D]? = some (.deferred (some [])) → Q .normal { a with defers := { target := .collected D, args := #[] } :: a.defers } V)
    (hstop : ∀ (D : Nat) (V : World), w.heap.size ≤ D → Ix V → V.heap[D]? = some (.deferred (some [])) → Code.ret.wpIn F n P Q { a with defers := { target := .collected D, args := #[] } :: a.defers } V) :
    (Code.rangeFunc g ps assign body).wpIn F n P Q a w := by
  refine wpIn_rangeFunc fun fn hfn => ?_
  rw [hro]
  obtain ⟨D, hD⟩ : ∃ D, D = w.heap.size := ⟨_, rfl⟩
  obtain ⟨R, hR⟩ : ∃ R : LoopState → Option Code → Loop, ∀ st pe, R st pe = { state := st, pending := pe, fn, tmps := a.tmps, params := ps, assign, body, defers := D } := ⟨_, fun _ _ => rfl⟩
  obtain ⟨V1, hV1⟩ : ∃ V, V = (w.alloc (.deferred (some []))).alloc (.loop (R .ready none)) := ⟨_, rfl⟩
  have hL1 : Lay R D .ready none V1 := by
    rw [hV1, hD]
    refine ⟨?_, (Below.heap_alloc _ _ _ (by simp)).trans (World.alloc_heap_new w _)⟩
    have := World.alloc_heap_new (w.alloc (.deferred (some []))) (.loop (R .ready none))
    rwa [World.size_alloc] at this
  have hI1 : I [] V1 := by rw [hV1]; exact hI.alloc _ (hI.alloc _ h0)
  have hs1 : D < V1.heap.size := by have := hL1.lt; omega
  have hb1 : Below w0.heap.size w0 V1 := by
    rw [hV1]; exact hb0.trans ((((Below.refl _ w).alloc (Nat.le_refl _) _).alloc (by simp) _).mono hb0.size)
  have hro' : ∀ {A : World} {row : Option Nat}, (∀ r, row = some r → V1.heap.size ≤ r ∧ ∃ o : Obj, A.heap[r]? = some o ∧ o.isWalk = true) → ∀ r, row = some r → w.heap.size ≤ r ∧ ∃ o : Obj, A.heap[r]? = some o ∧ o.isCells = false := fun hr r e => by
    obtain ⟨h2, o, h3, h4⟩ := hr r e
    exact ⟨by omega, o, h3, Obj.not_cells_of_walk h4⟩
  refine ⟨D + 1, [{ target := .collected D, args := #[] }], V1, { target := .fn (.func gf) lb, args := #[.func (.yield (D + 1)) #[] #[]] }, V1, gf, #[.func (.yield (D + 1)) #[] #[]] ++ lb, V1, ?_, ?_, ?_, ?_, fun _ => h1, ?_⟩
  · rw [hV1, hR, hD]; exact run_enterLoop_outer _ _ _ _ _
  · simp only [resolve, hg]
    simp [go_sem]
  · intro f' hf'
    simp [Target.leads] at hf'
    subst hf'
    exact hFg
  · simp [invoke, go_sem, eg]
  · have hrun := hseq (D + 1) (fun pre V => I pre V ∧ Lay R D .ready none V) (fun V => Ix V ∧ Lay R D .done (some .ret) V) V1 hb1
      (fun s A B row hs hgr hr => ⟨hI s A B row hs.1 hgr (hro' hr), hs.2.walks hgr (fun r e => (hr r e).2)⟩)
      (fun _ A B row hs hgr hr => ⟨hIx () A B row hs.1 hgr (hro' hr), hs.2.walks hgr (fun r e => (hr r e).2)⟩)
      (fun pre x V hJ hgd => by
        obtain ⟨hi, hl⟩ := hJ
        exact told_round (Kp := Kp) (Ig := I (pre ++ [x])) (Ix := Ix) hfn R hR (fun {_ _ _} h k => hKt h k)
          (fun V o hl => hl.elim (fun h => hKb V _ _ o (by omega) h.lp rfl rfl) (fun h => hKb V _ _ o (by omega) h.lp rfl rfl))
          (fun V st o hl h => hI.putObj o h (by omega) hl.lp rfl)
          (fun V o hl h => hIx.putObj (s := ()) o h (by omega) hl.lp rfl)
          hl (encs x) (hps x) (a₁ x) (fun K hK => hassign _ x V K hK)
          (hbody (D + 1) pre x (V.putObj (D + 1) (.loop (R .busy none))) (hI.putObj _ hi (by omega) hl.lp rfl) (hGd x V _ _ _ hl.lp rfl hgd)))
      ⟨hI1, hL1⟩
    refine hrun.mono ?_
    rintro e V ⟨⟨v, rfl⟩, (⟨xs, hS, hi, hl⟩ | ⟨hi, hl⟩)⟩
    · refine ⟨none, V.putObj (D + 1) (.loop (R .exhausted none)), ?_, hdone D xs _ (by omega) hS (hI.putObj _ hi (by omega) hl.lp rfl) (Lay.turn (st' := .exhausted) (pe' := none) hl).df⟩
      have h := run_endLoop (P := P) hl.lp (by rw [hR]; simp)
      simp only [hR] at h ⊢
      exact h
    · refine ⟨some .ret, V.putObj (D + 1) (.loop (R .exhausted (some .ret))), ?_, hstop D _ (by omega) (hIx.putObj (s := ()) _ hi (by omega) hl.lp rfl) (Lay.turn (st' := .exhausted) (pe' := some .ret) hl).df⟩
      have h := run_endLoop (P := P) hl.lp (by rw [hR]; simp)
      simp only [hR] at h ⊢
      exact h

end Go.Proofs.YtnblhkhdilkbeaaDoor
