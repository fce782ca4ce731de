/- slices.Repeat of a list of one number. -/
import Derived.Test.YtolipjemabmlkaaTriv
import Derived.Test.YtolipjemabmlkaaArr
import Derived.Test.YtolipjemabmlkaaSortO
set_option linter.unusedSimpArgs false
set_option linter.unusedVariables false
set_option maxRecDepth 100000
namespace Go.Proofs.Ytolipjemabmlkaa
open Go.RowKit

/-- copy into the middle of a slice of this call's own -/
theorem wpList_copy_at {P : Program} {w : World} {ops : Array Oper} {rest : List Oper} {o : Oper} {a : Act} {Q : Exit → Act → World → Prop} (hgd : o.guard = none) (d s : Operand) (dT sT : TypeId)
    (ho : o.op = .call { callee := .builtin .copy, args := #[d, s], argTypes := #[dT, sT] }) (elem : TypeId) (hu : P.underlying dT = some (.slice elem)) (hsz : (P.info? elem).map (·.size) = some 1)
    (b off dLen dCap : Nat) (sp : Option Addr) (sLen sCap : Nat) (hd : a.eval d = .slice (some ⟨b, off, none⟩) dLen dCap) (hs : a.eval s = .slice sp sLen sCap)
    (cs : List Value) (hn : cs.length = Nat.min sLen dLen) (hsrc : 0 < cs.length → ∃ ad, sp = some ad ∧ ∀ j v, cs[j]? = some v → w.cell? (ad.add j) = some v)
    (hc : ∀ j, j < cs.length → (w.cell? ⟨b, off + j, none⟩).isSome = true) (hf : ∀ j, j < cs.length → w.frozen? ⟨b, off + j, none⟩ = false) (h1 : ∀ v ∈ cs, v.oneCell' = true)
    (h : ∀ w2, w2 = w.setCells b off cs → wpList P ops Q rest (a.put o.dst (goInt cs.length)) w2) : wpList P ops Q (o :: rest) a w := by
  refine wpList_plain hgd fun K hK => ?_
  by_cases h0 : cs.length = 0
  · obtain rfl : cs = [] := List.eq_nil_of_length_eq_zero h0
    have hrun := run_copy_none (P := P) w dT sT o.type elem (some ⟨b, off, none⟩) sp dLen dCap sLen sCap hu hsz (by simpa using hn.symm)
    unfold Oper.wp
    simp [execOp, ho, resolve, invoke, builtin, hd, hs, hrun, Result.andThen]
    exact hK _ _ (h _ rfl)
  · obtain ⟨ad, rfl, hsrc'⟩ := hsrc (by omega)
    have hrun := run_copy_cells (P := P) w dT sT o.type elem b off dLen dCap ad sLen sCap cs hu hsz hn hsrc' hc hf h1
    unfold Oper.wp
    simp [execOp, ho, resolve, invoke, builtin, hd, hs, hrun, Result.andThen]
    exact hK _ _ (h _ rfl)

/-- the first n of C numbers are v -/
def fillTo (v : Int) (C n : Nat) : List Int := List.replicate n v ++ List.replicate (C - n) 0
theorem fillTo_len {v : Int} {C n : Nat} (h : n ≤ C) : (fillTo v C n).length = C := by simp [fillTo]; omega
theorem fillTo_zero (v : Int) (C : Nat) : fillTo v C 0 = zl C := by simp [fillTo, zl]
theorem fillTo_full (v : Int) (C : Nat) : fillTo v C C = List.replicate C v := by simp [fillTo]
theorem fillTo_set {v : Int} {C n : Nat} (h : n < C) : (fillTo v C n).set n v = fillTo v C (n + 1) := by
  refine List.ext_getElem? fun i => ?_
  unfold fillTo
  rw [List.getElem?_set]
  simp only [List.getElem?_append, List.getElem?_replicate, List.length_append, List.length_replicate]
  by_cases e : n = i
  · subst e
    simp [show n < n + (C - n) by omega]
  · rw [if_neg e]
    by_cases e1 : i < n
    · simp [e1, show i < n + 1 by omega]
    · simp only [if_neg e1, if_neg (show ¬ i < n + 1 by omega)]
      by_cases e2 : i < C
      · simp [show i - n < C - n by omega, show i - (n + 1) < C - (n + 1) by omega]
      · simp [show ¬ i - n < C - n by omega, show ¬ i - (n + 1) < C - (n + 1) by omega]
theorem OwX.fill {lo cap b C : Nat} {v : Int} : ∀ (k n : Nat) (w : World), OwX lo cap w b C (fillTo v C n) → n + k ≤ C → OwX lo cap (w.setCells b n (List.replicate k (Value.int .i64 v))) b C (fillTo v C (n + k))
  | 0, n, w, h, _ => h
  | k + 1, n, w, h, hn => by
    rw [List.replicate_succ, World.setCells]
    have h2 := h.set (j := n) (by omega) v
    rw [fillTo_set (by omega)] at h2
    have := OwX.fill k (n + 1) _ h2 (by omega)
    rw [show n + (k + 1) = n + 1 + k by omega]
    exact this

theorem step_copy_at {P : Program} {w : World} {ops : Array Oper} {o : Oper} {a : Act} {K : Act → World → Prop} {Q : Exit → Act → World → Prop} {E : Prop} (hgd : o.guard = none) (d s : Operand) (dT sT : TypeId)
    (ho : o.op = .call { callee := .builtin .copy, args := #[d, s], argTypes := #[dT, sT] }) (elem : TypeId) (hu : P.underlying dT = some (.slice elem)) (hsz : (P.info? elem).map (·.size) = some 1)
    (b off dLen dCap : Nat) (ad : Addr) (sLen sCap : Nat) (hd : a.eval d = .slice (some ⟨b, off, none⟩) dLen dCap) (hs : a.eval s = .slice (some ad) sLen sCap)
    (cs : List Value) (hn : cs.length = Nat.min sLen dLen) (hsrc : ∀ j v, cs[j]? = some v → w.cell? (ad.add j) = some v)
    (hc : ∀ j, j < cs.length → (w.cell? ⟨b, off + j, none⟩).isSome = true) (hf : ∀ j, j < cs.length → w.frozen? ⟨b, off + j, none⟩ = false) (h1 : ∀ v ∈ cs, v.oneCell' = true)
    (hK : K (a.put o.dst (goInt cs.length)) (w.setCells b off cs)) : if Region.wanted o (yielded ops a.tmps) = true then Oper.wp P o a w K Q else E := by
  have hw : Region.wanted o (yielded ops a.tmps) = true := by simp [Region.wanted, hgd]
  rw [if_pos hw]
  have hrun := run_copy_cells (P := P) w dT sT o.type elem b off dLen dCap ad sLen sCap cs hu hsz hn hsrc hc hf h1
  unfold Oper.wp
  simp [execOp, ho, resolve, invoke, builtin, hd, hs, hrun, Result.andThen]
  exact hK

theorem rep_mem {v : Int} {k : Nat} : ∀ u ∈ List.replicate k (Value.int .i64 v), u.oneCell' = true := fun u hu => by
  rw [List.eq_of_mem_replicate hu]; rfl
theorem rep_get {v : Int} {k j : Nat} {u : Value} (h : (List.replicate k (Value.int .i64 v))[j]? = some u) : j < k ∧ u = .int .i64 v := by
  rw [List.getElem?_replicate] at h
  split at h
  · rename_i e; cases h; exact ⟨e, rfl⟩
  · cases h
theorem fillTo_get {v : Int} {C n j : Nat} (h : j < n) : (fillTo v C n).getD j 0 = v := by
  simp [fillTo, List.getD, List.getElem?_append, h]

theorem add_mk (b j : Nat) : (Addr.mk b 0 none).add j = Addr.mk b j none := by
  unfold Addr.add
  simp
  try (intro h; exact h.symm)

end Go.Proofs.Ytolipjemabmlkaa
