/- Permutations as arrays of four sheets, by the program. -/
import Derived.Test.YtbfgehgjecgfmaaSortI
import Derived.Laws.IdiomCopy
set_option linter.unusedSimpArgs false
set_option linter.unusedVariables false
set_option maxRecDepth 100000
namespace Go.Proofs.Ytbfgehgjecgfmaa
open Go.RowKit

/-- an array of four numbers -/
def arr (xs : List Int) : Value := .agg #[.int .i64 (xs.getD 0 0), .int .i64 (xs.getD 1 0), .int .i64 (xs.getD 2 0), .int .i64 (xs.getD 3 0)]

theorem wpList_copy_cells {P : Program} {w : World} {ops : Array Oper} {rest : List Oper} {o : Oper} {a : Act} {Q : Exit → Act → World → Prop} (hgd : o.guard = none) (d s : Operand) (dT sT : TypeId)
    (ho : o.op = .call { callee := .builtin .copy, args := #[d, s], argTypes := #[dT, sT] }) (elem : TypeId) (hu : P.underlying dT = some (.slice elem)) (hsz : (P.info? elem).map (·.size) = some 1)
    (b dLen dCap : Nat) (sp : Option Addr) (sLen sCap : Nat) (hd : a.eval d = .slice (some ⟨b, 0, none⟩) dLen dCap) (hs : a.eval s = .slice sp sLen sCap)
    (cs : List Value) (hn : cs.length = Nat.min sLen dLen) (hsrc : 0 < cs.length → ∃ ad, sp = some ad ∧ ∀ j v, cs[j]? = some v → w.cell? (ad.add j) = some v)
    (hc : ∀ j, j < cs.length → (w.cell? ⟨b, 0 + j, none⟩).isSome = true) (hf : ∀ j, j < cs.length → w.frozen? ⟨b, 0 + j, none⟩ = false) (h1 : ∀ v ∈ cs, v.oneCell' = true)
    (h : ∀ w2, w2 = w.setCells b 0 cs → wpList P ops Q rest (a.put o.dst (goInt cs.length)) w2) : wpList P ops Q (o :: rest) a w := by
  refine wpList_plain hgd fun K hK => ?_
  by_cases h0 : cs.length = 0
  · obtain rfl : cs = [] := List.eq_nil_of_length_eq_zero h0
    have hrun := run_copy_none (P := P) w dT sT o.type elem (some ⟨b, 0, none⟩) sp dLen dCap sLen sCap hu hsz (by simpa using hn.symm)
    unfold Oper.wp
    simp [execOp, ho, resolve, invoke, builtin, hd, hs, hrun, Result.andThen]
    exact hK _ _ (h _ rfl)
  · obtain ⟨ad, rfl, hsrc'⟩ := hsrc (by omega)
    have hrun := run_copy_cells (P := P) w dT sT o.type elem b 0 dLen dCap ad sLen sCap cs hu hsz hn hsrc' hc hf h1
    unfold Oper.wp
    simp [execOp, ho, resolve, invoke, builtin, hd, hs, hrun, Result.andThen]
    exact hK _ _ (h _ rfl)

theorem below_setCells {B b : Nat} {w0 : World} (hB : B ≤ b) : ∀ (vs : List Value) (o : Nat) (w : World), Below B w0 w → Below B w0 (w.setCells b o vs)
  | [], _, _, h => h
  | v :: r, o, w, h => below_setCells hB r (o + 1) _ (h.setCell hB _)
theorem size_setCells {b : Nat} : ∀ (vs : List Value) (o : Nat) (w : World), (w.setCells b o vs).heap.size = w.heap.size
  | [], _, _ => rfl
  | v :: r, o, w => by rw [World.setCells, size_setCells r (o + 1)]; simp [World.setCell]

theorem pad_len {t : List Int} (h : t.length ≤ 4) : (pad t).length = 4 := by simp [pad]; omega
theorem pad_get {t : List Int} (h : t.length ≤ 4) {j : Nat} (hj : j < 4) : (pad t).getD j 0 = if j < t.length then t.getD j 0 else (j : Int) := by
  unfold pad
  simp only [List.getD, List.getElem?_append, List.getElem?_drop]
  by_cases e : j < t.length
  · rw [if_pos e, if_pos e]
  · rw [if_neg e, if_neg e]
    have : t.length + (j - t.length) = j := by omega
    rw [this]
    have hj' : j = 0 ∨ j = 1 ∨ j = 2 ∨ j = 3 := by omega
    rcases hj' with rfl | rfl | rfl | rfl <;> rfl

set_option maxHeartbeats 1600000 in
theorem unitPermutation (w : World) :
    Calls Try.prog 159 #[] w fun e w' => e = .returned (arr four) ∧ Below w.heap.size w w' := by
  have hb0 : ∀ o o', Below w.heap.size w ((w.alloc o).alloc o') := fun o o' => ((Below.refl _ _).alloc (Nat.le_refl _) o).alloc (by simp) o'
  go_enter Try.func159, Try.ntmps159
  go_wp2
  refine wp_loop_rounds 5 ?_
  rw [rounds_succ]
  go_wp2
  rw [rounds_succ]
  go_wp2
  rw [rounds_succ]
  go_wp2
  rw [rounds_succ]
  go_wp2
  rw [rounds_succ]
  go_wp2
  refine bodyPost_ret (v := arr four) (by simp [results, Try.results159, go_sem, arr, four]) rfl ⟨rfl, ?_⟩
  repeat (refine Below.setCell ?_ (by simp) _)
  exact hb0 _ _

theorem addr_add (b o i : Nat) : (⟨b, o, none⟩ : Addr).add i = ⟨b, o + i, none⟩ := by unfold Addr.add; split <;> simp_all
theorem getD_map_pad {t : List Int} {j : Nat} (h : j < t.length) : (t.map (Value.int .i64))[j]? = some (.int .i64 (t.getD j 0)) := by
  simp [List.getD, List.getElem?_eq_getElem h]

set_option maxHeartbeats 1600000 in
theorem permutationOf {lo hi : Nat} (a : Option Addr) (n c : Nat) (t : List Int) (w : World) (h : RdI lo hi w (.slice a n c) t) (hn : t.length = n) (h4 : n ≤ 4) :
    Calls Try.prog 157 #[.slice a n c] w fun e w' => e = .returned (arr (pad t)) ∧ Below w.heap.size w w' := by
  have hb0 : ∀ o, Below w.heap.size w (w.alloc o) := fun o => (Below.refl _ _).alloc (Nat.le_refl _) o
  obtain ⟨i0, hi, hz0, hz1, hz2⟩ := info_parts Try.info2
  have HN := Lib.hid hn
  have HCells := Lib.hid (h.cellsC hn)
  clear hn h
  go_enter Try.func157, Try.ntmps157
  go_wp2_with fail
  refine calls_gen (fun W => Below w.heap.size w W ∧ Box4 W w.heap.size (.int .i64 0) (.int .i64 0) (.int .i64 0) (.int .i64 0)) ⟨hb0 _, ⟨by simp, by go_simp, by go_simp, by go_simp, by go_simp, by go_simp, by go_simp, by go_simp, by go_simp⟩⟩ ?_
  rintro W ⟨hB, bx⟩
  refine (unitPermutation W).mono ?_
  rintro e w1 ⟨rfl, b1⟩
  replace hB := hB.next b1
  obtain ⟨lt, r0, r1, r2, r3, f0, f1, f2, f3⟩ := bx.below b1
  have hw1 : w.heap.size < w1.heap.size := lt
  clear b1 bx lt
  unfold arr four
  have e0 : ([0, 1, 2, 3] : List Int).getD 0 0 = 0 := rfl
  have e1 : ([0, 1, 2, 3] : List Int).getD 1 0 = 1 := rfl
  have e2 : ([0, 1, 2, 3] : List Int).getD 2 0 = 2 := rfl
  have e3 : ([0, 1, 2, 3] : List Int).getD 3 0 = 3 := rfl
  rw [e0, e1, e2, e3]
  clear e0 e1 e2 e3
  have hlen : (t.map (Value.int .i64)).length = n := by rw [List.length_map, HN.out]
  have base : ∀ j, j < 4 → (w1.alloc (.cells #[.int .i64 0, .int .i64 1, .int .i64 2, .int .i64 3] 166)).cell? ⟨w1.heap.size, 0 + j, none⟩ = some (.int .i64 (j : Nat)) ∧ (w1.alloc (.cells #[.int .i64 0, .int .i64 1, .int .i64 2, .int .i64 3] 166)).frozen? ⟨w1.heap.size, 0 + j, none⟩ = false := by
    intro j hj
    have hj' : j = 0 ∨ j = 1 ∨ j = 2 ∨ j = 3 := by omega
    rcases hj' with rfl | rfl | rfl | rfl <;> exact ⟨by go_simp, by go_simp⟩
  have hcp : ∀ w2, w2 = (w1.alloc (.cells #[.int .i64 0, .int .i64 1, .int .i64 2, .int .i64 3] 166)).setCells w1.heap.size 0 (t.map (Value.int .i64)) →
      Below w1.heap.size w1 w2 ∧ ∀ j, j < 4 → w2.cell? ⟨w1.heap.size, j, none⟩ = some (.int .i64 ((pad t).getD j 0)) := by
    rintro w2 rfl
    refine ⟨below_setCells (Nat.le_refl _) _ _ _ ((Below.refl _ _).alloc (Nat.le_refl _) _), fun j hj => ?_⟩
    rw [pad_get (by rw [HN.out]; exact h4) hj]
    by_cases e : j < t.length
    · rw [if_pos e]
      have := World.cell?_setCells_in w1.heap.size (t.map (Value.int .i64)) 0 (w1.alloc (.cells #[.int .i64 0, .int .i64 1, .int .i64 2, .int .i64 3] 166)) (fun k hk => by rw [(base k (by rw [hlen] at hk; omega)).1]; rfl) j (by simpa using e)
      rw [Nat.zero_add] at this
      rw [this]
      simp [List.getD, List.getElem?_eq_getElem e]
    · rw [if_neg e, World.cell?_setCells_out _ _ _ _ _ (fun _ _ => Or.inr (by simp; omega))]
      have := (base j hj).1
      rwa [Nat.zero_add] at this
  have HCP := Lib.hid hcp
  have HBASE := Lib.hid base
  have HLEN := Lib.hid hlen
  clear hcp base hlen
  have k1 : (t.map (Value.int .i64)).length = Nat.min n 4 := by rw [HLEN.out]; exact (Nat.min_eq_left h4).symm
  have k2 : 0 < (t.map (Value.int .i64)).length → ∃ ad, a = some ad ∧ ∀ j v, (t.map (Value.int .i64))[j]? = some v → (w1.alloc (.cells #[.int .i64 0, .int .i64 1, .int .i64 2, .int .i64 3] 166)).cell? (ad.add j) = some v := by
    intro h0
    rw [HLEN.out] at h0
    obtain ⟨b, off, rfl, _⟩ := HCells.out 0 h0
    refine ⟨_, rfl, fun j v hv => ?_⟩
    have hj : j < n := by
      have := (List.getElem?_eq_some_iff.1 hv).1
      rwa [HLEN.out] at this
    obtain ⟨b', off', e, g⟩ := HCells.out j hj
    simp only [Option.some.injEq, Addr.mk.injEq] at e
    obtain ⟨rfl, rfl, _⟩ := e
    rw [getD_map_pad (by rw [HN.out]; exact hj)] at hv
    cases hv
    rw [addr_add]
    exact (hB.alloc hB.size _).keep g
  have k3 : ∀ j, j < (t.map (Value.int .i64)).length → ((w1.alloc (.cells #[.int .i64 0, .int .i64 1, .int .i64 2, .int .i64 3] 166)).cell? ⟨w1.heap.size, 0 + j, none⟩).isSome = true := by
    intro j hj; rw [HLEN.out] at hj; rw [(HBASE.out j (by omega)).1]; rfl
  have k4 : ∀ j, j < (t.map (Value.int .i64)).length → (w1.alloc (.cells #[.int .i64 0, .int .i64 1, .int .i64 2, .int .i64 3] 166)).frozen? ⟨w1.heap.size, 0 + j, none⟩ = false := by
    intro j hj; rw [HLEN.out] at hj; exact (HBASE.out j (by omega)).2
  have k5 : ∀ v ∈ t.map (Value.int .i64), v.oneCell' = true := by
    intro v hv; obtain ⟨x, _, rfl⟩ := List.mem_map.1 hv; rfl
  have K1 := Lib.hid k1
  have K2 := Lib.hid k2
  have K3 := Lib.hid k3
  have K4 := Lib.hid k4
  have K5 := Lib.hid k5
  clear k1 k2 k3 k4 k5
  have hsz : (Try.prog.info? 2).map (·.size) = some 1 := by rw [hi]; simp [hz1]
  have HSZ := Lib.hid hsz
  clear hsz
  go_wp2_with (refine wpList_copy_cells rfl (.tmp 5) (.tmp 6) 26 26 rfl 2 Try.underlying26 HSZ.out w1.heap.size 4 4 a n c rfl rfl (t.map (Value.int .i64)) K1.out K2.out K3.out K4.out K5.out ?_; intro w2 hw2; obtain ⟨b2, hp⟩ := HCP.out w2 hw2; have p0 := hp 0 (by omega); have p1 := hp 1 (by omega); have p2 := hp 2 (by omega); have p3 := hp 3 (by omega); clear hp hw2; replace r0 := b2.keep r0; replace r1 := b2.keep r1; replace r2 := b2.keep r2; replace r3 := b2.keep r3; replace f0 := b2.keepf hw1 f0; replace f1 := b2.keepf hw1 f1; replace f2 := b2.keepf hw1 f2; replace f3 := b2.keepf hw1 f3)
  have hne1 : ¬ w.heap.size = w1.heap.size ∧ ¬ w1.heap.size = w.heap.size := by omega
  obtain ⟨hne1, hne2⟩ := hne1
  refine bodyPost_ret (v := arr (pad t)) (by unfold arr; simp [results, Try.results157, go_sem, r0, r1, r2, r3, p0, p1, p2, p3]) rfl ⟨rfl, ?_⟩
  repeat (refine Below.setCell ?_ (by simp) _)
  exact hB.next b2

end Go.Proofs.Ytbfgehgjecgfmaa
