/- Division of a polynomial by x - c, by the program; plain facts. -/
import Derived.Test.YtkhfhdmhhkfehaaCha
import Derived.Test.YtkhfhdmhhkfehaaSlCmp
import Derived.StillTailTactics
set_option linter.unusedSimpArgs false
set_option linter.unusedVariables false
set_option maxRecDepth 100000
namespace Go.Proofs.Ytkhfhdmhhkfehaa
open Go.RowKit

/-- Horner's sums from the last number on, as they are reckoned -/
def hs (xs : List Int) (c : Int) (L : Nat) : Nat → Int
  | 0 => xs.getD (L - 1) 0
  | d + 1 => wrap64 (xs.getD (L - 2 - d) 0 + wrap64 (c * hs xs c L d))
/-- the sums where the first d + 1 from the back are done -/
def hsT (xs : List Int) (c : Int) (L d : Nat) : List Int := (List.range L).map (fun i => if L - 1 - i ≤ d then hs xs c L (L - 1 - i) else xs.getD i 0)
def quo (xs : List Int) (c : Int) (L : Nat) : List Int := (List.range (L - 1)).map (fun i => hs xs c L (L - 2 - i))
theorem hsT_len (xs : List Int) (c : Int) (L d : Nat) : (hsT xs c L d).length = L := by simp [hsT]
theorem hsT_get {xs : List Int} {c : Int} {L d i : Nat} (h : i < L) : (hsT xs c L d).getD i 0 = if L - 1 - i ≤ d then hs xs c L (L - 1 - i) else xs.getD i 0 := by simp [hsT, List.getD, h]
theorem quo_len (xs : List Int) (c : Int) (L : Nat) : (quo xs c L).length = L - 1 := by simp [quo]
theorem hsT_0 (xs : List Int) (c : Int) (L : Nat) (h : xs.length = L) : hsT xs c L 0 = xs := by
  apply List.ext_getElem
  · rw [hsT_len, h]
  · intro i h1 h2
    simp only [hsT, List.getElem_map, List.getElem_range]
    have e : xs.getD i 0 = xs[i] := by simp [List.getD, List.getElem?_eq_getElem h2]
    by_cases hi : L - 1 - i ≤ 0
    · rw [if_pos hi]
      have e1 : L - 1 - i = 0 := by omega
      rw [e1]
      have e2 : L - 1 = i := by omega
      show xs.getD (L - 1) 0 = _
      rw [e2, e]
    · rw [if_neg hi, e]
theorem hsT_set (xs : List Int) (c : Int) (L d : Nat) (h : d + 1 < L) : ((hsT xs c L d).map (Value.int .i64)).set (L - 2 - d) (.int .i64 (hs xs c L (d + 1))) = (hsT xs c L (d + 1)).map (Value.int .i64) := by
  apply List.ext_getElem
  · simp [hsT]
  · intro i h1 h2
    have hi : i < L := by simpa [hsT] using h2
    rw [List.getElem_set]
    by_cases e : L - 2 - d = i
    · subst e
      have e1 : L - 1 - (L - 2 - d) = d + 1 := by omega
      simp only [if_true, hsT, List.getElem_map, List.getElem_range]
      rw [if_pos (by omega), e1]
    · rw [if_neg e]
      simp only [hsT, List.map_map, List.getElem_map, List.getElem_range, Function.comp]
      have : (L - 1 - i ≤ d) ↔ (L - 1 - i ≤ d + 1) := by omega
      simp only [this]
theorem hs_I64 {xs : List Int} {c : Int} {L : Nat} (h : ∀ x ∈ xs, I64 x) : ∀ d, I64 (hs xs c L d)
  | 0 => by
    show I64 (xs.getD (L - 1) 0)
    by_cases e : L - 1 < xs.length
    · have : xs.getD (L - 1) 0 = xs[L - 1] := by simp [List.getD, List.getElem?_eq_getElem e]
      rw [this]; exact h _ (List.getElem_mem e)
    · have : xs.getD (L - 1) 0 = 0 := by simp [List.getD, List.getElem?_eq_none (Nat.le_of_not_lt e)]
      rw [this]; exact I64_zero
  | d + 1 => wrap_I64 _
theorem hsT_all (xs : List Int) (c : Int) (L : Nat) (h : 0 < L) : hsT xs c L (L - 1) = hs xs c L (L - 1) :: quo xs c L := by
  apply List.ext_getElem
  · simp [hsT, quo]; omega
  · intro i h1 h2
    simp only [hsT, List.getElem_map, List.getElem_range]
    rw [if_pos (by omega)]
    cases i with
    | zero => rfl
    | succ i =>
      simp only [List.getElem_cons_succ, quo, List.getElem_map, List.getElem_range]
      congr 1
      omega
theorem quo_I64 {xs : List Int} {c : Int} {L : Nat} (h : ∀ x ∈ xs, I64 x) : ∀ x ∈ quo xs c L, I64 x := fun x hx => by
  unfold quo at hx
  obtain ⟨j, hj, rfl⟩ := List.mem_map.mp hx
  exact hs_I64 h _

set_option maxHeartbeats 3200000 in
theorem quoRest {lo hi : Nat} (b off L cap : Nat) (xs : List Int) (c : Int) (w : World) (h : RdI lo hi w (.slice (some ⟨b, off, none⟩) L cap) xs) (hl : xs.length = L) (h0 : 0 < L) (hL : L ≤ 100) :
    Calls Try.prog 110 #[.slice (some ⟨b, off, none⟩) L cap, .int .i64 c] w fun e w' => ∃ b' off' cap', e = .returned (.tuple #[.slice (some ⟨b', off', none⟩) (L - 1) cap', .int .i64 (hs xs c L (L - 1))]) ∧ RdI w.heap.size w'.heap.size w' (.slice (some ⟨b', off', none⟩) (L - 1) cap') (quo xs c L) ∧ Below w.heap.size w w' := by
  have HCL := Lib.hid (slClone L cap ⟨b, off, none⟩ xs w (by omega) hl (fun j u hu => by
    have hj : j < L := by
      rcases Nat.lt_or_ge j xs.length with h1 | h1
      · omega
      · rw [List.getElem?_eq_none (by simpa using h1)] at hu; cases hu
    obtain ⟨b1, o1, e1, g1⟩ := h.at hl j hj
    simp only [Option.some.injEq, Addr.mk.injEq, and_true] at e1
    obtain ⟨rfl, rfl⟩ := e1
    have e2 : xs.getD j 0 = xs[j]'(by omega) := by simp [List.getD, List.getElem?_eq_getElem (show j < xs.length by omega)]
    simp only [List.getElem?_map, List.getElem?_eq_getElem (show j < xs.length by omega), Option.map_some, Option.some.injEq] at hu
    rw [← hu, ← e2]
    have ea : ({ block := b, off := off } : Addr).add j = ⟨b, off + j, none⟩ := by unfold Addr.add; split <;> simp_all
    rw [ea]; exact g1))
  have HI := Lib.hid h.2.1
  have HXL := Lib.hid hl
  clear h hl
  go_enter Try.func110, Try.ntmps110
  go_wp2_with fail
  refine HCL.out.mono ?_
  rintro e w1 ⟨v, rfl, o1, b1⟩
  obtain ⟨g, cg, hv⟩ : ∃ g cg, v = .slice (some ⟨g, 0, none⟩) L cg := by
    rcases o1.2 with ⟨h1, h2⟩ | ⟨g, cc, cur, hv, _⟩
    · omega
    · exact ⟨g, cc, hv⟩
  subst hv
  rw [← hsT_0 xs c L HXL.out] at o1
  have HS := Lib.hid (⟨o1, b1, (o1.lt g rfl)⟩ : _ ∧ _ ∧ _)
  obtain ⟨Y, hY⟩ : ∃ Y, Y = w.heap.size := ⟨_, rfl⟩
  rw [← hY] at HS
  have HY := Lib.hid hY
  have s0 : IntKind.i64.wrap ((L : Int) - 2) = (L : Int) - 2 := IntWalk.i64_in _ (by clear hY; omega)
  have s0' : wrap64 ((L : Int) - 2) = (L : Int) - 2 := IntWalk.wrap64_in _ (by clear hY s0; omega)
  clear o1 b1 HCL hY
  go_wp2
  go_loopw [7] (fun v wr => ∃ d : Nat, d < L ∧ v = .int .i64 ((L : Int) - 2 - d) ∧ wr.ownsRow Y 2 1 (.slice (some ⟨g, 0, none⟩) L cg) L ((hsT xs c L d).map (Value.int .i64)) ∧ Below w.heap.size w wr) (fun v _ => (intOf v + 1).toNat)
  case atStart => exact ⟨0, h0, by simp, by rw [hsT_0 xs c L HXL.out] at HS ⊢; exact HS.out.1, by rw [← HY.out]; exact HS.out.2.1⟩
  case round =>
    clear HS
    obtain ⟨d, hd, rfl, hown, hB⟩ := hrel
    clear s0 s0'
    by_cases hlt : d + 1 < L
    · obtain ⟨K, hK⟩ : ∃ K, K = L - 2 - d := ⟨_, rfl⟩
      have hKi : (L : Int) - 2 - (d : Int) = (K : Int) := by omega
      have hLl := hsT_len xs c L d
      have c0 := (hown.cellAt K (by omega)).trans (show ((hsT xs c L d).map (Value.int .i64))[K]? = some (.int .i64 (xs.getD K 0)) by
        have e1 := hsT_get (xs := xs) (c := c) (d := d) (show K < L by omega)
        rw [if_neg (by omega)] at e1
        rw [← e1]
        simp [List.getD, List.getElem?_eq_getElem (show K < (hsT xs c L d).length by omega)])
      have c1 := (hown.cellAt (K + 1) (by omega)).trans (show ((hsT xs c L d).map (Value.int .i64))[K + 1]? = some (.int .i64 (hs xs c L d)) by
        have e1 := hsT_get (xs := xs) (c := c) (d := d) (show K + 1 < L by omega)
        rw [if_pos (by omega), show L - 1 - (K + 1) = d by omega] at e1
        rw [← e1]
        simp [List.getD, List.getElem?_eq_getElem (show K + 1 < (hsT xs c L d).length by omega)])
      have f0 := hown.frozenAt K
      obtain ⟨K1, hK1⟩ : ∃ K1, K1 = K + 1 := ⟨_, rfl⟩
      rw [← hK1] at c1
      have hst : hs xs c L (d + 1) = wrap64 (xs.getD K 0 + wrap64 (c * hs xs c L d)) := by rw [hK]; rfl
      have hset := hsT_set xs c L d hlt
      rw [← hK] at hset
      generalize xs.getD K 0 = x at c0 hst
      obtain ⟨y, hy⟩ : ∃ y, y = hs xs c L d := ⟨_, rfl⟩
      obtain ⟨z, hz⟩ : ∃ z, z = hs xs c L (d + 1) := ⟨_, rfl⟩
      rw [← hy] at c1 hst
      rw [← hz] at hst hset
      obtain ⟨m, hm⟩ : ∃ m, m = wrap64 (c * y) := ⟨_, rfl⟩
      rw [← hm] at hst
      have t1 : IntKind.i64.wrap (c * y) = m := by rw [IntWalk.i64_left, hm]
      have t3 : wrap64 (c * y) = m := hm.symm
      have t2 : IntKind.i64.wrap (x + m) = z := by rw [IntWalk.i64_left, hst]
      have t4 : wrap64 (x + m) = z := hst.symm
      have hownd : wr.drew.ownsRow Y 2 1 (.slice (some ⟨g, 0, none⟩) L cg) L ((hsT xs c L d).map (Value.int .i64)) := ownsRow_chg hown ((Qt.refl wr).drew.chg 0 0) (fun _ _ => .inr (Nat.zero_le _))
      have hsd := (hownd.stored K (.int .i64 z)).1
      rw [hset] at hsd
      have hgY := (hown.lt g rfl).1
      have HFS := Lib.hid (⟨hsd, (hB.drew).setCell (p := ⟨g, K, none⟩) (by rw [← HY.out]; exact hgY) (.int .i64 z)⟩ : (wr.drew.setCell ⟨g, K, none⟩ (.int .i64 z)).ownsRow Y 2 1 (.slice (some ⟨g, 0, none⟩) L cg) L ((hsT xs c L (d + 1)).map (Value.int .i64)) ∧ Below w.heap.size w (wr.drew.setCell ⟨g, K, none⟩ (.int .i64 z)))
      have d0 : wr.drew.cell? ⟨g, K, none⟩ = some (.int .i64 x) := c0
      have d1 : wr.drew.frozen? ⟨g, K, none⟩ = false := f0
      have p1 : IntKind.i64.wrap ((K : Int) + 1) = (K1 : Int) := by rw [show (K : Int) + 1 = (K1 : Int) by clear t1 t2 t3 t4 hm hst; omega]; exact IntWalk.i64_in _ (by clear t1 t2 t3 t4 hm hst; omega)
      have p2 : wrap64 ((K : Int) + 1) = (K1 : Int) := by rw [show (K : Int) + 1 = (K1 : Int) by clear t1 t2 t3 t4 hm hst p1; omega]; exact IntWalk.wrap64_in _ (by clear t1 t2 t3 t4 hm hst p1; omega)
      have hge : decide ((0 : Int) ≤ (K : Int)) = true := decide_eq_true (by clear t1 t2 t3 t4 hm hst p1 p2; omega)
      have hKL : (K : Int) < (L : Int) := by clear t1 t2 t3 t4 hm hst p1 p2; omega
      have hK2 : (K1 : Int) < (L : Int) := by clear t1 t2 t3 t4 hm hst p1 p2; omega
      have hK3 : (0 : Int) ≤ (K1 : Int) := by clear t1 t2 t3 t4 hm hst p1 p2; omega
      have hnx : (K : Int) - 1 = (L : Int) - 2 - ((d + 1 : Nat) : Int) := by clear t1 t2 t3 t4 hm hst p1 p2; omega
      have q1 : IntKind.i64.wrap ((K : Int) - 1) = (L : Int) - 2 - ((d + 1 : Nat) : Int) := by rw [← hnx]; exact IntWalk.i64_in _ (by clear t1 t2 t3 t4 hm hst p1 p2; omega)
      have q2 : wrap64 ((K : Int) - 1) = (L : Int) - 2 - ((d + 1 : Nat) : Int) := by rw [← hnx]; exact IntWalk.wrap64_in _ (by clear t1 t2 t3 t4 hm hst p1 p2 q1; omega)
      have HM := Lib.hid (⟨hKi, hnx⟩ : _ ∧ _)
      rw [hKi]
      clear hm hst hsd hownd hset hy hz hown hB hgY hnx hKi hK hLl hK1
      go_wp2
      go_still_tail 13, (by kernel_rfl)
      change wpList _ _ _ _ _ wr.drew
      clear c0 f0 c1 t1 t2 t3 t4 p1 p2
      generalize wr.drew = Z at HFS d0 d1 ⊢
      go_wp2
      go_roundw
      case rel => exact ⟨d+1, by clear q1 q2; omega, rfl, HFS.out⟩
      case measure => have h1 := HM.out; clear q1 q2; simp [intOf]; omega
    · obtain rfl : d = L - 1 := by omega
      rw [hsT_all xs c L h0] at hown
      have hge : decide ((0 : Int) ≤ (L : Int) - 2 - ((L - 1 : Nat) : Int)) = false := decide_eq_false (by omega)
      have hcl := hown.cellAt 0 (by omega)
      have c0 : wr.cell? ⟨g, 0, none⟩ = some (.int .i64 (hs xs c L (L - 1))) := hcl
      have hcap : L ≤ cg := by
        rcases hown.2 with ⟨h1, _⟩ | ⟨_, _, _, hv, _, _, hle, _⟩
        · simp at h1
        · simp only [Value.slice.injEq] at hv; omega
      have hRD : RdI w.heap.size wr.heap.size wr (.slice (some ⟨g, 1, none⟩) (L - 1) (cg - 1)) (quo xs c L) := by
        refine ⟨by rw [quo_len]; omega, quo_I64 HI.out, ?_⟩
        by_cases h1 : L - 1 = 0
        · refine .inl ⟨_, _, ?_, by rw [h1]⟩
          have := quo_len xs c L
          exact List.eq_nil_of_length_eq_zero (by omega)
        · refine .inr ⟨g, 1, cg - 1, by rw [quo_len], by rw [quo_len]; omega, by have := (hown.lt g rfl).1; have := HY.out; omega, (hown.lt g rfl).2, fun j hj => ?_⟩
          rw [quo_len] at hj
          have h2 := hown.cellAt (1 + j) (by omega)
          rw [h2, Nat.add_comm 1 j]
          simp [List.getD, List.getElem?_eq_getElem (show j < (quo xs c L).length by rw [quo_len]; omega)]
      have HF := Lib.hid (⟨hRD, hB⟩ : _ ∧ _)
      have h1c : (1 : Int) ≤ (L : Int) := by omega
      have h2c : (L : Int) ≤ (cg : Int) := by omega
      have h3c : (0 : Int) < (L : Int) := by omega
      have hnL : (L : Int) - 1 = ((L - 1 : Nat) : Int) := by omega
      clear hown hB hRD hcl
      obtain ⟨r, hr⟩ : ∃ r, r = hs xs c L (L - 1) := ⟨_, rfl⟩
      rw [← hr] at c0
      have HRR := Lib.hid hr
      clear hr
      go_wp2
      go_quiet (fail)
      go_wp2
      · have HQ := Lib.hid (⟨quo_len xs c L, HF.out.2.qt ((Qt.refl wr).drewN nq)⟩ : _ ∧ _)
        go_ret2
        exact ⟨g, 0, 0, by rw [← HRR.out]; rfl, ⟨by rw [quo_len]; omega, quo_I64 HI.out, .inl ⟨_, _, List.eq_nil_of_length_eq_zero (by rw [quo_len]; omega), by rw [show L - 1 = 0 by omega]⟩⟩, HQ.out.2⟩
      · have HQ := Lib.hid (⟨HF.out.1.qt ((Qt.refl wr).drewN nq), HF.out.2.qt ((Qt.refl wr).drewN nq)⟩ : _ ∧ _)
        go_ret2
        exact ⟨g, 1, cg - 1, by rw [← HRR.out]; rfl, by
          have := HQ.out.1
          exact ⟨this.1, this.2.1, by
            rcases this.2.2 with h5 | ⟨b', off', c', e1, e2, e3, e4, e5⟩
            · exact .inl h5
            · refine .inr ⟨b', off', c', e1, e2, e3, ?_, e5⟩
              have := HF.out.2.size
              simpa using e4⟩, HQ.out.2⟩

end Go.Proofs.Ytkhfhdmhhkfehaa
