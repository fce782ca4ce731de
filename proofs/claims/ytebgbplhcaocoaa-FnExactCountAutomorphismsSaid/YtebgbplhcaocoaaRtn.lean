/- The turns of a walk, as the program's iterator yields them. -/
import Derived.Test.YtebgbplhcaocoaaRfg
import Derived.Test.YtebgbplhcaocoaaConcat2
import Derived.Test.YtebgbplhcaocoaaCoreF
set_option linter.unusedSimpArgs false
set_option linter.unusedVariables false
namespace Go.Proofs.Ytebgbplhcaocoaa
open Go Go.RowKit Go.Shelf
attribute [local go_sem] Oper.semAt_some

/-- cells from n0 on stay -/
def KeepC (n0 : Nat) (A B : World) : Prop := ∀ (p : Addr) (v : Value), n0 ≤ p.block → A.cell? p = some v → B.cell? p = some v
theorem KeepC.trans {n0 : Nat} {A B C : World} (h : KeepC n0 A B) (k : KeepC n0 B C) : KeepC n0 A C := fun p v hp hc => k p v hp (h p v hp hc)
theorem cell_block {W : World} {l : Nat} {o : Obj} (h : W.heap[l]? = some o) (ho : o.isCells = false) {p : Addr} {v : Value} (hc : W.cell? p = some v) : p.block ≠ l := by
  intro e
  subst e
  unfold World.cell? at hc
  rw [h] at hc
  cases o <;> simp [Obj.isCells] at ho hc
theorem cell_put {W : World} {l : Nat} {o : Obj} (o' : Obj) (h : W.heap[l]? = some o) (ho : o.isCells = false) {p : Addr} {v : Value} (hc : W.cell? p = some v) : (W.putObj l o').cell? p = some v :=
  (World.cell?_of_block (World.putObj_heap_other (cell_block h ho hc))).trans hc
theorem keepC_put {n0 : Nat} (V : World) (l : Nat) (o o' : Obj) (h : V.heap[l]? = some o) (ho : o.isCells = false) : KeepC n0 V (V.putObj l o') := fun p v _ hc => cell_put o' h ho hc
theorem grown_none {w w' : World} (h : Below w.heap.size w w') : w.grownBy w' none := ⟨h.os, h.tape, h.output, h.size, fun k hk _ => h.block k hk⟩

theorem turn_getD {ws : List Int} {n k j : Nat} (hl : ws.length = n) (hk : k < n) (hj : j < n) : (turnL ws k).getD j 0 = (ws ++ ws).getD (k + j) 0 := by
  unfold turnL
  by_cases h : k + j < n
  · simp only [List.getD, List.getElem?_append_left (show j < (ws.drop k).length by rw [List.length_drop]; omega), List.getElem?_append_left (show k + j < ws.length by omega), List.getElem?_drop]
  · simp only [List.getD, List.getElem?_append_right (show (ws.drop k).length ≤ j by rw [List.length_drop]; omega), List.getElem?_append_right (show ws.length ≤ k + j by omega), List.length_drop]
    rw [List.getElem?_take, if_pos (by omega)]
    congr 2; omega

/-- what a turned walk reads as -/
def GdT (ws : List Int) (n : Nat) (n0 : Nat) (x : Nat × Nat) (W : World) : Prop := 1 ≤ x.2 ∧ x.2 < n ∧ n0 ≤ x.1 ∧ ∀ j, j < n → W.cell? ⟨x.1, x.2 + j, none⟩ = some (.int .i64 ((turnL ws x.2).getD j 0))
def allT (g m : Nat) : List (Nat × Nat) := (List.range m).map (fun q => (g, q + 1))
theorem allT_s (g m : Nat) : allT g (m + 1) = allT g m ++ [(g, m + 1)] := by simp [allT, List.range_succ]

set_option maxRecDepth 100000 in
set_option maxHeartbeats 4000000 in
theorem turnsRun (N : Nat) (hN : 2 ≤ N) (X Bx b off n c : Nat) (ws : List Int) (w : World) (hl : ws.length = n) (h1 : 1 ≤ n) (h12 : n ≤ 12) (hbx : Bx < w.heap.size) (hbl : b < w.heap.size)
    (hx : w.cell? ⟨Bx, 0, none⟩ = some (.slice (some ⟨b, off, none⟩) n c)) (hc : ∀ j, j < n → w.cell? ⟨b, off + j, none⟩ = some (.int .i64 (ws.getD j 0))) :
    TellsSeq (GdT ws n w.heap.size) Fence.wide N Try.prog 165 #[.pointer (some ⟨Bx, 0, none⟩)] (fun x : Nat × Nat => #[Value.slice (some ⟨x.1, x.2, none⟩) n n]) (KeepC w.heap.size) (fun xs => ∃ g, xs = allT g (n - 1)) w := by
  intro l J Jx W hW hJ hJx hY h0
  have hwW := hW.size
  have HX := Lib.hid (⟨hW.keep hx, fun j hj => hW.keep (hc j hj)⟩ : W.cell? ⟨Bx, 0, none⟩ = some (.slice (some ⟨b, off, none⟩) n c) ∧ ∀ j, j < n → W.cell? ⟨b, off + j, none⟩ = some (.int .i64 (ws.getD j 0)))
  have HY := Lib.hid hY
  have HJ := Lib.hid hJ
  have hxW := HX.out.1
  have HL := Lib.hid hl
  clear hY hJ hJx hx hc hl hbl
  refine callsIn_of_wp Try.func165 rfl trivial ?_ rfl
  simp only [Try.ntmps165, List.size_toArray, List.length_cons, List.length_nil, Nat.reduceAdd, Nat.reduceSub, Array.replicate_succ, Array.replicate_zero, List.push_toArray, List.append_toArray, List.nil_append, List.cons_append]
  have hF : Fence.wide.fn 128 := trivial
  obtain ⟨V, hV⟩ : ∃ V, V = W.alloc (.cells #[.slice (some ⟨b, off, none⟩) n c, .slice (some ⟨b, off, none⟩) n c] 37) := ⟨_, rfl⟩
  have hbV : Below W.heap.size W V := by rw [hV]; exact (Below.refl _ _).alloc (Nat.le_refl _) _
  have HCC := Lib.hid (slConcat2 W.heap.size b off n c ws V HL.out (by omega) (by omega) (by rw [hV]; go_simp) (by rw [hV]; go_simp) (fun j hj => hbV.keep (HX.out.2 j hj)))
  have HVV := Lib.hid (⟨hV, hbV⟩ : _ ∧ _)
  clear hV hbV
  gi_wp2
  refine ⟨fun _ => by omega, ?_⟩
  rw [← HVV.out.1]
  refine (callsIn_wide.2 HCC.out).mono ?_
  rintro e w1 ⟨g, cg, rfl, o1, b1⟩
  have hb1 : Below W.heap.size W w1 := HVV.out.2.next b1
  have hg : w.heap.size ≤ g := by have h1 := (o1.lt g rfl).1; have h2 := HVV.out.2.size; omega
  have hcap : n + n ≤ cg := by
    rcases o1.2 with ⟨h, _⟩ | ⟨g', cap', cur, h', _, hg, hnc, _⟩
    · simp at h
    · simp only [Value.slice.injEq, Option.some.injEq, Addr.mk.injEq, and_true, true_and] at h'
      omega
  have HG := Lib.hid (show ∀ j, j < n + n → w1.cell? ⟨g, j, none⟩ = some (.int .i64 ((ws ++ ws).getD j 0)) from fun j hj => (o1.cellAt j (by omega)).trans (by
    have hjl : j < (ws ++ ws).length := by rw [List.length_append, HL.out]; exact hj
    rw [List.getElem?_map, List.getElem?_eq_getElem hjl]
    simp [List.getD, List.getElem?_eq_getElem hjl]))
  have hJ1 : J [] w1 := HJ.out _ _ _ none h0 (grown_none hb1) (fun r e => by cases e)
  clear o1 b1 hb1 HVV HCC
  gi_wp2
  gi_loopw [5] (fun i wr => ∃ k : Nat, k + 1 ≤ n ∧ i = .int .i64 ((k + 1 : Nat) : Int) ∧ J (allT g k) wr ∧ Hid (∀ j, j < n + n → wr.cell? ⟨g, j, none⟩ = some (.int .i64 ((ws ++ ws).getD j 0)))) (fun i _ => n - (intOf i).toNat)
  case atStart => exact ⟨0, h1, rfl, hJ1, HG⟩
  case round =>
    clear HG hJ1
    obtain ⟨k, hk, rfl, hJk, HG⟩ := hrel
    obtain ⟨K, hK⟩ : ∃ K, K = k + 1 := ⟨_, rfl⟩
    rw [← hK]
    by_cases hlt : K < n
    · have hKn : (K : Int) < (n : Int) := by omega
      have hgd : GdT ws n w.heap.size (g, K) wr := ⟨by show 1 ≤ K; omega, hlt, hg, fun j hj => by
        rw [turn_getD HL.out hlt hj]
        exact HG.out (K + j) (by show K + j < n + n; omega)⟩
      obtain ⟨fn, tmps, assign, body, hy, hR⟩ := HY.out _ (g, K) wr hJk hgd
      have HKK := Lib.hid hK
      dsimp only at hy hR
      obtain ⟨E, hE⟩ : ∃ E, E = K + n := ⟨_, rfl⟩
      have m1 : IntKind.i64.wrap ((K : Int) + (n : Int)) = (E : Int) := by rw [show (K : Int) + (n : Int) = (E : Int) by omega]; exact IntWalk.i64_in _ (by omega)
      have m2 : wrap64 ((K : Int) + (n : Int)) = (E : Int) := by rw [show (K : Int) + (n : Int) = (E : Int) by clear m1; omega]; exact IntWalk.wrap64_in _ (by clear m1; omega)
      have s1 : (0 : Int) ≤ (K : Int) := by clear m1 m2; omega
      have s2 : (K : Int) ≤ (E : Int) := by clear m1 m2; omega
      have s3 : (E : Int) ≤ (cg : Int) := by clear m1 m2; omega
      have s4 : E - K = n := by clear m1 m2; omega
      have s5 : ¬ E = K := by clear m1 m2; omega
      have HEE := Lib.hid hE
      have HHC := Lib.hid hcap
      clear hE
      clear hgd hK hcap
      gi_wp2
      refine ⟨fun _ => by omega, hR.mono ?_⟩
      clear s1 s2 s3 s4 s5 m1 m2
      rintro e W3 (⟨rfl, hJ3, hKp⟩ | ⟨rfl, hJx3⟩)
      · have HF := Lib.hid (show J (allT g K) W3 ∧ Hid (∀ j, j < n + n → W3.cell? ⟨g, j, none⟩ = some (.int .i64 ((ws ++ ws).getD j 0))) from ⟨by rw [HKK.out, allT_s, ← HKK.out]; exact hJ3, Lib.hid (fun j hj => hKp _ _ hg (HG.out j hj))⟩)
        clear hJ3 hKp hy hR
        gi_wp2
        go_roundw
        case rel => exact ⟨K, by omega, by go_num, HF.out⟩
        case measure => simp [intOf]; omega
      · have HF := Lib.hid hJx3
        clear hJx3 hy hR
        gi_wp2
        refine bodyPost_ret (results_none rfl _ _ _) rfl ?_
        exact ⟨⟨_, rfl⟩, .inr HF.out⟩
    · obtain rfl : n = k + 1 := by omega
      gi_wp2
      go_end0
      exact ⟨⟨_, rfl⟩, .inl ⟨_, ⟨g, rfl⟩, hJk⟩⟩

end Go.Proofs.Ytebgbplhcaocoaa
