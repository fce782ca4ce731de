/- PolynomialOfSums and PrimesOfSums of the program. -/
import Derived.Test.YtebgbplhcaocoaaQs2
import Derived.Test.YtebgbplhcaocoaaQs3
import Derived.Test.YtebgbplhcaocoaaQs4
set_option linter.unusedSimpArgs false
set_option linter.unusedVariables false
set_option maxRecDepth 100000
namespace Go.Proofs.Ytebgbplhcaocoaa
open Go.RowKit

def xsX (xs : List Int) (j : Nat) : Int := (0 :: xs).getD j 0
def nxP (xs : List Int) (k : Nat) (l : List Int) : Option Int := mxO (fun i => l.getD i 0) (xsX xs) k k
def nxM (xs : List Int) (k : Nat) (l : List Int) : Option Int := mbO (xsX xs) k k
theorem xsX_lim {xs : List Int} (h : smsB xs = true) (j : Nat) : Lim (xsX xs j) := by
  unfold smsB at h
  simp only [Bool.and_eq_true, decide_eq_true_eq, List.all_eq_true] at h
  unfold xsX
  cases j with
  | zero => unfold Lim; simp
  | succ j =>
    by_cases hj : j < xs.length
    · have hm : xs.getD j 0 ∈ xs := by
        have : xs.getD j 0 = xs[j] := by simp [List.getD, List.getElem?_eq_getElem hj]
        rw [this]; exact List.getElem_mem hj
      have := h.2 _ hm
      simp only [List.getD_cons_succ]
      simpa [inW, Lim] using this
    · have : xs.getD j 0 = 0 := by simp [List.getD, List.getElem?_eq_none (Nat.le_of_not_lt hj)]
      simp only [List.getD_cons_succ, this]
      unfold Lim; omega

theorem cloPo (C g2 c2 n k : Nat) (xs l : List Int) (a : Option Addr) (c : Nat) (W : World) (hk : 1 ≤ k) (hkn : k ≤ n) (hn : n ≤ 24) (hl : l.length = k) (hs : smsB xs = true) (hx : xs.length = n) (hr : RdO W (.slice a k c) (l.map some))
    (hC : W.cell? ⟨C, 0, none⟩ = some (.slice (some ⟨g2, 0, none⟩) (n + 1) c2)) (hc : ∀ j, j < n + 1 → W.cell? ⟨g2, j * 2, none⟩ = some (.int .i64 (xsX xs j)) ∧ W.cell? ⟨g2, j * 2 + 1, none⟩ = some (.bool false)) :
    Calls Try.prog 79 #[.int .i64 (k : Int), .slice a k c, .pointer (some ⟨C, 0, none⟩)] W fun e w' => e = .returned (.tuple #[.agg #[.int .i64 (numO (nxP xs k l)), .bool (nxP xs k l).isNone], .int .i64 (-(k : Int))]) ∧ Below W.heap.size W w' := by
  have HM := Lib.hid (fun W' (hB : Below W.heap.size W W') => mixedSum a k c l g2 (n + 1) c2 (xsX xs) k W' (hr.below hB) hl (by omega) (by omega) (by omega) (fun j _ => xsX_lim hs j) (fun j hj => ⟨hB.keep (hc j hj).1, hB.keep (hc j hj).2⟩))
  have hb0 : ∀ o, Below W.heap.size W (W.alloc o) := fun o => (Below.refl _ _).alloc (Nat.le_refl _) o
  show Calls _ _ _ _ fun e w' => e = .returned (.tuple #[.agg #[.int .i64 (numO (mxO (fun i => l.getD i 0) (xsX xs) k k)), .bool (mxO (fun i => l.getD i 0) (xsX xs) k k).isNone], .int .i64 (-(k : Int))]) ∧ _
  obtain ⟨o, ho⟩ : ∃ o, o = mxO (fun i => l.getD i 0) (xsX xs) k k := ⟨_, rfl⟩
  rw [← ho] at HM ⊢
  have m1 : IntKind.i64.wrap (-(k : Int)) = -(k : Int) := IntWalk.i64_in _ (by omega)
  have m2 : wrap64 (-(k : Int)) = -(k : Int) := IntWalk.wrap64_in _ (by clear m1; omega)
  clear hr hs hx hc hl ho
  have hC' := (hb0 (.cells #[.int .i64 0, .bool false] 73)).keep hC
  go_enter Try.func79, Try.ntmps79
  go_wp2_with fail
  refine calls_gen (fun V => Below W.heap.size W V ∧ W.heap.size < V.heap.size ∧ V.cell? ⟨W.heap.size, 0, none⟩ = some (.int .i64 0) ∧ V.cell? ⟨W.heap.size, 1, none⟩ = some (.bool false) ∧ V.frozen? ⟨W.heap.size, 0, none⟩ = false ∧ V.frozen? ⟨W.heap.size, 1, none⟩ = false) ⟨hb0 (.cells #[.int .i64 0, .bool false] 73), by simp, by go_simp, by go_simp, by go_simp, by go_simp⟩ ?_
  rintro V ⟨hB, hz, r0, r1, f0, f1⟩
  refine (HM.out V hB).mono ?_
  rintro e w1 ⟨rfl, b1⟩
  have r0' := b1.keep r0
  have r1' := b1.keep r1
  have f0' := b1.keepf hz f0
  have f1' := b1.keepf hz f1
  have HB := Lib.hid (hB.next b1)
  clear b1 hB r0 r1 f0 f1 HM
  go_wp2
  refine bodyPost_ret (v := .tuple #[.agg #[.int .i64 (numO o), .bool o.isNone], .int .i64 (-(k : Int))]) (by simp [results, Try.results79, go_sem, r0', r1', f0', f1']) rfl ⟨rfl, ?_⟩
  repeat (refine Below.setCell ?_ (by simp <;> omega) _)
  exact HB.out

theorem cloPr (C g2 c2 n k : Nat) (xs l : List Int) (a : Option Addr) (c : Nat) (W : World) (hk : 1 ≤ k) (hkn : k ≤ n) (hn : n ≤ 24) (hs : smsB xs = true)
    (hC : W.cell? ⟨C, 0, none⟩ = some (.slice (some ⟨g2, 0, none⟩) (n + 1) c2)) (hc : ∀ j, j < n + 1 → W.cell? ⟨g2, j * 2, none⟩ = some (.int .i64 (xsX xs j)) ∧ W.cell? ⟨g2, j * 2 + 1, none⟩ = some (.bool false)) :
    Calls Try.prog 75 #[.int .i64 (k : Int), .slice a k c, .pointer (some ⟨C, 0, none⟩)] W fun e w' => e = .returned (.tuple #[.agg #[.int .i64 (numO (nxM xs k l)), .bool (nxM xs k l).isNone], .int .i64 (k : Int)]) ∧ Below W.heap.size W w' := by
  have HM := Lib.hid (fun W' (hB : Below W.heap.size W W') => moebiusSum g2 (n + 1) c2 (xsX xs) k W' (by omega) (by omega) (fun j _ => xsX_lim hs j) (fun j hj => ⟨hB.keep (hc j hj).1, hB.keep (hc j hj).2⟩))
  have hb0 : ∀ o, Below W.heap.size W (W.alloc o) := fun o => (Below.refl _ _).alloc (Nat.le_refl _) o
  show Calls _ _ _ _ fun e w' => e = .returned (.tuple #[.agg #[.int .i64 (numO (mbO (xsX xs) k k)), .bool (mbO (xsX xs) k k).isNone], .int .i64 (k : Int)]) ∧ _
  obtain ⟨o, ho⟩ : ∃ o, o = mbO (xsX xs) k k := ⟨_, rfl⟩
  rw [← ho] at HM ⊢
  clear hs hc ho
  have hC' := (hb0 (.cells #[.int .i64 0, .bool false] 73)).keep hC
  go_enter Try.func75, Try.ntmps75
  go_wp2_with fail
  refine calls_gen (fun V => Below W.heap.size W V ∧ W.heap.size < V.heap.size ∧ V.cell? ⟨W.heap.size, 0, none⟩ = some (.int .i64 0) ∧ V.cell? ⟨W.heap.size, 1, none⟩ = some (.bool false) ∧ V.frozen? ⟨W.heap.size, 0, none⟩ = false ∧ V.frozen? ⟨W.heap.size, 1, none⟩ = false) ⟨hb0 (.cells #[.int .i64 0, .bool false] 73), by simp, by go_simp, by go_simp, by go_simp, by go_simp⟩ ?_
  rintro V ⟨hB, hz, r0, r1, f0, f1⟩
  refine (HM.out V hB).mono ?_
  rintro e w1 ⟨rfl, b1⟩
  have r0' := b1.keep r0
  have r1' := b1.keep r1
  have f0' := b1.keepf hz f0
  have f1' := b1.keepf hz f1
  have HB := Lib.hid (hB.next b1)
  clear b1 hB r0 r1 f0 f1 HM
  go_wp2
  refine bodyPost_ret (v := .tuple #[.agg #[.int .i64 (numO o), .bool o.isNone], .int .i64 (k : Int)]) (by simp [results, Try.results75, go_sem, r0', r1', f0', f1']) rfl ⟨rfl, ?_⟩
  repeat (refine Below.setCell ?_ (by simp <;> omega) _)
  exact HB.out

set_option maxHeartbeats 1600000 in
theorem wholeSums {lo hi : Nat} (a : Option Addr) (n c : Nat) (xs : List Int) (w : World) (h : RdI lo hi w (.slice a n c) xs) (hn : xs.length = n) (h24 : n ≤ 24) :
    Calls Try.prog 73 #[.slice a n c] w fun e w' => ∃ g c', e = .returned (.slice (some ⟨g, 0, none⟩) (n + 1) c') ∧ g < w'.heap.size ∧ (∀ j, j < n + 1 → w'.cell? ⟨g, j * 2, none⟩ = some (.int .i64 (xsX xs j)) ∧ w'.cell? ⟨g, j * 2 + 1, none⟩ = some (.bool false)) ∧ Below w.heap.size w w' := by
  have HI := Lib.hid (fun x hx => h.2.1 x hx)
  have HN := Lib.hid hn
  have HCC := Lib.hid (fun (Y b : Nat) W (hB : Below w.heap.size w W) y0 y1 hz => slConcatG Y b n c a xs W hn h24 y0 y1 hz (h.below hB))
  clear h hn
  go_enter Try.func73, Try.ntmps73
  go_wp2_with fail
  obtain ⟨V, hV⟩ : ∃ V, V = (w.alloc (.cells #[.int .i64 0] 2)).alloc (.cells #[.slice (some ⟨w.heap.size, 0, none⟩) 1 1, .slice a n c] 37) := ⟨_, rfl⟩
  refine calls_gen (fun W => W = V) hV.symm ?_
  rintro W rfl
  have hB : Below w.heap.size w W := by rw [hV]; exact ((Below.refl _ _).alloc (Nat.le_refl _) _).alloc (by simp) _
  refine (HCC.out (w.heap.size + 1) w.heap.size W hB (by rw [hV]; go_simp) (by rw [hV]; go_simp) (by rw [hV]; go_simp)).mono ?_
  rintro e w1 ⟨v, rfl, o1, b1⟩
  obtain ⟨a1, c1, rfl⟩ := ownW_shape o1
  have HB1 := Lib.hid (hB.next b1)
  have hO : OwI W.heap.size w1.heap.size w1 (.slice a1 (1 + n) c1) (0 :: xs) := OwI.mk o1 (by omega) (fun x hx => by
    rcases List.mem_cons.mp hx with rfl | hx
    · exact I64_zero
    · exact HI.out x hx)
  have HW := Lib.hid (wholesOfP _ (0 :: xs) w1 hO.rd (by simp))
  have hl : (0 :: xs).length = n + 1 := by simp [HN.out]
  rw [hl] at HW
  clear hO o1 b1 hB HCC hl hV
  go_wp2_with fail
  refine HW.out.mono ?_
  rintro e w2 ⟨g, c2, rfl, hg, hcells, b2⟩
  have HF := Lib.hid (⟨hg, hcells, HB1.out.next b2⟩ : _ ∧ _ ∧ _)
  clear hg hcells b2
  go_wp2
  go_ret
  exact ⟨g, c2, rfl, HF.out⟩

end Go.Proofs.Ytebgbplhcaocoaa
