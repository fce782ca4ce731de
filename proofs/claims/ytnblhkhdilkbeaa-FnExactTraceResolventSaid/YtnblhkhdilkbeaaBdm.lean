/- Elimination by the program: a row with a number other than 0 is brought up, modulo a prime. -/
import Derived.Test.YtnblhkhdilkbeaaBcm
import Derived.Test.YtnblhkhdilkbeaaBd
import Derived.Deep.RegionHeld3
import Derived.StillTailTactics
set_option linter.unusedSimpArgs false
set_option linter.unusedVariables false
set_option maxRecDepth 100000
namespace Go.Proofs.Ytnblhkhdilkbeaa
open Go.RowKit

set_option maxHeartbeats 3200000 in
theorem bringM (md : Int) {B0 : Nat} {w0 : World} {E : Nat → Nat → Option Value} {X g N c : Nat} {rb cp : Nat → Nat} {f : Nat → Nat → Int} {p : Int} (w : World) (h : EL B0 w0 E X (.iface 74 (.int .i64 md)) g N c rb cp f p w) (hN : N ≤ 1000) (k : Nat) (hk : k < N) (hcap : N ≤ c) (r : Int → Int)
    (hlim : ∀ i j, i < N → j < N → -1073741824 ≤ f i j ∧ f i j ≤ 1073741824)
    (hr : ∀ i j, k ≤ i → i < N → j < N → ∀ W : World, Calls Try.prog 107 #[.int .i64 md, .int .i64 (-(f i j))] W fun e w' => e = .returned (.int .i64 (r (f i j))) ∧ Below W.heap.size W w') :
    Calls Try.prog 133 #[.pointer (some ⟨X, 0, none⟩), .int .i64 (k : Int)] w fun e w' => e = .returned (.tuple #[]) ∧ ∃ rb' cp' f', EL B0 w0 E X (.iface 74 (.int .i64 md)) g N c rb' cp' f' p w' ∧
      ((f' = f ∧ (f k k ≠ 0 ∨ ∀ i, k ≤ i → i < N → f i k = 0)) ∨ ∃ b, k < b ∧ b < N ∧ f b k ≠ 0 ∧ f' = ngF r (swp f k b) k N) := by
  have HL := Lib.hid hlim
  have HR := Lib.hid hr
  have h0 : (0 : Int) ≤ (k : Int) := by omega
  have h1 : (k : Int) < (N : Int) := by omega
  have h2 : (k : Int) ≤ (N : Int) := by omega
  have hb0 := (Below.refl w.heap.size w).alloc (Nat.le_refl _) (.cells #[.int .i64 (k : Int)] 3)
  have HE := Lib.hid (h.next hb0 h.size)
  have hYg : g ≠ w.heap.size := fun e => by have : g < w.heap.size := World.block_lt_of_cell? w _ (h.hd k hk); omega
  have hYr : ∀ i, i < N → rb i ≠ w.heap.size := fun i hi e => by have : rb i < w.heap.size := World.block_lt_of_cell? w _ (h.at_ i k hi hk); omega
  have HY := Lib.hid (⟨hYg, hYr⟩ : _ ∧ _)
  have y0 : (w.alloc (.cells #[.int .i64 (k : Int)] 3)).cell? ⟨w.heap.size, 0, none⟩ = some (.int .i64 (k : Int)) := by go_simp
  clear h hr hlim hYg hYr
  go_enter Try.func133, Try.ntmps133
  go_wp2
  generalize w.alloc (.cells #[.int .i64 (k : Int)] 3) = W at HE y0 ⊢
  obtain ⟨Y, hY⟩ : ∃ Y, Y = w.heap.size := ⟨_, rfl⟩
  rw [← hY] at HY y0 ⊢
  clear hb0 hY
  have u1 := HE.out.n1
  have HI := Lib.hid (fun W' (hq : Qt W W') => indexCol g k (N - k) (c - k) N Y k (fun j => rb (k + j)) (fun j => cp (k + j)) (fun j => f (k + j) k) W' (hq.cell y0) hk (by omega) (fun j hj => ⟨hq.cell (HE.out.hd (k + j) (by omega)), hq.cell (HE.out.at_ (k + j) k (by omega) hk)⟩))
  by_cases hck : c = k
  · omega
  · obtain ⟨v, hv⟩ : ∃ v, v = fnz (fun j => f (k + j) k) 0 (N - k) := ⟨_, rfl⟩
    rw [← hv] at HI
    have HV := Lib.hid (fnz_is (fun j => f (k + j) k) (N - k) 0)
    rw [← hv] at HV
    clear hv
    go_quiet ((go_at_call 149; exact Calls.quiet_of (HI.out _ ⟨_, rfl⟩)))
    have HEQ := Lib.hid (HE.out.next ((Qt.refl W).drewN nq).below HE.out.size)
    have y0' := ((Qt.refl W).drewN nq).cell y0
    generalize W.drewN nq = V at HEQ y0' ⊢
    clear HI HE u1 y0
    by_cases hv0 : v ≤ 0
    · have HF := Lib.hid (show f k k ≠ 0 ∨ ∀ i, k ≤ i → i < N → f i k = 0 by
        rcases HV.out with ⟨_, h3⟩ | ⟨b, e, _, _, h3⟩
        · exact .inr (fun i hi hi2 => by have := h3 (i - k) (by omega) (by omega); rw [show k + (i - k) = i by omega] at this; exact this)
        · obtain rfl : b = 0 := by omega
          exact .inl h3)
      clear HV
      go_wp2
      refine bodyPost_ret (results_none rfl _ _ _) rfl ?_
      exact ⟨rfl, rb, cp, f, HEQ.out, .inl ⟨rfl, HF.out⟩⟩
    · obtain ⟨b, hb1, hb2, hb3, rfl⟩ : ∃ b : Nat, 0 < b ∧ k + b < N ∧ f (k + b) k ≠ 0 ∧ v = (b : Int) := by
        rcases HV.out with ⟨e, _⟩ | ⟨b, e, _, h2, h3⟩
        · omega
        · exact ⟨b, by omega, by omega, h3, e⟩
      clear HV
      have HNZ := Lib.hid hb3
      clear hb3
      have hkb : IntKind.i64.wrap ((k : Int) + (b : Int)) = (k : Int) + (b : Int) := IntWalk.i64_in _ (by omega)
      have hkb2 : wrap64 ((k : Int) + (b : Int)) = (k : Int) + (b : Int) := IntWalk.wrap64_in _ (by omega)
      have hkb3 : (0 : Int) ≤ (k : Int) + (b : Int) := by omega
      have hkb4 : (k : Int) + (b : Int) < (N : Int) := by omega
      have hkb5 : ((k : Int) + (b : Int)).toNat = k + b := by omega
      have u1 := HEQ.out.n1
      have u2 := HEQ.out.hd k hk
      have u3 := HEQ.out.hd (k + b) hb2
      have u4 := HEQ.out.hf k hk
      have u5 := HEQ.out.hf (k + b) hb2
      have HSW := Lib.hid (HEQ.out.drew.swap (a := k) (b := k + b) hk hb2 (by omega))
      have d2 : V.drew.cell? ⟨g, k, none⟩ = _ := u2
      have d3 : V.drew.cell? ⟨g, k + b, none⟩ = _ := u3
      have d4 : V.drew.frozen? ⟨g, k, none⟩ = _ := u4
      have d5 : V.drew.frozen? ⟨g, k + b, none⟩ = _ := u5
      go_wp2_with fail
      have hYY := HY.out
      have HS0 := Lib.hid (show V.drew.cell? ⟨X, 1, none⟩ = some (.slice (some ⟨g, 0, none⟩) N c) ∧ V.drew.cell? ⟨Y, 0, none⟩ = some (.int .i64 (k : Int)) from ⟨u1, y0'⟩)
      have HS1 := Lib.hid (show (V.drew.setCell ⟨g, k, none⟩ (.slice (some ⟨rb (k + b), 0, none⟩) N (cp (k + b)))).cell? ⟨X, 1, none⟩ = some (.slice (some ⟨g, 0, none⟩) N c) ∧ (V.drew.setCell ⟨g, k, none⟩ (.slice (some ⟨rb (k + b), 0, none⟩) N (cp (k + b)))).cell? ⟨Y, 0, none⟩ = some (.int .i64 (k : Int)) from ⟨cell_other HS0.out.1 (.inl (fun e => HEQ.out.gX e.symm)), cell_other HS0.out.2 (.inl (fun e => hYY.1 e.symm))⟩)
      have HS2 := Lib.hid (show ((V.drew.setCell ⟨g, k, none⟩ (.slice (some ⟨rb (k + b), 0, none⟩) N (cp (k + b)))).setCell ⟨g, k + b, none⟩ (.slice (some ⟨rb k, 0, none⟩) N (cp k))).cell? ⟨X, 1, none⟩ = some (.slice (some ⟨g, 0, none⟩) N c) ∧ ((V.drew.setCell ⟨g, k, none⟩ (.slice (some ⟨rb (k + b), 0, none⟩) N (cp (k + b)))).setCell ⟨g, k + b, none⟩ (.slice (some ⟨rb k, 0, none⟩) N (cp k))).cell? ⟨Y, 0, none⟩ = some (.int .i64 (k : Int)) from ⟨cell_other HS1.out.1 (.inl (fun e => HEQ.out.gX e.symm)), cell_other HS1.out.2 (.inl (fun e => hYY.1 e.symm))⟩)
      have d6 : (V.drew.setCell ⟨g, k, none⟩ (.slice (some ⟨rb (k + b), 0, none⟩) N (cp (k + b)))).cell? ⟨g, k + b, none⟩ = some (.slice (some ⟨rb (k + b), 0, none⟩) N (cp (k + b))) := cell_other d3 (.inr (by omega))
      have d7 : (V.drew.setCell ⟨g, k, none⟩ (.slice (some ⟨rb (k + b), 0, none⟩) N (cp (k + b)))).frozen? ⟨g, k + b, none⟩ = false := (World.frozen?_setCell _ _ _ _).trans d5
      clear hYY
      refine wp_region_held_drew (S := fun W' => W'.cell? ⟨X, 1, none⟩ = some (.slice (some ⟨g, 0, none⟩) N c) ∧ W'.cell? ⟨Y, 0, none⟩ = some (.int .i64 (k : Int))) (by kernel_rfl) HS0.out (fun hHeld => ?_)
      refine wpAnyH_take (i := 0) (oi := ?oz1) (v := ?vz1) ?h1z1 ?h2z1 ?h3z1 ?h4z1 ?h5z1 ?h6z1 ?h7z1 ?h8z1
      case h1z1 => (simp only [List.getElem?_toArray, List.getElem?_cons_succ, List.getElem?_cons_zero]; exact rfl)
      case h2z1 => kernel_rfl
      case h3z1 => kernel_rfl
      case h4z1 => kernel_rfl
      case h5z1 => exact fun _ _ _ h => h
      case h6z1 => (refine Or.inl ⟨by rfl, ?_⟩; intro W' hSw; obtain ⟨s1, s2⟩ := hSw; go_simp; try (with_reducible rfl))
      case h7z1 => assumption
      try simp only [Act.put, List.setIfInBounds_toArray, List.set_cons_zero, List.set_cons_succ]
      refine wpAnyH_take (i := 1) (oi := ?oz2) (v := ?vz2) ?h1z2 ?h2z2 ?h3z2 ?h4z2 ?h5z2 ?h6z2 ?h7z2 ?h8z2
      case h1z2 => (simp only [List.getElem?_toArray, List.getElem?_cons_succ, List.getElem?_cons_zero]; exact rfl)
      case h2z2 => kernel_rfl
      case h3z2 => kernel_rfl
      case h4z2 => kernel_rfl
      case h5z2 => exact fun _ _ _ h => h
      case h6z2 => (refine Or.inl ⟨by rfl, ?_⟩; intro W' hSw; obtain ⟨s1, s2⟩ := hSw; go_simp; try (with_reducible rfl))
      case h7z2 => assumption
      try simp only [Act.put, List.setIfInBounds_toArray, List.set_cons_zero, List.set_cons_succ]
      refine wpAnyH_take (i := 2) (oi := ?oz3) (v := ?vz3) ?h1z3 ?h2z3 ?h3z3 ?h4z3 ?h5z3 ?h6z3 ?h7z3 ?h8z3
      case h1z3 => (simp only [List.getElem?_toArray, List.getElem?_cons_succ, List.getElem?_cons_zero]; exact rfl)
      case h2z3 => kernel_rfl
      case h3z3 => kernel_rfl
      case h4z3 => kernel_rfl
      case h5z3 => exact fun _ _ _ h => h
      case h6z3 => (refine Or.inl ⟨by rfl, ?_⟩; intro W' hSw; obtain ⟨s1, s2⟩ := hSw; go_simp; try (with_reducible rfl))
      case h7z3 => assumption
      try simp only [Act.put, List.setIfInBounds_toArray, List.set_cons_zero, List.set_cons_succ]
      refine wpAnyH_take (i := 3) (oi := ?oz4) (v := ?vz4) ?h1z4 ?h2z4 ?h3z4 ?h4z4 ?h5z4 ?h6z4 ?h7z4 ?h8z4
      case h1z4 => (simp only [List.getElem?_toArray, List.getElem?_cons_succ, List.getElem?_cons_zero]; exact rfl)
      case h2z4 => kernel_rfl
      case h3z4 => kernel_rfl
      case h4z4 => kernel_rfl
      case h5z4 => exact fun _ _ _ h => h
      case h6z4 => (refine Or.inl ⟨by rfl, ?_⟩; intro W' hSw; obtain ⟨s1, s2⟩ := hSw; go_simp; try (with_reducible rfl))
      case h7z4 => assumption
      try simp only [Act.put, List.setIfInBounds_toArray, List.set_cons_zero, List.set_cons_succ]
      refine wpAnyH_take (i := 4) (oi := ?oz5) (v := ?vz5) ?h1z5 ?h2z5 ?h3z5 ?h4z5 ?h5z5 ?h6z5 ?h7z5 ?h8z5
      case h1z5 => (simp only [List.getElem?_toArray, List.getElem?_cons_succ, List.getElem?_cons_zero]; exact rfl)
      case h2z5 => kernel_rfl
      case h3z5 => kernel_rfl
      case h4z5 => kernel_rfl
      case h5z5 => exact fun _ _ _ h => h
      case h6z5 => (refine Or.inl ⟨by rfl, ?_⟩; intro W' hSw; obtain ⟨s1, s2⟩ := hSw; go_simp; try (with_reducible rfl))
      case h7z5 => assumption
      try simp only [Act.put, List.setIfInBounds_toArray, List.set_cons_zero, List.set_cons_succ]
      refine wpAnyH_take (i := 5) (oi := ?oz6) (v := ?vz6) ?h1z6 ?h2z6 ?h3z6 ?h4z6 ?h5z6 ?h6z6 ?h7z6 ?h8z6
      case h1z6 => (simp only [List.getElem?_toArray, List.getElem?_cons_succ, List.getElem?_cons_zero]; exact rfl)
      case h2z6 => kernel_rfl
      case h3z6 => kernel_rfl
      case h4z6 => kernel_rfl
      case h5z6 => exact fun _ _ _ h => h
      case h6z6 => (refine Or.inl ⟨by rfl, ?_⟩; intro W' hSw; obtain ⟨s1, s2⟩ := hSw; go_simp; try (with_reducible rfl))
      case h7z6 => assumption
      try simp only [Act.put, List.setIfInBounds_toArray, List.set_cons_zero, List.set_cons_succ]
      refine wpAnyH_take (i := 6) (oi := ?oz7) (v := ?vz7) ?h1z7 ?h2z7 ?h3z7 ?h4z7 ?h5z7 ?h6z7 ?h7z7 ?h8z7
      case h1z7 => (simp only [List.getElem?_toArray, List.getElem?_cons_succ, List.getElem?_cons_zero]; exact rfl)
      case h2z7 => kernel_rfl
      case h3z7 => kernel_rfl
      case h4z7 => kernel_rfl
      case h5z7 => exact fun _ _ _ h => h
      case h6z7 => (refine Or.inl ⟨by rfl, ?_⟩; intro W' hSw; obtain ⟨s1, s2⟩ := hSw; go_simp; try (with_reducible rfl))
      case h7z7 => assumption
      try simp only [Act.put, List.setIfInBounds_toArray, List.set_cons_zero, List.set_cons_succ]
      refine wpAnyH_take (i := 7) (oi := ?oz8) (v := ?vz8) ?h1z8 ?h2z8 ?h3z8 ?h4z8 ?h5z8 ?h6z8 ?h7z8 ?h8z8
      case h1z8 => (simp only [List.getElem?_toArray, List.getElem?_cons_succ, List.getElem?_cons_zero]; exact rfl)
      case h2z8 => kernel_rfl
      case h3z8 => kernel_rfl
      case h4z8 => kernel_rfl
      case h5z8 => exact fun _ _ _ h => h
      case h6z8 => (refine Or.inl ⟨by rfl, ?_⟩; intro W' hSw; obtain ⟨s1, s2⟩ := hSw; go_simp; try (with_reducible rfl))
      case h7z8 => assumption
      try simp only [Act.put, List.setIfInBounds_toArray, List.set_cons_zero, List.set_cons_succ]
      refine wpAnyH_take (i := 8) (oi := ?oz9) (v := ?vz9) ?h1z9 ?h2z9 ?h3z9 ?h4z9 ?h5z9 ?h6z9 ?h7z9 ?h8z9
      case h1z9 => (simp only [List.getElem?_toArray, List.getElem?_cons_succ, List.getElem?_cons_zero]; exact rfl)
      case h2z9 => kernel_rfl
      case h3z9 => kernel_rfl
      case h4z9 => kernel_rfl
      case h5z9 => exact fun _ _ _ h => h
      case h6z9 => (refine Or.inl ⟨by rfl, ?_⟩; intro W' hSw; obtain ⟨s1, s2⟩ := hSw; go_simp; try (with_reducible rfl))
      case h7z9 => assumption
      try simp only [Act.put, List.setIfInBounds_toArray, List.set_cons_zero, List.set_cons_succ]
      refine wpAnyH_take (i := 9) (oi := ?oz10) (v := ?vz10) ?h1z10 ?h2z10 ?h3z10 ?h4z10 ?h5z10 ?h6z10 ?h7z10 ?h8z10
      case h1z10 => (simp only [List.getElem?_toArray, List.getElem?_cons_succ, List.getElem?_cons_zero]; exact rfl)
      case h2z10 => kernel_rfl
      case h3z10 => kernel_rfl
      case h4z10 => kernel_rfl
      case h5z10 => exact fun _ _ _ h => h
      case h6z10 => (refine Or.inl ⟨by rfl, ?_⟩; intro W' hSw; obtain ⟨s1, s2⟩ := hSw; go_simp; try (with_reducible rfl))
      case h7z10 => assumption
      try simp only [Act.put, List.setIfInBounds_toArray, List.set_cons_zero, List.set_cons_succ]
      refine wpAnyH_take (i := 10) (oi := ?oz11) (v := ?vz11) ?h1z11 ?h2z11 ?h3z11 ?h4z11 ?h5z11 ?h6z11 ?h7z11 ?h8z11
      case h1z11 => (simp only [List.getElem?_toArray, List.getElem?_cons_succ, List.getElem?_cons_zero]; exact rfl)
      case h2z11 => kernel_rfl
      case h3z11 => kernel_rfl
      case h4z11 => kernel_rfl
      case h5z11 => exact fun _ _ _ h => h
      case h6z11 => (refine Or.inl ⟨by rfl, ?_⟩; intro W' hSw; obtain ⟨s1, s2⟩ := hSw; go_simp; try (with_reducible rfl))
      case h7z11 => assumption
      try simp only [Act.put, List.setIfInBounds_toArray, List.set_cons_zero, List.set_cons_succ]
      refine wpAnyH_take (i := 11) (oi := ?oz12) (v := ?vz12) ?h1z12 ?h2z12 ?h3z12 ?h4z12 ?h5z12 ?h6z12 ?h7z12 ?h8z12
      case h1z12 => (simp only [List.getElem?_toArray, List.getElem?_cons_succ, List.getElem?_cons_zero]; exact rfl)
      case h2z12 => kernel_rfl
      case h3z12 => kernel_rfl
      case h4z12 => kernel_rfl
      case h5z12 => exact fun _ _ _ h => h
      case h6z12 => (refine Or.inl ⟨by rfl, ?_⟩; intro W' hSw; obtain ⟨s1, s2⟩ := hSw; go_simp; try (with_reducible rfl))
      case h7z12 => assumption
      try simp only [Act.put, List.setIfInBounds_toArray, List.set_cons_zero, List.set_cons_succ]
      refine wpAnyH_take (i := 12) (oi := ?oz13) (v := ?vz13) ?h1z13 ?h2z13 ?h3z13 ?h4z13 ?h5z13 ?h6z13 ?h7z13 ?h8z13
      case h1z13 => (simp only [List.getElem?_toArray, List.getElem?_cons_succ, List.getElem?_cons_zero]; exact rfl)
      case h2z13 => kernel_rfl
      case h3z13 => kernel_rfl
      case h4z13 => kernel_rfl
      case h5z13 => exact fun _ _ _ h => h
      case h6z13 => (refine Or.inl ⟨by rfl, ?_⟩; intro W' hSw; obtain ⟨s1, s2⟩ := hSw; go_simp; try (with_reducible rfl))
      case h7z13 => assumption
      try simp only [Act.put, List.setIfInBounds_toArray, List.set_cons_zero, List.set_cons_succ]
      refine wpAnyH_take (i := 13) (oi := ?oz14) (v := ?vz14) ?h1z14 ?h2z14 ?h3z14 ?h4z14 ?h5z14 ?h6z14 ?h7z14 ?h8z14
      case h1z14 => (simp only [List.getElem?_toArray, List.getElem?_cons_succ, List.getElem?_cons_zero]; exact rfl)
      case h2z14 => kernel_rfl
      case h3z14 => kernel_rfl
      case h4z14 => kernel_rfl
      case h5z14 => exact fun _ _ _ h => h
      case h6z14 => (refine Or.inl ⟨by rfl, ?_⟩; intro W' hSw; obtain ⟨s1, s2⟩ := hSw; go_simp; try (with_reducible rfl))
      case h7z14 => assumption
      try simp only [Act.put, List.setIfInBounds_toArray, List.set_cons_zero, List.set_cons_succ]
      refine wpAnyH_take (i := 14) (oi := ?oz15) (v := ?vz15) ?h1z15 ?h2z15 ?h3z15 ?h4z15 ?h5z15 ?h6z15 ?h7z15 ?h8z15
      case h1z15 => (simp only [List.getElem?_toArray, List.getElem?_cons_succ, List.getElem?_cons_zero]; exact rfl)
      case h2z15 => kernel_rfl
      case h3z15 => kernel_rfl
      case h4z15 => kernel_rfl
      case h5z15 => exact fun _ _ _ h => h
      case h6z15 => (refine Or.inl ⟨by rfl, ?_⟩; intro W' hSw; obtain ⟨s1, s2⟩ := hSw; go_simp; try (with_reducible rfl))
      case h7z15 => assumption
      try simp only [Act.put, List.setIfInBounds_toArray, List.set_cons_zero, List.set_cons_succ]
      refine wpAnyH_take (i := 15) (oi := ?oz16) (v := ?vz16) ?h1z16 ?h2z16 ?h3z16 ?h4z16 ?h5z16 ?h6z16 ?h7z16 ?h8z16
      case h1z16 => (simp only [List.getElem?_toArray, List.getElem?_cons_succ, List.getElem?_cons_zero]; exact rfl)
      case h2z16 => kernel_rfl
      case h3z16 => kernel_rfl
      case h4z16 => kernel_rfl
      case h5z16 => exact fun _ _ _ h => h
      case h6z16 => (refine Or.inl ⟨by rfl, ?_⟩; intro W' hSw; obtain ⟨s1, s2⟩ := hSw; go_simp; try (with_reducible rfl))
      case h7z16 => assumption
      try simp only [Act.put, List.setIfInBounds_toArray, List.set_cons_zero, List.set_cons_succ]
      refine wpAnyH_take (i := 16) (oi := ?oz17) (v := ?vz17) ?h1z17 ?h2z17 ?h3z17 ?h4z17 ?h5z17 ?h6z17 ?h7z17 ?h8z17
      case h1z17 => (simp only [List.getElem?_toArray, List.getElem?_cons_succ, List.getElem?_cons_zero]; exact rfl)
      case h2z17 => kernel_rfl
      case h3z17 => kernel_rfl
      case h4z17 => kernel_rfl
      case h5z17 => exact fun _ _ _ h => h
      case h6z17 => (refine Or.inl ⟨by rfl, ?_⟩; intro W' hSw; obtain ⟨s1, s2⟩ := hSw; go_simp; try (with_reducible rfl))
      case h7z17 => assumption
      try simp only [Act.put, List.setIfInBounds_toArray, List.set_cons_zero, List.set_cons_succ]
      refine wpAnyH_take (i := 17) (oi := ?oz18) (v := ?vz18) ?h1z18 ?h2z18 ?h3z18 ?h4z18 ?h5z18 ?h6z18 ?h7z18 ?h8z18
      case h1z18 => (simp only [List.getElem?_toArray, List.getElem?_cons_succ, List.getElem?_cons_zero]; exact rfl)
      case h2z18 => kernel_rfl
      case h3z18 => kernel_rfl
      case h4z18 => kernel_rfl
      case h5z18 => exact fun _ _ _ h => h
      case h6z18 => (refine Or.inl ⟨by rfl, ?_⟩; intro W' hSw; obtain ⟨s1, s2⟩ := hSw; go_simp; try (with_reducible rfl))
      case h7z18 => assumption
      try simp only [Act.put, List.setIfInBounds_toArray, List.set_cons_zero, List.set_cons_succ]
      refine wpAnyH_take (i := 18) (oi := ?oz19) (v := ?vz19) ?h1z19 ?h2z19 ?h3z19 ?h4z19 ?h5z19 ?h6z19 ?h7z19 ?h8z19
      case h1z19 => (simp only [List.getElem?_toArray, List.getElem?_cons_succ, List.getElem?_cons_zero]; exact rfl)
      case h2z19 => kernel_rfl
      case h3z19 => kernel_rfl
      case h4z19 => kernel_rfl
      case h5z19 => exact fun _ _ _ h => h
      case h6z19 => (refine Or.inl ⟨by rfl, ?_⟩; intro W' hSw; obtain ⟨s1, s2⟩ := hSw; go_simp; try (with_reducible rfl))
      case h7z19 => assumption
      try simp only [Act.put, List.setIfInBounds_toArray, List.set_cons_zero, List.set_cons_succ]
      refine wpAnyH_take (i := 19) (oi := ?oz20) (v := ?vz20) ?h1z20 ?h2z20 ?h3z20 ?h4z20 ?h5z20 ?h6z20 ?h7z20 ?h8z20
      case h1z20 => (simp only [List.getElem?_toArray, List.getElem?_cons_succ, List.getElem?_cons_zero]; exact rfl)
      case h2z20 => kernel_rfl
      case h3z20 => kernel_rfl
      case h4z20 => kernel_rfl
      case h5z20 => exact fun _ _ _ h => h
      case h6z20 => (refine Or.inl ⟨by rfl, ?_⟩; intro W' hSw; obtain ⟨s1, s2⟩ := hSw; go_simp; try (with_reducible rfl))
      case h7z20 => assumption
      try simp only [Act.put, List.setIfInBounds_toArray, List.set_cons_zero, List.set_cons_succ]
      refine wpAnyH_take (i := 21) (oi := ?oz21) (v := ?vz21) ?h1z21 ?h2z21 ?h3z21 ?h4z21 ?h5z21 ?h6z21 ?h7z21 ?h8z21
      case h1z21 => (simp only [List.getElem?_toArray, List.getElem?_cons_succ, List.getElem?_cons_zero]; exact rfl)
      case h2z21 => kernel_rfl
      case h3z21 => kernel_rfl
      case h4z21 => kernel_rfl
      case h5z21 => exact fun _ _ _ h => h
      case h6z21 => (refine Or.inl ⟨by rfl, ?_⟩; intro W' hSw; obtain ⟨s1, s2⟩ := hSw; go_simp; try (with_reducible rfl))
      case h7z21 => assumption
      try simp only [Act.put, List.setIfInBounds_toArray, List.set_cons_zero, List.set_cons_succ]
      refine wpAnyH_take (i := 22) (oi := ?oz22) (v := ?vz22) ?h1z22 ?h2z22 ?h3z22 ?h4z22 ?h5z22 ?h6z22 ?h7z22 ?h8z22
      case h1z22 => (simp only [List.getElem?_toArray, List.getElem?_cons_succ, List.getElem?_cons_zero]; exact rfl)
      case h2z22 => kernel_rfl
      case h3z22 => kernel_rfl
      case h4z22 => kernel_rfl
      case h5z22 => exact fun _ _ _ h => h
      case h6z22 => (refine Or.inl ⟨by rfl, ?_⟩; intro W' hSw; obtain ⟨s1, s2⟩ := hSw; go_simp; try (with_reducible rfl))
      case h7z22 => assumption
      try simp only [Act.put, List.setIfInBounds_toArray, List.set_cons_zero, List.set_cons_succ]
      refine wpAnyH_take (i := 23) (oi := ?oz23) (v := ?vz23) ?h1z23 ?h2z23 ?h3z23 ?h4z23 ?h5z23 ?h6z23 ?h7z23 ?h8z23
      case h1z23 => (simp only [List.getElem?_toArray, List.getElem?_cons_succ, List.getElem?_cons_zero]; exact rfl)
      case h2z23 => kernel_rfl
      case h3z23 => kernel_rfl
      case h4z23 => kernel_rfl
      case h5z23 => exact fun _ _ _ h => h
      case h6z23 => (refine Or.inl ⟨by rfl, ?_⟩; intro W' hSw; obtain ⟨s1, s2⟩ := hSw; go_simp; try (with_reducible rfl))
      case h7z23 => assumption
      try simp only [Act.put, List.setIfInBounds_toArray, List.set_cons_zero, List.set_cons_succ]
      refine wpAnyH_take (i := 24) (oi := ?oz24) (v := ?vz24) ?h1z24 ?h2z24 ?h3z24 ?h4z24 ?h5z24 ?h6z24 ?h7z24 ?h8z24
      case h1z24 => (simp only [List.getElem?_toArray, List.getElem?_cons_succ, List.getElem?_cons_zero]; exact rfl)
      case h2z24 => kernel_rfl
      case h3z24 => kernel_rfl
      case h4z24 => kernel_rfl
      case h5z24 => exact fun _ _ _ h => h
      case h6z24 => (refine Or.inl ⟨by rfl, ?_⟩; intro W' hSw; obtain ⟨s1, s2⟩ := hSw; go_simp; try (with_reducible rfl))
      case h7z24 => assumption
      try simp only [Act.put, List.setIfInBounds_toArray, List.set_cons_zero, List.set_cons_succ]
      refine wpAnyH_take (i := 25) (oi := ?oz25) (v := ?vz25) ?h1z25 ?h2z25 ?h3z25 ?h4z25 ?h5z25 ?h6z25 ?h7z25 ?h8z25
      case h1z25 => (simp only [List.getElem?_toArray, List.getElem?_cons_succ, List.getElem?_cons_zero]; exact rfl)
      case h2z25 => kernel_rfl
      case h3z25 => kernel_rfl
      case h4z25 => kernel_rfl
      case h5z25 => exact fun _ _ _ h => h
      case h6z25 => (refine Or.inl ⟨by rfl, ?_⟩; intro W' hSw; obtain ⟨s1, s2⟩ := hSw; go_simp; try (with_reducible rfl))
      case h7z25 => assumption
      try simp only [Act.put, List.setIfInBounds_toArray, List.set_cons_zero, List.set_cons_succ]
      refine wpAnyH_take (i := 26) (oi := ?oz26) (v := ?vz26) ?h1z26 ?h2z26 ?h3z26 ?h4z26 ?h5z26 ?h6z26 ?h7z26 ?h8z26
      case h1z26 => (simp only [List.getElem?_toArray, List.getElem?_cons_succ, List.getElem?_cons_zero]; exact rfl)
      case h2z26 => kernel_rfl
      case h3z26 => kernel_rfl
      case h4z26 => kernel_rfl
      case h5z26 => exact fun _ _ _ h => h
      case h6z26 => (refine Or.inl ⟨by rfl, ?_⟩; intro W' hSw; obtain ⟨s1, s2⟩ := hSw; go_simp; try (with_reducible rfl))
      case h7z26 => assumption
      try simp only [Act.put, List.setIfInBounds_toArray, List.set_cons_zero, List.set_cons_succ]
      refine wpAnyH_ready (rs := [20, 27]) (by kernel_rfl) (by simp) ?_
      refine AllReadyH.cons (o := ?oz27) ?h1z27 ?h2z27 ?h3z27
      case h1z27 => (simp only [List.getElem?_toArray, List.getElem?_cons_succ, List.getElem?_cons_zero]; exact rfl)
      case' h2z27 => intro K hK
      · go_simp
        refine hK.out _ _ HS0.out (fun hHeld => ?_)
        clear hK K
        try simp only [Act.put, List.setIfInBounds_toArray, List.set_cons_zero, List.set_cons_succ]
        refine wpAnyH_ready (rs := [27]) (by kernel_rfl) (by simp) ?_
        refine AllReadyH.cons (o := ?oz28) ?h1z28 ?h2z28 ?h3z28
        case h1z28 => (simp only [List.getElem?_toArray, List.getElem?_cons_succ, List.getElem?_cons_zero]; exact rfl)
        case' h2z28 => intro K hK
        · go_simp
          refine hK.out _ _ HS0.out (fun hHeld => ?_)
          clear hK K
          try simp only [Act.put, List.setIfInBounds_toArray, List.set_cons_zero, List.set_cons_succ]
          refine wpAnyH_take (i := 28) (oi := ?oz29) (v := ?vz29) ?h1z29 ?h2z29 ?h3z29 ?h4z29 ?h5z29 ?h6z29 ?h7z29 ?h8z29
          case h1z29 => (simp only [List.getElem?_toArray, List.getElem?_cons_succ, List.getElem?_cons_zero]; exact rfl)
          case h2z29 => kernel_rfl
          case h3z29 => kernel_rfl
          case h4z29 => kernel_rfl
          case h5z29 => exact fun _ _ _ h => h
          case h6z29 => (refine Or.inl ⟨by rfl, ?_⟩; intro W' hSw; obtain ⟨s1, s2⟩ := hSw; go_simp; try (with_reducible rfl))
          case h7z29 => assumption
          try simp only [Act.put, List.setIfInBounds_toArray, List.set_cons_zero, List.set_cons_succ]
          refine wpAnyH_ready (rs := [29]) (by kernel_rfl) (by simp) ?_
          refine AllReadyH.cons (o := ?oz30) ?h1z30 ?h2z30 ?h3z30
          case h1z30 => (simp only [List.getElem?_toArray, List.getElem?_cons_succ, List.getElem?_cons_zero]; exact rfl)
          case' h2z30 => intro K hK
          · go_simp
            refine hK.out _ _ HS1.out (fun hHeld => ?_)
            clear hK K
            try simp only [Act.put, List.setIfInBounds_toArray, List.set_cons_zero, List.set_cons_succ]
            refine wpAnyH_take (i := 30) (oi := ?oz31) (v := ?vz31) ?h1z31 ?h2z31 ?h3z31 ?h4z31 ?h5z31 ?h6z31 ?h7z31 ?h8z31
            case h1z31 => (simp only [List.getElem?_toArray, List.getElem?_cons_succ, List.getElem?_cons_zero]; exact rfl)
            case h2z31 => kernel_rfl
            case h3z31 => kernel_rfl
            case h4z31 => kernel_rfl
            case h5z31 => exact fun _ _ _ h => h
            case h6z31 => (refine Or.inl ⟨by rfl, ?_⟩; intro W' hSw; obtain ⟨s1, s2⟩ := hSw; go_simp; try (with_reducible rfl))
            case h7z31 => assumption
            try simp only [Act.put, List.setIfInBounds_toArray, List.set_cons_zero, List.set_cons_succ]
            refine wpAnyH_ready (rs := [31]) (by kernel_rfl) (by simp) ?_
            refine AllReadyH.cons (o := ?oz32) ?h1z32 ?h2z32 ?h3z32
            case h1z32 => (simp only [List.getElem?_toArray, List.getElem?_cons_succ, List.getElem?_cons_zero]; exact rfl)
            case' h2z32 => intro K hK
            · go_simp
              refine hK.out _ _ HS2.out (fun hHeld => ?_)
              clear hK K
              try simp only [Act.put, List.setIfInBounds_toArray, List.set_cons_zero, List.set_cons_succ]
              refine wpAnyH_done (by kernel_rfl) ?_ _
              have HZ := Lib.hid (show EL B0 w0 E X (.iface 74 (.int .i64 md)) g N c (swN rb k (k + b)) (swN cp k (k + b)) (swp f k (k + b)) p (((V.setCell ⟨g, k, none⟩ (.slice (some ⟨rb (k + b), 0, none⟩) N (cp (k + b)))).setCell ⟨g, k + b, none⟩ (.slice (some ⟨rb k, 0, none⟩) N (cp k))).drew) from HSW.out)
              have yZ : (((V.setCell ⟨g, k, none⟩ (.slice (some ⟨rb (k + b), 0, none⟩) N (cp (k + b)))).setCell ⟨g, k + b, none⟩ (.slice (some ⟨rb k, 0, none⟩) N (cp k))).drew).cell? ⟨Y, 0, none⟩ = some (.int .i64 (k : Int)) := HS2.out.2
              have HYR := Lib.hid (show g ≠ Y ∧ ∀ i, i < N → swN rb k (k + b) i ≠ Y from ⟨HY.out.1, fun i hi => by
                unfold swN
                by_cases e1 : i = k
                · rw [if_pos e1]; exact HY.out.2 _ hb2
                · rw [if_neg e1]
                  by_cases e2 : i = k + b
                  · rw [if_pos e2]; exact HY.out.2 _ hk
                  · rw [if_neg e2]; exact HY.out.2 _ hi⟩)
              have hfb : ∀ j, swp f k (k + b) k j = f (k + b) j := fun j => by unfold swp; rw [if_pos rfl]
              have HFB := Lib.hid hfb
              generalize ((V.setCell ⟨g, k, none⟩ (.slice (some ⟨rb (k + b), 0, none⟩) N (cp (k + b)))).setCell ⟨g, k + b, none⟩ (.slice (some ⟨rb k, 0, none⟩) N (cp k))).drew = Z at HZ yZ ⊢
              have HFIN := Lib.hid (⟨k + b, by omega, hb2, HNZ.out, rfl⟩ : ∃ b', k < b' ∧ b' < N ∧ f b' k ≠ 0 ∧ ngF r (swp f k (k + b)) k N = ngF r (swp f k b') k N)
              generalize swp f k (k + b) = F at HZ HFB HFIN
              generalize swN rb k (k + b) = rb1 at HZ HYR
              generalize swN cp k (k + b) = cp1 at HZ
              clear hHeld HSW HS0 HS1 HS2 d2 d3 d4 d5 d6 d7 u1 u2 u3 u4 u5 HEQ y0' HNZ hfb hkb hkb2 hkb3 hkb4 hkb5 hv0 HY
              have v1 := HZ.out.n1
              have v2 := HZ.out.hd k hk
              go_wp2_with fail
              go_quiet (fail)
              have HZ2 := Lib.hid (HZ.out.next ((Qt.refl Z).drewN nq).below HZ.out.size)
              have yZ2 := ((Qt.refl Z).drewN nq).cell yZ
              generalize Z.drewN nq = Z2 at HZ2 yZ2 ⊢
              clear HZ yZ v1 v2
              go_wp2
              go_loopw [55] (fun i wr => ∃ j : Nat, j ≤ N ∧ i = .int .i64 j ∧ EL B0 w0 E X (.iface 74 (.int .i64 md)) g N c rb1 cp1 (ngF r F k j) p wr ∧ wr.cell? ⟨Y, 0, none⟩ = some (.int .i64 (k : Int))) (fun i _ => N - (intOf i).toNat)
              case atStart => exact ⟨0, Nat.zero_le _, rfl, by rw [ngF_0]; exact HZ2.out, yZ2⟩
              case round =>
                clear HZ2 yZ2
                obtain ⟨j, hj, rfl, hE, y0⟩ := hrel
                by_cases hjt : j < N
                · have hjI : (j : Int) < (N : Int) := by omega
                  have hj0 : (0 : Int) ≤ (j : Int) := by omega
                  have v0 := hE.n0
                  have v1 := hE.n1
                  have v2 := hE.hd k hk
                  have v3 := hE.at_ k j hk hjt
                  have v6 := hE.fz k j hk hjt
                  have hst := ngF_put r F k j
                  rw [ngF_at] at v3
                  have hrr := HR.out (k + b) j (by omega) hb2 hjt
                  have hll := HL.out (k + b) j hb2 hjt
                  rw [HFB.out j] at hst v3
                  obtain ⟨x, hx⟩ : ∃ x, x = r (f (k + b) j) := ⟨_, rfl⟩
                  rw [← hx] at hrr hst
                  generalize f (k + b) j = z at v3 hrr hll
                  have t1 : IntKind.i64.wrap (-z) = -z := IntWalk.i64_in _ (by clear hx; omega)
                  have t2 : wrap64 (-z) = -z := IntWalk.wrap64_in _ (by clear hx t1; omega)
                  have HRR := Lib.hid hrr
                  have HST := Lib.hid hst
                  have d3 : wr.drew.cell? ⟨rb1 k, j, none⟩ = _ := v3
                  have d6 : wr.drew.frozen? ⟨rb1 k, j, none⟩ = _ := v6
                  have d0 : wr.drew.cell? ⟨Y, 0, none⟩ = _ := y0
                  have d2 : wr.drew.cell? ⟨g, k, none⟩ = _ := v2
                  have HDR := Lib.hid hE.drew
                  have HKF := Lib.hid (World.block_lt_of_cell? wr.drew _ d3)
                  have HNY := Lib.hid (fun e : Y = rb1 k => HYR.out.2 k hk e.symm)
                  clear hrr hst hx hE hll
                  have hmr := m_redM md
                  go_wp2_with fail
                  go_region_held3 (fun W' => W'.cell? ⟨X, 0, none⟩ = some (.iface 74 (.int .i64 md)) ∧ W'.cell? ⟨X, 1, none⟩ = some (.slice (some ⟨g, 0, none⟩) N c) ∧ W'.cell? ⟨Y, 0, none⟩ = some (.int .i64 (k : Int)) ∧ W'.cell? ⟨g, k, none⟩ = some (.slice (some ⟨rb1 k, 0, none⟩) N (cp1 k)))
                    (first | (exact ⟨v0, v1, y0, v2⟩) | (exact ⟨z0, z1, z4, z5⟩) | (go_split_ands; exact ⟨b2.keep (by assumption), b2.keep (by assumption), b2.keep (by assumption), b2.keep (by assumption)⟩) | go_keep)
                    (first
                      | (go_at_call 107; refine (HRR.out _).mono ?_; rintro e w2 ⟨rfl, b2⟩; have y3' := b2.keep d3; have y6' := b2.keepf HKF.out d6; have E2 := (HDR.out.next b2 HDR.out.size).num hk hjt x; have z0 := E2.n0; have z1 := E2.n1; have z4 := cell_other (b' := rb1 k) (o' := j) (u := .int .i64 x) (b2.keep d0) (Or.inl HNY.out); have z5 := E2.hd k hk))
                  all_goals
                    rw [HST.out] at E2
                    have HF := Lib.hid E2
                    clear E2 z0 z1 z5 y3' y6' b2 d3 d6 d0 d2 HDR HST v0 v1 v2 v3 v6 y0 hmr t1 t2 HRR HKF
                    go_wp2
                    go_roundw
                    case rel => exact ⟨j+1, by omega, by go_num, HF.out, z4⟩
                    case measure => simp [intOf]; omega
                · obtain rfl : j = N := by omega
                  have HF := Lib.hid hE
                  clear hE
                  go_wp2
                  refine bodyPost_end (results_none rfl _ _ _) rfl ?_
                  exact ⟨rfl, rb1, cp1, _, HF.out, .inr HFIN.out⟩
            exact AllReadyH.nil
          exact AllReadyH.nil
        exact AllReadyH.nil
      refine AllReadyH.cons (o := ?oz33) ?h1z33 ?h2z33 ?h3z33
      case h1z33 => (simp only [List.getElem?_toArray, List.getElem?_cons_succ, List.getElem?_cons_zero]; exact rfl)
      case' h2z33 => intro K hK
      · go_simp
        refine hK.out _ _ HS0.out (fun hHeld => ?_)
        clear hK K
        try simp only [Act.put, List.setIfInBounds_toArray, List.set_cons_zero, List.set_cons_succ]
        refine wpAnyH_ready (rs := [20]) (by kernel_rfl) (by simp) ?_
        refine AllReadyH.cons (o := ?oz34) ?h1z34 ?h2z34 ?h3z34
        case h1z34 => (simp only [List.getElem?_toArray, List.getElem?_cons_succ, List.getElem?_cons_zero]; exact rfl)
        case' h2z34 => intro K hK
        · go_simp
          refine hK.out _ _ HS0.out (fun hHeld => ?_)
          clear hK K
          try simp only [Act.put, List.setIfInBounds_toArray, List.set_cons_zero, List.set_cons_succ]
          refine wpAnyH_take (i := 28) (oi := ?oz35) (v := ?vz35) ?h1z35 ?h2z35 ?h3z35 ?h4z35 ?h5z35 ?h6z35 ?h7z35 ?h8z35
          case h1z35 => (simp only [List.getElem?_toArray, List.getElem?_cons_succ, List.getElem?_cons_zero]; exact rfl)
          case h2z35 => kernel_rfl
          case h3z35 => kernel_rfl
          case h4z35 => kernel_rfl
          case h5z35 => exact fun _ _ _ h => h
          case h6z35 => (refine Or.inl ⟨by rfl, ?_⟩; intro W' hSw; obtain ⟨s1, s2⟩ := hSw; go_simp; try (with_reducible rfl))
          case h7z35 => assumption
          try simp only [Act.put, List.setIfInBounds_toArray, List.set_cons_zero, List.set_cons_succ]
          refine wpAnyH_ready (rs := [29]) (by kernel_rfl) (by simp) ?_
          refine AllReadyH.cons (o := ?oz36) ?h1z36 ?h2z36 ?h3z36
          case h1z36 => (simp only [List.getElem?_toArray, List.getElem?_cons_succ, List.getElem?_cons_zero]; exact rfl)
          case' h2z36 => intro K hK
          · go_simp
            refine hK.out _ _ HS1.out (fun hHeld => ?_)
            clear hK K
            try simp only [Act.put, List.setIfInBounds_toArray, List.set_cons_zero, List.set_cons_succ]
            refine wpAnyH_take (i := 30) (oi := ?oz37) (v := ?vz37) ?h1z37 ?h2z37 ?h3z37 ?h4z37 ?h5z37 ?h6z37 ?h7z37 ?h8z37
            case h1z37 => (simp only [List.getElem?_toArray, List.getElem?_cons_succ, List.getElem?_cons_zero]; exact rfl)
            case h2z37 => kernel_rfl
            case h3z37 => kernel_rfl
            case h4z37 => kernel_rfl
            case h5z37 => exact fun _ _ _ h => h
            case h6z37 => (refine Or.inl ⟨by rfl, ?_⟩; intro W' hSw; obtain ⟨s1, s2⟩ := hSw; go_simp; try (with_reducible rfl))
            case h7z37 => assumption
            try simp only [Act.put, List.setIfInBounds_toArray, List.set_cons_zero, List.set_cons_succ]
            refine wpAnyH_ready (rs := [31]) (by kernel_rfl) (by simp) ?_
            refine AllReadyH.cons (o := ?oz38) ?h1z38 ?h2z38 ?h3z38
            case h1z38 => (simp only [List.getElem?_toArray, List.getElem?_cons_succ, List.getElem?_cons_zero]; exact rfl)
            case' h2z38 => intro K hK
            · go_simp
              refine hK.out _ _ HS2.out (fun hHeld => ?_)
              clear hK K
              try simp only [Act.put, List.setIfInBounds_toArray, List.set_cons_zero, List.set_cons_succ]
              refine wpAnyH_done (by kernel_rfl) ?_ _
              have HZ := Lib.hid (show EL B0 w0 E X (.iface 74 (.int .i64 md)) g N c (swN rb k (k + b)) (swN cp k (k + b)) (swp f k (k + b)) p (((V.setCell ⟨g, k, none⟩ (.slice (some ⟨rb (k + b), 0, none⟩) N (cp (k + b)))).setCell ⟨g, k + b, none⟩ (.slice (some ⟨rb k, 0, none⟩) N (cp k))).drew) from HSW.out)
              have yZ : (((V.setCell ⟨g, k, none⟩ (.slice (some ⟨rb (k + b), 0, none⟩) N (cp (k + b)))).setCell ⟨g, k + b, none⟩ (.slice (some ⟨rb k, 0, none⟩) N (cp k))).drew).cell? ⟨Y, 0, none⟩ = some (.int .i64 (k : Int)) := HS2.out.2
              have HYR := Lib.hid (show g ≠ Y ∧ ∀ i, i < N → swN rb k (k + b) i ≠ Y from ⟨HY.out.1, fun i hi => by
                unfold swN
                by_cases e1 : i = k
                · rw [if_pos e1]; exact HY.out.2 _ hb2
                · rw [if_neg e1]
                  by_cases e2 : i = k + b
                  · rw [if_pos e2]; exact HY.out.2 _ hk
                  · rw [if_neg e2]; exact HY.out.2 _ hi⟩)
              have hfb : ∀ j, swp f k (k + b) k j = f (k + b) j := fun j => by unfold swp; rw [if_pos rfl]
              have HFB := Lib.hid hfb
              generalize ((V.setCell ⟨g, k, none⟩ (.slice (some ⟨rb (k + b), 0, none⟩) N (cp (k + b)))).setCell ⟨g, k + b, none⟩ (.slice (some ⟨rb k, 0, none⟩) N (cp k))).drew = Z at HZ yZ ⊢
              have HFIN := Lib.hid (⟨k + b, by omega, hb2, HNZ.out, rfl⟩ : ∃ b', k < b' ∧ b' < N ∧ f b' k ≠ 0 ∧ ngF r (swp f k (k + b)) k N = ngF r (swp f k b') k N)
              generalize swp f k (k + b) = F at HZ HFB HFIN
              generalize swN rb k (k + b) = rb1 at HZ HYR
              generalize swN cp k (k + b) = cp1 at HZ
              clear hHeld HSW HS0 HS1 HS2 d2 d3 d4 d5 d6 d7 u1 u2 u3 u4 u5 HEQ y0' HNZ hfb hkb hkb2 hkb3 hkb4 hkb5 hv0 HY
              have v1 := HZ.out.n1
              have v2 := HZ.out.hd k hk
              go_wp2_with fail
              go_quiet (fail)
              have HZ2 := Lib.hid (HZ.out.next ((Qt.refl Z).drewN nq).below HZ.out.size)
              have yZ2 := ((Qt.refl Z).drewN nq).cell yZ
              generalize Z.drewN nq = Z2 at HZ2 yZ2 ⊢
              clear HZ yZ v1 v2
              go_wp2
              go_loopw [55] (fun i wr => ∃ j : Nat, j ≤ N ∧ i = .int .i64 j ∧ EL B0 w0 E X (.iface 74 (.int .i64 md)) g N c rb1 cp1 (ngF r F k j) p wr ∧ wr.cell? ⟨Y, 0, none⟩ = some (.int .i64 (k : Int))) (fun i _ => N - (intOf i).toNat)
              case atStart => exact ⟨0, Nat.zero_le _, rfl, by rw [ngF_0]; exact HZ2.out, yZ2⟩
              case round =>
                clear HZ2 yZ2
                obtain ⟨j, hj, rfl, hE, y0⟩ := hrel
                by_cases hjt : j < N
                · have hjI : (j : Int) < (N : Int) := by omega
                  have hj0 : (0 : Int) ≤ (j : Int) := by omega
                  have v0 := hE.n0
                  have v1 := hE.n1
                  have v2 := hE.hd k hk
                  have v3 := hE.at_ k j hk hjt
                  have v6 := hE.fz k j hk hjt
                  have hst := ngF_put r F k j
                  rw [ngF_at] at v3
                  have hrr := HR.out (k + b) j (by omega) hb2 hjt
                  have hll := HL.out (k + b) j hb2 hjt
                  rw [HFB.out j] at hst v3
                  obtain ⟨x, hx⟩ : ∃ x, x = r (f (k + b) j) := ⟨_, rfl⟩
                  rw [← hx] at hrr hst
                  generalize f (k + b) j = z at v3 hrr hll
                  have t1 : IntKind.i64.wrap (-z) = -z := IntWalk.i64_in _ (by clear hx; omega)
                  have t2 : wrap64 (-z) = -z := IntWalk.wrap64_in _ (by clear hx t1; omega)
                  have HRR := Lib.hid hrr
                  have HST := Lib.hid hst
                  have d3 : wr.drew.cell? ⟨rb1 k, j, none⟩ = _ := v3
                  have d6 : wr.drew.frozen? ⟨rb1 k, j, none⟩ = _ := v6
                  have d0 : wr.drew.cell? ⟨Y, 0, none⟩ = _ := y0
                  have d2 : wr.drew.cell? ⟨g, k, none⟩ = _ := v2
                  have HDR := Lib.hid hE.drew
                  have HKF := Lib.hid (World.block_lt_of_cell? wr.drew _ d3)
                  have HNY := Lib.hid (fun e : Y = rb1 k => HYR.out.2 k hk e.symm)
                  clear hrr hst hx hE hll
                  have hmr := m_redM md
                  go_wp2_with fail
                  go_region_held3 (fun W' => W'.cell? ⟨X, 0, none⟩ = some (.iface 74 (.int .i64 md)) ∧ W'.cell? ⟨X, 1, none⟩ = some (.slice (some ⟨g, 0, none⟩) N c) ∧ W'.cell? ⟨Y, 0, none⟩ = some (.int .i64 (k : Int)) ∧ W'.cell? ⟨g, k, none⟩ = some (.slice (some ⟨rb1 k, 0, none⟩) N (cp1 k)))
                    (first | (exact ⟨v0, v1, y0, v2⟩) | (exact ⟨z0, z1, z4, z5⟩) | (go_split_ands; exact ⟨b2.keep (by assumption), b2.keep (by assumption), b2.keep (by assumption), b2.keep (by assumption)⟩) | go_keep)
                    (first
                      | (go_at_call 107; refine (HRR.out _).mono ?_; rintro e w2 ⟨rfl, b2⟩; have y3' := b2.keep d3; have y6' := b2.keepf HKF.out d6; have E2 := (HDR.out.next b2 HDR.out.size).num hk hjt x; have z0 := E2.n0; have z1 := E2.n1; have z4 := cell_other (b' := rb1 k) (o' := j) (u := .int .i64 x) (b2.keep d0) (Or.inl HNY.out); have z5 := E2.hd k hk))
                  all_goals
                    rw [HST.out] at E2
                    have HF := Lib.hid E2
                    clear E2 z0 z1 z5 y3' y6' b2 d3 d6 d0 d2 HDR HST v0 v1 v2 v3 v6 y0 hmr t1 t2 HRR HKF
                    go_wp2
                    go_roundw
                    case rel => exact ⟨j+1, by omega, by go_num, HF.out, z4⟩
                    case measure => simp [intOf]; omega
                · obtain rfl : j = N := by omega
                  have HF := Lib.hid hE
                  clear hE
                  go_wp2
                  refine bodyPost_end (results_none rfl _ _ _) rfl ?_
                  exact ⟨rfl, rb1, cp1, _, HF.out, .inr HFIN.out⟩
            exact AllReadyH.nil
          exact AllReadyH.nil
        exact AllReadyH.nil
      exact AllReadyH.nil
end Go.Proofs.Ytnblhkhdilkbeaa
